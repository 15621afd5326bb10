package weight_test

import (
	"go/parser"
	"go/token"
	"os"
	"slices"
	"strconv"
	"strings"
	"testing"

	"groutwork/api"
	"groutwork/weight"
)

// R2: ErrForm comes before ErrArg, and ErrArg before ErrSize.
func TestOrderOfErrors(t *testing.T) {
	set := parse(t, "1.1.0.0")
	good := api.Weights{Values: whole(api.MaxPart, api.MaxPart), Carries: whole(0, 0), Factors: whole(2)}
	bad := copyWeights(good)
	bad.Factors[0].Num = 0
	for _, row := range [][]int{nil, {0, 0}, {1}} {
		wantNoRow(t, "weights and row", set, bad, row, api.ErrForm)
		wantNoRow(t, "row", set, good, row, api.ErrArg)
	}
	wantNoRow(t, "weights", set, bad, []int{0}, api.ErrForm)
	wantRow(t, "nothing", set, good, []int{0}, frac(api.MaxPart, 1), frac(api.MaxPart, 1))
	loop := parse(t, "1.0.0.0")
	good.Carries = whole(0)
	wantNoRow(t, "row and sums", loop, good, []int{0, 0, 1}, api.ErrArg)
	wantNoRow(t, "row that is too long, and sums", loop, good, make([]int, api.MaxCells+1), api.ErrArg)
	wantNoRow(t, "sums", loop, good, []int{0, 0}, api.ErrSize)
}

// R4: a nil slice and an empty slice are the same.
func TestNilIsEmpty(t *testing.T) {
	empty := api.Weights{Values: []api.Frac{}, Carries: []api.Frac{}, Factors: []api.Frac{}, Primes: []int{}, Logs: []int{}}
	for _, set := range [][]api.Tile{nil, {}} {
		for _, w := range []api.Weights{{}, empty} {
			if !weight.Valid(set, w) || !check(t, set, w) {
				t.Errorf("%v, %v", set, w)
			}
			for _, row := range [][]int{nil, {}} {
				wantNoRow(t, "empty", set, w, row, api.ErrArg)
			}
		}
	}
	set, w := twice(t)
	for _, l := range [][]int{nil, {}} {
		w.Primes, w.Logs = l, l
		if !weight.Valid(set, w) || check(t, set, w) {
			t.Errorf("%v", w)
		}
	}
}

// R5: arguments are not changed, nor is the memory behind their end.
func TestArgumentsUnchanged(t *testing.T) {
	set, w := endless()
	set = append(set, api.Tile{N: 7})
	w.Values = append(w.Values, frac(2, 4))
	w.Carries = append(w.Carries, frac(4, 6))
	w.Factors = append(w.Factors, frac(6, 3))
	w.Primes = append(w.Primes, 5)
	w.Logs = append(w.Logs, -7)
	row := append(loops(set[:len(set)-1], 3)[0], 99)
	setBefore, before, rowBefore := slices.Clone(set), copyWeights(w), slices.Clone(row)
	v := api.Weights{
		Values:  w.Values[:len(w.Values)-1],
		Carries: w.Carries[:len(w.Carries)-1],
		Factors: w.Factors[:len(w.Factors)-1],
		Primes:  w.Primes[:len(w.Primes)-1],
		Logs:    w.Logs[:len(w.Logs)-1],
	}
	if !weight.Valid(set[:len(set)-1], v) || !check(t, set[:len(set)-1], v) {
		t.Error("not accepted")
	}
	if _, _, e := weight.Row(set[:len(set)-1], v, row[:len(row)-1]); e != api.OK {
		t.Errorf("error %d", e)
	}
	if !slices.Equal(set, setBefore) || !sameWeights(w, before) || !slices.Equal(row, rowBefore) {
		t.Errorf("%v, %v, %v", set, w, row)
	}
}

// R6: a result depends only on the arguments; calls in between do not matter.
func TestSameResultsAgain(t *testing.T) {
	for _, c := range multiplied() {
		row := loops(c.set, 4)[0]
		south, north, e := weight.Row(c.set, c.w, row)
		other := copyWeights(c.w)
		other.Values[len(other.Values)-1] = frac(0, 1)
		for range 3 {
			if !weight.Valid(c.set, c.w) || !check(t, c.set, c.w) || check(t, c.set, other) {
				t.Errorf("%v, %v", c.set, c.w)
			}
			wantNoRow(t, "no row", c.set, c.w, nil, api.ErrArg)
			if s, n, f := weight.Row(c.set, c.w, row); s != south || n != north || f != e {
				t.Errorf("%v: %v, %v, error %d, then %v, %v, error %d", row, south, north, e, s, n, f)
			}
		}
	}
}

// The chapter: weight builds on layer 1; LANGUAGE.md lists what may be used of the library.
func TestImports(t *testing.T) {
	entries, err := os.ReadDir(".")
	if err != nil {
		t.Fatal(err)
	}
	allowed := []string{"groutwork/api", "groutwork/tile", "bytes", "cmp", "container/heap", "errors", "iter", "maps", "math", "math/bits", "slices", "sort", "strconv", "strings", "sync", "sync/atomic", "unicode", "unicode/utf8"}
	for _, entry := range entries {
		name := entry.Name()
		if !strings.HasSuffix(name, ".go") || strings.HasSuffix(name, "_test.go") {
			continue
		}
		file, err := parser.ParseFile(token.NewFileSet(), name, nil, parser.ImportsOnly)
		if err != nil {
			t.Fatal(err)
		}
		for _, i := range file.Imports {
			if path, _ := strconv.Unquote(i.Path.Value); !slices.Contains(allowed, path) {
				t.Errorf("%s imports %s", name, path)
			}
		}
	}
}
