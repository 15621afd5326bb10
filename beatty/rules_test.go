package beatty_test

import (
	"go/parser"
	"go/token"
	"os"
	"slices"
	"strconv"
	"strings"
	"testing"

	"groutwork/api"
	"groutwork/beatty"
)

// R2: the errors come in the order of the chapter.
func TestOrderOfErrors(t *testing.T) {
	shrink := one(frac(1, 2), frac(0, 1), frac(1, 1))
	bad := one(frac(2, 2), frac(0, 1), frac(1, 1))
	long := frac(1, 3)
	for _, c := range []struct {
		what          string
		l             []api.Piece
		x             api.Frac
		width, height int
		want          api.Errno
	}{
		{"pieces, and all else", bad, frac(1, 0), 0, greatest, api.ErrForm},
		{"fraction, and tiles", tooMany(), frac(1, 0), 0, greatest, api.ErrForm},
		{"fraction, and sides", shrink, frac(1, 0), 0, greatest, api.ErrForm},
		{"tiles, and sides", tooMany(), frac(-1, 1), 0, greatest, api.ErrSize},
		{"sides, and number", shrink, frac(-1, 1), 0, greatest, api.ErrArg},
		{"cells, and number", shrink, frac(-1, 1), 201, 200, api.ErrSize},
		{"number", shrink, frac(-1, 1), 200, 200, api.ErrNone},
		{"long number", shrink, long, 200, 200, api.ErrSize},
	} {
		wantNoOrbit(t, c.what, c.l, c.x, c.width, c.height, c.want)
	}
}

// R4: a nil slice and an empty slice are the same.
func TestNilIsEmpty(t *testing.T) {
	wantInvalid(t, "nil", nil)
	wantInvalid(t, "empty", []api.Piece{})
}

// R5: arguments are not changed, nor is the memory behind their end; results are new memory.
func TestNewMemory(t *testing.T) {
	l := append(kari(), culik()...)
	before := slices.Clone(l)
	part := l[:2]
	use := func() ([]api.Tile, api.Weights, api.Pattern) {
		wantClosed(t, part, true)
		set := tilesOf(t, part)
		w, e := beatty.Weigh(part)
		if e != api.OK {
			t.Fatalf("error %d", e)
		}
		return set, w, orbitOf(t, part, frac(1, 1), 5, 5)
	}
	set, w, p := use()
	if !slices.Equal(l, before) {
		t.Fatalf("%v, want %v", l, before)
	}
	set[0], p.Cells[0] = api.Tile{N: -1}, -1
	for _, list := range [][]api.Frac{w.Values, w.Carries, w.Factors} {
		for i := range list {
			list[i] = frac(-7, 7)
		}
	}
	w.Primes[0], w.Logs[0] = -7, -8
	if slices.Contains(w.Logs, -7) || slices.Contains(w.Primes, -8) {
		t.Errorf("%v: the lists share memory", w)
	}
	newSet, newW, newP := use()
	l[0], l[1] = api.Piece{}, api.Piece{}
	want, _ := slowWeights(before[:2])
	wantSet, _ := coloured(before[:2])
	wantCells, _ := slowOrbit(before[:2], frac(1, 1), 5, 5)
	if !slices.Equal(newSet, wantSet) || !sameWeights(newW, want) || !slices.Equal(newP.Cells, wantCells) {
		t.Errorf("%v, %v, %v: results share memory", newSet, newW, newP)
	}
}

// R6: a result depends only on the arguments; calls in between do not matter.
func TestSameResultsAgain(t *testing.T) {
	all := closedSystems()
	for range 2 {
		for _, l := range all {
			set, w, p := tilesOf(t, l), api.Weights{}, orbitOf(t, l, frac(1, 1), 8, 8)
			w, e := beatty.Weigh(l)
			wantInvalid(t, "nil", nil)
			tilesOf(t, full())
			v, f := beatty.Weigh(l)
			if !slices.Equal(tilesOf(t, l), set) || !sameWeights(v, w) || e != f || !slices.Equal(orbitOf(t, l, frac(1, 1), 8, 8).Cells, p.Cells) {
				t.Errorf("%v: other results", l)
			}
		}
		slices.Reverse(all)
	}
}

// The document's overview: beatty calls layers 1 and 6; LANGUAGE.md lists what may be used of the library.
func TestImports(t *testing.T) {
	entries, err := os.ReadDir(".")
	if err != nil {
		t.Fatal(err)
	}
	allowed := []string{"groutwork/api", "groutwork/tile", "groutwork/weight", "bytes", "cmp", "container/heap", "errors", "iter", "maps", "math", "math/bits", "slices", "sort", "strconv", "strings", "sync", "sync/atomic", "unicode", "unicode/utf8"}
	for _, entry := range entries {
		name := entry.Name()
		if !strings.HasSuffix(name, ".go") || strings.HasSuffix(name, "_test.go") {
			continue
		}
		file, err := parser.ParseFile(token.NewFileSet(), name, nil, parser.ImportsOnly)
		if err != nil {
			t.Fatal(err)
		}
		for _, i := range file.Imports {
			if path, _ := strconv.Unquote(i.Path.Value); !slices.Contains(allowed, path) {
				t.Errorf("%s imports %s", name, path)
			}
		}
	}
}
