package fill_test

import (
	"go/parser"
	"go/token"
	"os"
	"reflect"
	"slices"
	"strconv"
	"strings"
	"testing"

	"groutwork/api"
	"groutwork/fill"
)

// R4: a nil slice and an empty slice are the same.
func TestNilIsEmpty(t *testing.T) {
	set := parse(t, chess)
	empty := api.Edges{North: []int{}, East: []int{}, South: []int{}, West: []int{}}
	if n := count(t, set, 3, 2, empty); n != 2 {
		t.Errorf("%d", n)
	}
	if p := wantPattern(t, set, 3, 2, empty); !slices.Equal(p.Cells, []int{0, 1, 0, 1, 0, 1}) {
		t.Errorf("%v", p)
	}
}

// R5: arguments are neither changed nor retained, and results are new memory.
func TestNewMemory(t *testing.T) {
	set := parse(t, free)
	edges := api.Edges{North: []int{1, 0, 1}, East: times(2, 0), South: []int{0, 1, 1}, West: times(2, 0)}
	before := api.Edges{North: []int{1, 0, 1}, East: times(2, 0), South: []int{0, 1, 1}, West: times(2, 0)}
	first := wantPattern(t, set, 3, 2, edges)
	count(t, set, 3, 2, edges)
	if !slices.Equal(set, parse(t, free)) || !reflect.DeepEqual(edges, before) {
		t.Errorf("%v, %v", set, edges)
	}
	want := slices.Clone(first.Cells)
	second := wantPattern(t, set, 3, 2, edges)
	for i := range second.Cells {
		second.Cells[i] = -1
	}
	for _, l := range [][]int{edges.North, edges.East, edges.South, edges.West} {
		l[0] = 5
	}
	set[0] = api.Tile{N: 5}
	if !slices.Equal(first.Cells, want) {
		t.Errorf("%v, want %v: the result shares memory", first.Cells, want)
	}
}

// R6: a result depends only on the arguments; calls in between do not matter.
func TestSameResultsAgain(t *testing.T) {
	set := parse(t, dominoes)
	first := wantPattern(t, set, 4, 5, zeros(4, 5))
	for range 5 {
		if n := count(t, set, 4, 5, zeros(4, 5)); n != 95 {
			t.Errorf("%d", n)
		}
		if p := wantPattern(t, set, 4, 5, zeros(4, 5)); !slices.Equal(p.Cells, first.Cells) {
			t.Errorf("%v, then %v", first, p)
		}
		if _, e := fill.Count(parse(t, free), 6, 60, api.Edges{}); e != api.ErrSize {
			t.Errorf("error %d", e)
		}
		wantError(t, "an odd number of cells", set, 3, 3, zeros(3, 3), api.ErrNone)
	}
}

// The chapter: fill builds on layer 1; LANGUAGE.md lists what may be used of the library.
func TestImports(t *testing.T) {
	entries, err := os.ReadDir(".")
	if err != nil {
		t.Fatal(err)
	}
	allowed := []string{"groutwork/api", "groutwork/tile", "bytes", "cmp", "container/heap", "errors", "iter", "maps", "math", "math/bits", "slices", "sort", "strconv", "strings", "sync", "sync/atomic", "unicode", "unicode/utf8"}
	for _, entry := range entries {
		name := entry.Name()
		if !strings.HasSuffix(name, ".go") || strings.HasSuffix(name, "_test.go") {
			continue
		}
		file, err := parser.ParseFile(token.NewFileSet(), name, nil, parser.ImportsOnly)
		if err != nil {
			t.Fatal(err)
		}
		for _, i := range file.Imports {
			if path, _ := strconv.Unquote(i.Path.Value); !slices.Contains(allowed, path) {
				t.Errorf("%s imports %s", name, path)
			}
		}
	}
}
