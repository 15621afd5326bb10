package torus_test

import (
	"go/parser"
	"go/token"
	"os"
	"slices"
	"strconv"
	"strings"
	"testing"

	"groutwork/api"
	"groutwork/torus"
)

// R5: arguments are neither changed nor retained, and results are new memory.
func TestNewMemory(t *testing.T) {
	set := parse(t, stack)
	first := wantTorus(t, set, 2, 3)
	least, e := torus.Least(set, api.MaxPeriod)
	if e != api.OK || !slices.Equal(set, parse(t, stack)) {
		t.Errorf("%v, error %d", set, e)
	}
	want, wantLeast := slices.Clone(first.Cells), slices.Clone(least.Cells)
	again := wantTorus(t, set, 2, 3)
	for i := range again.Cells {
		again.Cells[i] = -1
	}
	set[0] = api.Tile{N: 5}
	if !slices.Equal(first.Cells, want) || !slices.Equal(least.Cells, wantLeast) {
		t.Errorf("%v, %v: the results share memory", first.Cells, least.Cells)
	}
}

// R6: a result depends only on the arguments; calls in between do not matter.
func TestSameResultsAgain(t *testing.T) {
	set := mixedSets(1, 4, 2)[0]
	for width := 1; width <= api.MaxPeriod; width++ {
		for height := 1; height <= api.MaxPeriod; height++ {
			p, e := torus.Find(set, width, height)
			for range 3 {
				exists(t, parse(t, chess), 2, 2)
				if q, f := torus.Find(set, width, height); e != f || !samePattern(p, q) {
					t.Errorf("%d by %d: %v, error %d, then %v, error %d", width, height, p, e, q, f)
				}
			}
		}
	}
}

// The chapter: torus builds on layer 1; LANGUAGE.md lists what may be used of the library.
func TestImports(t *testing.T) {
	entries, err := os.ReadDir(".")
	if err != nil {
		t.Fatal(err)
	}
	allowed := []string{"groutwork/api", "groutwork/tile", "bytes", "cmp", "container/heap", "errors", "iter", "maps", "math", "math/bits", "slices", "sort", "strconv", "strings", "sync", "sync/atomic", "unicode", "unicode/utf8"}
	for _, entry := range entries {
		name := entry.Name()
		if !strings.HasSuffix(name, ".go") || strings.HasSuffix(name, "_test.go") {
			continue
		}
		file, err := parser.ParseFile(token.NewFileSet(), name, nil, parser.ImportsOnly)
		if err != nil {
			t.Fatal(err)
		}
		for _, i := range file.Imports {
			if path, _ := strconv.Unquote(i.Path.Value); !slices.Contains(allowed, path) {
				t.Errorf("%s imports %s", name, path)
			}
		}
	}
}
