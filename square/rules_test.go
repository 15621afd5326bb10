package square_test

import (
	"go/parser"
	"go/token"
	"os"
	"slices"
	"strconv"
	"strings"
	"testing"

	"groutwork/api"
	"groutwork/square"
)

// R5: arguments are not changed, nor is the memory behind their end.
func TestArgumentsUnchanged(t *testing.T) {
	before := append(parse(t, fours), api.Tile{N: 7})
	set := slices.Clone(before)
	exists(t, set[:4], 5)
	if n, e := square.Largest(set[:4], api.MaxSide); n != 4 || e != api.OK || !slices.Equal(set, before) {
		t.Errorf("%d, error %d, %v", n, e, set)
	}
}

// R6: a result depends only on the arguments; calls in between do not matter.
func TestSameResultsAgain(t *testing.T) {
	for _, set := range mixedSets(10, 4, 3) {
		for side := 1; side <= api.MaxSide; side++ {
			is, e := square.Exists(set, side)
			n, f := square.Largest(set, side)
			for range 3 {
				exists(t, parse(t, chess), 2)
				wantLargest(t, fours, parse(t, fours), 5, 4, api.OK)
				if is2, e2 := square.Exists(set, side); is2 != is || e2 != e {
					t.Errorf("%v, %d: %v, error %d, then %v, error %d", set, side, is, e, is2, e2)
				}
				if n2, f2 := square.Largest(set, side); n2 != n || f2 != f {
					t.Errorf("%v, %d: %d, error %d, then %d, error %d", set, side, n, f, n2, f2)
				}
			}
		}
	}
}

// The chapter: square builds on layers 1 and 2; LANGUAGE.md lists what may be used of the library.
func TestImports(t *testing.T) {
	entries, err := os.ReadDir(".")
	if err != nil {
		t.Fatal(err)
	}
	allowed := []string{"groutwork/api", "groutwork/tile", "groutwork/fill", "bytes", "cmp", "container/heap", "errors", "iter", "maps", "math", "math/bits", "slices", "sort", "strconv", "strings", "sync", "sync/atomic", "unicode", "unicode/utf8"}
	for _, entry := range entries {
		name := entry.Name()
		if !strings.HasSuffix(name, ".go") || strings.HasSuffix(name, "_test.go") {
			continue
		}
		file, err := parser.ParseFile(token.NewFileSet(), name, nil, parser.ImportsOnly)
		if err != nil {
			t.Fatal(err)
		}
		for _, i := range file.Imports {
			if path, _ := strconv.Unquote(i.Path.Value); !slices.Contains(allowed, path) {
				t.Errorf("%s imports %s", name, path)
			}
		}
	}
}
