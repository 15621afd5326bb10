package strip_test

import (
	"go/parser"
	"go/token"
	"os"
	"slices"
	"strconv"
	"strings"
	"testing"

	"groutwork/api"
	"groutwork/strip"
)

// R4: a nil slice and an empty slice are the same.
func TestEmptySet(t *testing.T) {
	for _, set := range [][]api.Tile{nil, {}} {
		if core := coreOf(t, set); len(core) != 0 {
			t.Errorf("the core is %v", core)
		}
		if n := longest(t, set); n != 0 {
			t.Errorf("rows up to %d", n)
		}
		for _, other := range [][]api.Tile{nil, {}, {{}}} {
			if on, _ := wantOn(t, set, other); len(on) != 0 {
				t.Errorf("%v on the empty set: %v", other, on)
			}
			if on, _ := wantOn(t, other, set); len(on) != 0 {
				t.Errorf("the empty set on %v: %v", other, on)
			}
		}
		wantNoPath(t, set, 0, 0, 1, api.ErrNone)
		wantNoPath(t, set, 0, 0, 0, api.ErrArg)
	}
}

// R5: arguments are neither changed nor retained, and results are new memory.
func TestNewMemory(t *testing.T) {
	a, b := parse(t, fives), parse(t, chess)
	// Memory behind the end of an argument is the caller's, too.
	a = append(a, api.Tile{N: 7})[:4]
	core := coreOf(t, a)
	longest(t, a)
	set, from := wantOn(t, a, b)
	path, e := strip.Path(a, 0, 1, 3)
	if e != api.OK || !slices.Equal(a[:5], append(parse(t, fives), api.Tile{N: 7})) || !slices.Equal(b, parse(t, chess)) {
		t.Fatalf("%v, %v, error %d", a[:5], b, e)
	}
	wantCore, wantSet, wantFrom, wantPath := slices.Clone(core), slices.Clone(set), slices.Clone(from), slices.Clone(path)
	core2 := coreOf(t, a)
	set2, from2 := wantOn(t, a, b)
	path2, _ := strip.Path(a, 0, 1, 3)
	core2[0], set2[0], from2[0], path2[0] = -1, api.Tile{N: 9}, [2]int{-1, -1}, -1
	a[0], b[0] = api.Tile{N: 5}, api.Tile{N: 6}
	if !slices.Equal(core, wantCore) || !slices.Equal(set, wantSet) || !slices.Equal(from, wantFrom) || !slices.Equal(path, wantPath) {
		t.Errorf("%v, %v, %v, %v: the results share memory", core, set, from, path)
	}
}

// R6: a result depends only on the arguments; calls in between do not matter.
func TestSameResultsAgain(t *testing.T) {
	for _, set := range mixedSets(20, 30, 4) {
		core := coreOf(t, set)
		on, from := wantOn(t, set, set)
		path, e := strip.Path(set, 0, 1, 9)
		for range 5 {
			wantOn(t, parse(t, chess), parse(t, fives))
			if again := coreOf(t, set); !slices.Equal(again, core) {
				t.Errorf("%v, then %v", core, again)
			}
			if on2, from2 := wantOn(t, set, set); !slices.Equal(on2, on) || !slices.Equal(from2, from) {
				t.Errorf("%v, then %v", on, on2)
			}
			if path2, e2 := strip.Path(set, 0, 1, 9); e2 != e || !slices.Equal(path2, path) {
				t.Errorf("%v, then %v", path, path2)
			}
		}
	}
}

// The chapter: strip builds on layer 1; LANGUAGE.md lists what may be used of the library.
func TestImports(t *testing.T) {
	entries, err := os.ReadDir(".")
	if err != nil {
		t.Fatal(err)
	}
	allowed := []string{"groutwork/api", "groutwork/tile", "bytes", "cmp", "container/heap", "errors", "iter", "maps", "math", "math/bits", "slices", "sort", "strconv", "strings", "sync", "sync/atomic", "unicode", "unicode/utf8"}
	for _, entry := range entries {
		name := entry.Name()
		if !strings.HasSuffix(name, ".go") || strings.HasSuffix(name, "_test.go") {
			continue
		}
		file, err := parser.ParseFile(token.NewFileSet(), name, nil, parser.ImportsOnly)
		if err != nil {
			t.Fatal(err)
		}
		for _, i := range file.Imports {
			if path, _ := strconv.Unquote(i.Path.Value); !slices.Contains(allowed, path) {
				t.Errorf("%s imports %s", name, path)
			}
		}
	}
}
