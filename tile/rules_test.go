package tile_test

import (
	"go/parser"
	"go/token"
	"os"
	"slices"
	"strconv"
	"strings"
	"testing"

	"groutwork/api"
	"groutwork/tile"
)

// patternCalls returns the functions from patterns to patterns, with the numbers with which they keep all cells.
func patternCalls() map[string]func(api.Pattern) (api.Pattern, api.Errno) {
	calls := map[string]func(api.Pattern) (api.Pattern, api.Errno){
		"Cut":    func(p api.Pattern) (api.Pattern, api.Errno) { return tile.Cut(p, 0, 0, p.Width, p.Height) },
		"Repeat": func(p api.Pattern) (api.Pattern, api.Errno) { return tile.Repeat(p, p.Width, p.Height) },
	}
	for _, c := range allChanges {
		calls[c.name] = c.pattern
	}
	return calls
}

// R5: arguments are neither changed nor retained, and results are new memory.
func TestPatternsAreNewMemory(t *testing.T) {
	for name, call := range patternCalls() {
		// Memory behind the end of an argument is the caller's, too.
		p := numbered(1, 5)
		p.Cells = append(p.Cells, 7)[:5]
		before := copyPattern(p)
		got, e := call(p)
		if e != api.OK || !samePattern(p, before) || p.Cells[:6][5] != 7 {
			t.Errorf("%s: %v becomes %v, error %d", name, before, p, e)
		}
		second, _ := call(p)
		want := copyPattern(got)
		for i := range p.Cells {
			p.Cells[i] = -1
			second.Cells[i] = -2
		}
		if !samePattern(got, want) || p.Cells[0] != -1 {
			t.Errorf("%s: the result shares memory", name)
		}
	}
}

func TestSetsAreNewMemory(t *testing.T) {
	for _, c := range allChanges {
		set := []api.Tile{{N: 1, E: 2, S: 3, W: 4}, {}}
		before := slices.Clone(set)
		got, e := c.set(set)
		if e != api.OK || !slices.Equal(set, before) {
			t.Errorf("%s: %v becomes %v, error %d", c.name, before, set, e)
		}
		want := slices.Clone(got)
		second, _ := c.set(set)
		for i := range set {
			set[i], second[i] = api.Tile{N: 500}, api.Tile{N: 501}
		}
		if !slices.Equal(got, want) || set[0].N != 500 {
			t.Errorf("%s: the result shares memory", c.name)
		}
	}
	first, second := parse(t, chess), parse(t, chess)
	first[0].N = 9
	if second[0].N != 0 || parse(t, chess)[0].N != 0 {
		t.Error("Parse: the results share memory")
	}
}

func TestChecksChangeNothing(t *testing.T) {
	set, p := parse(t, chess), chessboard()
	set[1], p.Cells[3] = api.Tile{N: 3, E: 2, S: 1, W: 0}, 7
	tile.Valid(set)
	tile.Fits(set, p)
	tile.Repeats(set, p)
	tile.Text(set)
	if set[1] != (api.Tile{N: 3, E: 2, S: 1, W: 0}) || !slices.Equal(p.Cells, []int{0, 1, 1, 7}) {
		t.Errorf("%v, %v", set, p)
	}
}

// R4: a nil slice and an empty slice are the same.
func TestNilIsEmpty(t *testing.T) {
	p := api.Pattern{Width: 1, Height: 1}
	if tile.Valid(nil) != tile.Valid([]api.Tile{}) {
		t.Error("Valid")
	}
	for name, call := range patternCalls() {
		_, e := call(p)
		_, f := call(api.Pattern{Width: 1, Height: 1, Cells: []int{}})
		if e != f {
			t.Errorf("%s: errors %d, %d", name, e, f)
		}
	}
}

// R6: a result depends only on the arguments; calls in between do not matter.
func TestSameResultsAgain(t *testing.T) {
	set := parse(t, chess)
	for range 3 {
		if s, e := tile.Text(set); e != api.OK || s != chess {
			t.Errorf("%q, error %d", s, e)
		}
		if !tile.Repeats(set, chessboard()) || tile.Repeats(set[:1], chessboard()) {
			t.Error("Repeats")
		}
		if _, e := tile.Parse("0.0.0"); e != api.ErrParse {
			t.Errorf("error %d", e)
		}
		if got, e := tile.Turn(set); e != api.OK || got[0] != (api.Tile{N: 0, E: 0, S: 1, W: 1}) {
			t.Errorf("%v, error %d", got, e)
		}
	}
}

// The chapter: of the project's packages, tile imports only api; of the library, what LANGUAGE.md lists.
func TestImports(t *testing.T) {
	entries, err := os.ReadDir(".")
	if err != nil {
		t.Fatal(err)
	}
	allowed := []string{"groutwork/api", "bytes", "cmp", "container/heap", "errors", "iter", "maps", "math", "math/bits", "slices", "sort", "strconv", "strings", "sync", "sync/atomic", "unicode", "unicode/utf8"}
	for _, entry := range entries {
		name := entry.Name()
		if !strings.HasSuffix(name, ".go") || strings.HasSuffix(name, "_test.go") {
			continue
		}
		file, err := parser.ParseFile(token.NewFileSet(), name, nil, parser.ImportsOnly)
		if err != nil {
			t.Fatal(err)
		}
		for _, i := range file.Imports {
			if path, _ := strconv.Unquote(i.Path.Value); !slices.Contains(allowed, path) {
				t.Errorf("%s imports %s", name, path)
			}
		}
	}
}
