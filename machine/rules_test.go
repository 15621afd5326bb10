package machine_test

import (
	"go/parser"
	"go/token"
	"os"
	"slices"
	"strconv"
	"strings"
	"testing"

	"groutwork/api"
	"groutwork/machine"
)

// R2: the errors come in the order of the chapter.
func TestOrderOfErrors(t *testing.T) {
	bad := walker()
	bad.Actions[1].Write = 2
	stopped := config(0, 0, 0, 0)
	leaves := config(0, 1, 0, 0)
	wantInvalidMachine(t, bad)
	for _, n := range []int{-1, api.MaxSteps + 1} {
		wantNoRun(t, bad, stopped, n, api.ErrForm)
		wantNoRun(t, walker(), config(1, 0, 0), n, api.ErrForm)
		wantNoRun(t, still(1, 2), stopped, n, api.ErrArg)
		wantNoRun(t, walker(), leaves, n, api.ErrArg)
	}
	for _, m := range []api.Machine{walker(), still(1, 2)} {
		wantNoPicture(t, m, config(1, 0, 0), 0, api.ErrForm)
		wantNoPicture(t, m, config(1, 0, 0), greatest, api.ErrForm)
		wantNoPicture(t, m, leaves, 0, api.ErrArg)
		wantNoPicture(t, m, leaves, greatest, api.ErrSize)
		wantNoPicture(t, m, leaves, 1, api.ErrNone)
	}
	wantNoRead(t, bad, nil, api.ErrForm)
	wantNoRead(t, bad, []int{2}, api.ErrForm)
	wantNoRead(t, walker(), nil, api.ErrNone)
}

// R4: a nil slice and an empty slice are the same.
func TestNilIsEmpty(t *testing.T) {
	for _, l := range [][]api.Action{nil, {}} {
		wantInvalidMachine(t, api.Machine{Actions: l})
		wantInvalidMachine(t, api.Machine{States: 1, Symbols: 2, Actions: l})
	}
	for _, l := range [][]int{nil, {}} {
		wantInvalid(t, walker(), api.Config{Cells: l})
		wantNoRead(t, walker(), l, api.ErrNone)
	}
}

// results is what all functions return for a machine and a configuration.
type results struct {
	after, last, same, read api.Config
	set                     []api.Tile
	colours                 []int
	picture                 api.Pattern
}

func resultsOf(t *testing.T, m api.Machine, c api.Config, colours []int) results {
	t.Helper()
	var r results
	var e api.Errno
	if r.after, e = machine.Step(m, c); e != api.OK {
		t.Fatalf("Step: error %d", e)
	}
	r.last, _ = runOf(t, m, c, 9)
	r.same, _ = runOf(t, m, c, 0)
	if r.read, e = machine.Read(m, colours); e != api.OK {
		t.Fatalf("Read: error %d", e)
	}
	r.set = tilesOf(t, m)
	r.colours = coloursOf(t, m, c)
	r.picture = pictureOf(t, m, c, 5)
	return r
}

func (r results) equal(s results) bool {
	return sameConfig(r.after, s.after) && sameConfig(r.last, s.last) && sameConfig(r.same, s.same) && sameConfig(r.read, s.read) &&
		slices.Equal(r.set, s.set) && slices.Equal(r.colours, s.colours) && slices.Equal(r.picture.Cells, s.picture.Cells)
}

// spoil overwrites all memory of results.
func (r results) spoil() {
	for i := range r.set {
		r.set[i] = api.Tile{N: -5}
	}
	for _, l := range [][]int{r.after.Cells, r.last.Cells, r.same.Cells, r.read.Cells, r.colours, r.picture.Cells} {
		for i := range l[:cap(l)] {
			l[:cap(l)][i] = -6
		}
	}
}

// R5: arguments are not changed, nor is the memory behind their end; results are new memory.
func TestNewMemory(t *testing.T) {
	m := swing()
	m.Actions = append(m.Actions, act(7, 7, 7))[:6]
	c := config(0, 2, 0, 1, 2, 0, 7)
	c.Cells = c.Cells[:4]
	colours := []int{0, 7, 2, 7}[:3]
	r := resultsOf(t, m, c, colours)
	if !slices.Equal(m.Actions[:7], append(swing().Actions, act(7, 7, 7))) || !sameConfig(c, config(0, 2, 0, 1, 2, 0)) || c.Cells[:5][4] != 7 {
		t.Fatalf("%v, %v: changed", m, c)
	}
	if !slices.Equal(colours[:4], []int{0, 7, 2, 7}) {
		t.Fatalf("%v: changed", colours)
	}
	again := resultsOf(t, m, c, colours)
	again.spoil()
	if !r.equal(resultsOf(t, swing(), config(0, 2, 0, 1, 2, 0), []int{0, 7, 2})) || !sameConfig(c, config(0, 2, 0, 1, 2, 0)) {
		t.Error("results share memory")
	}
	for i := range m.Actions {
		m.Actions[i] = act(9, 9, 9)
	}
	for i := range c.Cells {
		c.Cells[i] = 9
	}
	for i := range colours {
		colours[i] = 9
	}
	if !r.equal(resultsOf(t, swing(), config(0, 2, 0, 1, 2, 0), []int{0, 7, 2})) {
		t.Error("results share memory with arguments")
	}
}

// R6: a result depends only on the arguments; calls in between do not matter.
func TestSameResultsAgain(t *testing.T) {
	first := resultsOf(t, swing(), config(1, 3, 2, 1, 0, 2), []int{8, 0})
	for _, m := range someMachines() {
		tilesOf(t, m)
		for _, c := range allConfigs(m, 2) {
			machine.Step(m, c)
			machine.Run(m, c, 100)
			machine.Picture(m, c, 2)
		}
	}
	wantInvalidMachine(t, api.Machine{})
	if !first.equal(resultsOf(t, swing(), config(1, 3, 2, 1, 0, 2), []int{8, 0})) {
		t.Error("other results")
	}
}

// The document's overview: machine calls layer 1; LANGUAGE.md lists what may be used of the library.
func TestImports(t *testing.T) {
	entries, err := os.ReadDir(".")
	if err != nil {
		t.Fatal(err)
	}
	allowed := []string{"groutwork/api", "groutwork/tile", "bytes", "cmp", "container/heap", "errors", "iter", "maps", "math", "math/bits", "slices", "sort", "strconv", "strings", "sync", "sync/atomic", "unicode", "unicode/utf8"}
	for _, entry := range entries {
		name := entry.Name()
		if !strings.HasSuffix(name, ".go") || strings.HasSuffix(name, "_test.go") {
			continue
		}
		file, err := parser.ParseFile(token.NewFileSet(), name, nil, parser.ImportsOnly)
		if err != nil {
			t.Fatal(err)
		}
		for _, i := range file.Imports {
			if path, _ := strconv.Unquote(i.Path.Value); !slices.Contains(allowed, path) {
				t.Errorf("%s imports %s", name, path)
			}
		}
	}
}
