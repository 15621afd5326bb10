package machine_test

import (
	"slices"
	"testing"

	"groutwork/api"
	"groutwork/machine"
	"groutwork/tile"
)

const least, greatest = -1 << 63, 1<<63 - 1

func act(write, move, next int) api.Action {
	return api.Action{Write: write, Move: move, Next: next}
}

func config(state, at int, cells ...int) api.Config {
	return api.Config{State: state, At: at, Cells: cells}
}

// walker moves to the east for ever and writes 1 (example 1).
func walker() api.Machine {
	return api.Machine{States: 1, Symbols: 2, Actions: []api.Action{act(1, api.East, 0), act(1, api.East, 0)}}
}

// still has stopped whatever it reads (example 2).
func still(states, symbols int) api.Machine {
	return api.Machine{States: states, Symbols: symbols, Actions: slices.Repeat([]api.Action{act(0, 0, states)}, states*symbols)}
}

// swing goes to and fro between two cells for ever, and counts up what it reads.
func swing() api.Machine {
	return api.Machine{States: 2, Symbols: 3, Actions: []api.Action{
		act(1, api.East, 1), act(2, api.East, 1), act(0, api.East, 1),
		act(1, api.West, 0), act(2, api.West, 0), act(0, api.West, 0),
	}}
}

// beaver writes six 1 on cells of 0 and then stops, after 12 steps.
func beaver() api.Machine {
	return api.Machine{States: 3, Symbols: 2, Actions: []api.Action{
		act(1, api.East, 1), act(1, api.West, 2),
		act(1, api.West, 0), act(1, api.East, 1),
		act(1, api.West, 1), act(0, 0, 3),
	}}
}

// counter adds 1 to a binary number (with the lowest digit in the last cell) and comes back to its end, again and again.
func counter() api.Machine {
	return api.Machine{States: 2, Symbols: 3, Actions: []api.Action{
		act(1, api.East, 1), act(0, api.West, 0), act(0, 0, 2),
		act(0, api.East, 1), act(1, api.East, 1), act(2, api.West, 0),
	}}
}

// large returns a machine with as many states and symbols as there may be, which never stops.
func large() api.Machine {
	m := api.Machine{States: api.MaxStates, Symbols: api.MaxSymbols}
	for i := range m.States * m.Symbols {
		m.Actions = append(m.Actions, act(i*3%m.Symbols, i/3%2, i*5%m.States))
	}
	return m
}

// numbers returns a function whose results differ as much as a simple rule makes them: each is from 0 to its argument - 1.
func numbers() func(int) int {
	state := uint64(1)
	return func(below int) int {
		state = state*6364136223846793005 + 1442695040888963407
		return int(state>>33) % below
	}
}

// actions returns all actions of machines with as many states and symbols.
func actions(states, symbols int) []api.Action {
	list := []api.Action{act(0, 0, states)}
	for next := range states {
		for write := range symbols {
			list = append(list, act(write, api.West, next), act(write, api.East, next))
		}
	}
	return list
}

// allMachines returns all machines with as many states and symbols.
func allMachines(states, symbols int) []api.Machine {
	lists := [][]api.Action{nil}
	for range states * symbols {
		var longer [][]api.Action
		for _, l := range lists {
			for _, a := range actions(states, symbols) {
				longer = append(longer, append(slices.Clone(l), a))
			}
		}
		lists = longer
	}
	var all []api.Machine
	for _, l := range lists {
		all = append(all, api.Machine{States: states, Symbols: symbols, Actions: l})
	}
	return all
}

// mixedMachines returns n machines of all sizes.
func mixedMachines(n int) []api.Machine {
	next := numbers()
	var all []api.Machine
	for range n {
		m := api.Machine{States: 1 + next(api.MaxStates), Symbols: 2 + next(api.MaxSymbols-1)}
		list := actions(m.States, m.Symbols)
		for range m.States * m.Symbols {
			m.Actions = append(m.Actions, list[next(len(list))])
		}
		all = append(all, m)
	}
	return all
}

// someMachines returns machines of all sorts.
func someMachines() []api.Machine {
	named := []api.Machine{walker(), still(1, 2), still(6, 4), swing(), beaver(), counter(), large()}
	return slices.Concat(named, allMachines(1, 2), mixedMachines(200))
}

// lists returns all lists of a length of numbers from low on that are less than high.
func lists(length, low, high int) [][]int {
	all := [][]int{nil}
	for range length {
		var longer [][]int
		for _, l := range all {
			for i := low; i < high; i++ {
				longer = append(longer, append(slices.Clone(l), i))
			}
		}
		all = longer
	}
	return all
}

// allConfigs returns all configurations of a machine with up to so many cells.
func allConfigs(m api.Machine, most int) []api.Config {
	var all []api.Config
	for width := 1; width <= most; width++ {
		for _, cells := range lists(width, 0, m.Symbols) {
			for at := range width {
				for state := range m.States {
					all = append(all, config(state, at, cells...))
				}
			}
		}
	}
	return all
}

// mixedConfig returns a configuration of a machine with up to so many cells.
func mixedConfig(m api.Machine, next func(int) int, most int) api.Config {
	c := api.Config{State: next(m.States)}
	for range 1 + next(most) {
		c.Cells = append(c.Cells, next(m.Symbols))
	}
	c.At = next(len(c.Cells))
	return c
}

func copyConfig(c api.Config) api.Config {
	c.Cells = slices.Clone(c.Cells)
	return c
}

func sameConfig(c, d api.Config) bool {
	return c.State == d.State && c.At == d.At && slices.Equal(c.Cells, d.Cells)
}

func isZero(c api.Config) bool { return sameConfig(c, api.Config{}) }

func wantStep(t *testing.T, m api.Machine, c, want api.Config) {
	t.Helper()
	if d, e := machine.Step(m, c); !sameConfig(d, want) || e != api.OK {
		t.Errorf("Step of %v, %v: %v, error %d, want %v", m, c, d, e, want)
	}
}

// wantNoStep checks an error of Step and that the configuration with it is the zero value.
func wantNoStep(t *testing.T, m api.Machine, c api.Config, want api.Errno) {
	t.Helper()
	if d, e := machine.Step(m, c); !isZero(d) || e != want {
		t.Errorf("Step of %v, %v: %v, error %d, want %d", m, c, d, e, want)
	}
}

// runOf returns the result of Run, which has to be OK.
func runOf(t *testing.T, m api.Machine, c api.Config, n int) (api.Config, int) {
	t.Helper()
	d, steps, e := machine.Run(m, c, n)
	if e != api.OK {
		t.Fatalf("Run of %v, %v, %d: error %d", m, c, n, e)
	}
	return d, steps
}

func wantRun(t *testing.T, m api.Machine, c api.Config, n int, want api.Config, steps int) {
	t.Helper()
	if d, k := runOf(t, m, c, n); !sameConfig(d, want) || k != steps {
		t.Errorf("Run of %v, %v, %d: %v, %d steps, want %v, %d", m, c, n, d, k, want, steps)
	}
}

// wantNoRun checks an error of Run and that there are only zero values with it.
func wantNoRun(t *testing.T, m api.Machine, c api.Config, n int, want api.Errno) {
	t.Helper()
	if d, k, e := machine.Run(m, c, n); !isZero(d) || k != 0 || e != want {
		t.Errorf("Run of %v, %v, %d: %v, %d steps, error %d, want %d", m, c, n, d, k, e, want)
	}
}

// tilesOf returns the result of Tiles, which has to be OK.
func tilesOf(t *testing.T, m api.Machine) []api.Tile {
	t.Helper()
	set, e := machine.Tiles(m)
	if e != api.OK || !tile.Valid(set) {
		t.Fatalf("Tiles of %v: %v, error %d", m, set, e)
	}
	return set
}

func wantTiles(t *testing.T, m api.Machine, want string) {
	t.Helper()
	if text, e := tile.Text(tilesOf(t, m)); text != want || e != api.OK {
		t.Errorf("Tiles of %v: %q, want %q", m, text, want)
	}
}

// coloursOf returns the result of Colours, which has to be OK.
func coloursOf(t *testing.T, m api.Machine, c api.Config) []int {
	t.Helper()
	l, e := machine.Colours(m, c)
	if e != api.OK {
		t.Fatalf("Colours of %v, %v: error %d", m, c, e)
	}
	return l
}

func wantRead(t *testing.T, m api.Machine, l []int, want api.Config) {
	t.Helper()
	if c, e := machine.Read(m, l); !sameConfig(c, want) || e != api.OK {
		t.Errorf("Read of %v, %v: %v, error %d, want %v", m, l, c, e, want)
	}
}

// wantNoRead checks an error of Read and that the configuration with it is the zero value.
func wantNoRead(t *testing.T, m api.Machine, l []int, want api.Errno) {
	t.Helper()
	if c, e := machine.Read(m, l); !isZero(c) || e != want {
		t.Errorf("Read of %v, %v: %v, error %d, want %d", m, l, c, e, want)
	}
}

// pictureOf returns the result of Picture, which has to be OK.
func pictureOf(t *testing.T, m api.Machine, c api.Config, height int) api.Pattern {
	t.Helper()
	p, e := machine.Picture(m, c, height)
	if e != api.OK || p.Width != len(c.Cells) || p.Height != height || len(p.Cells) != p.Width*p.Height {
		t.Fatalf("Picture of %v, %v, %d: %v, error %d", m, c, height, p, e)
	}
	return p
}

// wantNoPicture checks an error of Picture and that the pattern with it is the zero value.
func wantNoPicture(t *testing.T, m api.Machine, c api.Config, height int, want api.Errno) {
	t.Helper()
	p, e := machine.Picture(m, c, height)
	if p.Width != 0 || p.Height != 0 || len(p.Cells) != 0 || e != want {
		t.Errorf("Picture of %v, %v, %d: %v, error %d, want %d", m, c, height, p, e, want)
	}
}

// wantInvalid checks that a configuration is not valid for a machine, for all functions that take both.
func wantInvalid(t *testing.T, m api.Machine, c api.Config) {
	t.Helper()
	if machine.Fits(m, c) {
		t.Errorf("%v fits %v", c, m)
	}
	wantNoStep(t, m, c, api.ErrForm)
	if l, e := machine.Colours(m, c); len(l) != 0 || e != api.ErrForm {
		t.Errorf("Colours of %v, %v: %v, error %d", m, c, l, e)
	}
	for _, n := range []int{least, -1, 0, 1, api.MaxSteps + 1, greatest} {
		wantNoRun(t, m, c, n, api.ErrForm)
		wantNoPicture(t, m, c, n, api.ErrForm)
	}
}

// wantInvalidMachine checks that a machine is not valid, for all functions.
func wantInvalidMachine(t *testing.T, m api.Machine) {
	t.Helper()
	if machine.Valid(m) {
		t.Errorf("%v: valid", m)
	}
	if set, e := machine.Tiles(m); len(set) != 0 || e != api.ErrForm {
		t.Errorf("Tiles of %v: %v, error %d", m, set, e)
	}
	for _, l := range [][]int{nil, {0}, {2}, {0, 3}, {-1}, make([]int, api.MaxTape+1)} {
		wantNoRead(t, m, l, api.ErrForm)
	}
	for _, c := range []api.Config{{}, config(0, 0, 0), config(1, 2, 1, 0, 1), config(-1, -1, -1)} {
		wantInvalid(t, m, c)
	}
}
