package machine_test

import (
	"slices"
	"testing"

	"groutwork/api"
	"groutwork/machine"
)

func TestValid(t *testing.T) {
	for _, m := range someMachines() {
		if !machine.Valid(m) {
			t.Errorf("%v: not valid", m)
		}
	}
}

func TestNumbersOfStatesAndSymbols(t *testing.T) {
	for states := -1; states <= api.MaxStates+2; states++ {
		for symbols := -1; symbols <= api.MaxSymbols+2; symbols++ {
			m := api.Machine{States: states, Symbols: symbols}
			if states*symbols > 0 {
				m.Actions = slices.Repeat([]api.Action{act(0, 0, states)}, states*symbols)
			}
			if states < 1 || states > 6 || symbols < 2 || symbols > 4 {
				wantInvalidMachine(t, m)
			} else if !machine.Valid(m) {
				t.Errorf("%v: not valid", m)
			}
		}
	}
	for _, n := range []int{least, least + 1, -6, 1 << 32, 1 << 61, 1 << 62, greatest} {
		for _, k := range []int{least, -4, 1, 2, 4, 8, 1 << 32, greatest} {
			for _, l := range [][]api.Action{nil, slices.Repeat([]api.Action{{}}, 8), slices.Repeat([]api.Action{act(0, 0, n)}, 24)} {
				wantInvalidMachine(t, api.Machine{States: n, Symbols: k, Actions: l})
				wantInvalidMachine(t, api.Machine{States: k, Symbols: n, Actions: l})
			}
		}
	}
}

func TestNumberOfActions(t *testing.T) {
	for _, m := range []api.Machine{walker(), still(1, 2), still(6, 4), beaver(), large()} {
		for n := range 2 * len(m.Actions) {
			cut := m
			cut.Actions = append(slices.Clone(m.Actions), m.Actions...)[:n]
			if n != len(m.Actions) {
				wantInvalidMachine(t, cut)
			} else if !machine.Valid(cut) {
				t.Errorf("%v: not valid", cut)
			}
		}
	}
	wantInvalidMachine(t, api.Machine{})
	wantInvalidMachine(t, api.Machine{States: 1, Symbols: 2})
}

// Of all actions with numbers in and around what is valid, at each place, exactly those are valid that the chapter allows.
func TestActions(t *testing.T) {
	m := swing()
	for place := range m.Actions {
		for write := -1; write <= 4; write++ {
			for move := -1; move <= 3; move++ {
				for next := -1; next <= 4; next++ {
					changed := m
					changed.Actions = slices.Clone(m.Actions)
					changed.Actions[place] = act(write, move, next)
					goes := 0 <= write && write <= 2 && (move == 0 || move == 1) && (next == 0 || next == 1)
					stops := next == 2 && write == 0 && move == 0
					if !goes && !stops {
						wantInvalidMachine(t, changed)
					} else if !machine.Valid(changed) {
						t.Errorf("%v: not valid", changed)
					}
				}
			}
		}
	}
	for _, n := range []int{least, least + 1, 1 << 32, greatest} {
		for _, a := range []api.Action{act(n, 0, 0), act(0, n, 0), act(0, 0, n), act(n, 0, 2), act(0, n, 2), act(n, n, n)} {
			changed := swing()
			changed.Actions[5] = a
			wantInvalidMachine(t, changed)
		}
	}
}

func TestFits(t *testing.T) {
	for _, m := range []api.Machine{walker(), still(6, 4), swing(), large()} {
		for _, c := range allConfigs(m, 3) {
			if !machine.Fits(m, c) {
				t.Errorf("%v does not fit %v", c, m)
			}
		}
	}
	for n := range api.MaxTape + 3 {
		cells := make([]int, n)
		for _, at := range []int{-1, 0, n / 2, n - 1, n, n + 1} {
			c := config(0, at, cells...)
			if n < 1 || n > 200 || at < 0 || at >= n {
				wantInvalid(t, walker(), c)
			} else if !machine.Fits(walker(), c) {
				t.Errorf("%v does not fit", c)
			}
		}
	}
	wantInvalid(t, walker(), api.Config{})
	wantInvalid(t, walker(), config(0, 0, make([]int, 100000)...))
}

// Each number in and around what is valid, at each place.
func TestNotFits(t *testing.T) {
	m := swing()
	for _, n := range []int{least, least + 1, -3, -2, -1, 0, 1, 2, 3, 4, 1 << 32, greatest} {
		isState, isSymbol := n == 0 || n == 1, 0 <= n && n <= 2
		for _, c := range []struct {
			config api.Config
			fits   bool
		}{
			{config(n, 0, 0, 1, 2), isState},
			{config(0, n, 0, 1, 2), isSymbol},
			{config(1, 0, n, 1, 2), isSymbol},
			{config(1, 0, 0, n, 2), isSymbol},
			{config(1, 0, 0, 1, n), isSymbol},
			{config(0, 0, n), isSymbol},
			{config(n, n, n, n, n), isState},
		} {
			if !c.fits {
				wantInvalid(t, m, c.config)
			} else if !machine.Fits(m, c.config) {
				t.Errorf("%v does not fit", c.config)
			}
		}
	}
}
