package machine

import (
	"slices"

	"groutwork/api"
)

// colourAtHead returns the colour to the south or to the north of a symbol at which there is the head.
func colourAtHead(m api.Machine, state, symbol int) int {
	return m.Symbols + state*m.Symbols + symbol
}

func coloursOf(m api.Machine, c api.Config) []int {
	l := slices.Clone(c.Cells)
	l[c.At] = colourAtHead(m, c.State, c.Cells[c.At])
	return l
}

// configOf returns the configuration whose colours these are, if there is one.
func configOf(m api.Machine, l []int) (api.Config, bool) {
	if len(l) > api.MaxTape {
		return api.Config{}, false
	}
	var c api.Config
	heads := 0
	for i, colour := range l {
		if colour < 0 || colour >= colourAtHead(m, m.States, 0) {
			return api.Config{}, false
		}
		if colour >= m.Symbols {
			c.State, c.At = colour/m.Symbols-1, i
			heads++
		}
		c.Cells = append(c.Cells, colour%m.Symbols)
	}
	return c, heads == 1
}
