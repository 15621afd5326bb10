package machine_test

import (
	"slices"
	"testing"

	"groutwork/api"
)

func TestColours(t *testing.T) {
	for _, c := range []struct {
		m      api.Machine
		config api.Config
		want   []int
	}{
		{walker(), config(0, 1, 1, 1, 0), []int{1, 3, 0}},
		{walker(), config(0, 0, 0), []int{2}},
		{beaver(), config(2, 2, 0, 1, 1), []int{0, 1, 7}},
		{swing(), config(1, 0, 1, 2, 0), []int{7, 2, 0}},
		{large(), config(5, 1, 3, 3), []int{3, 27}},
		{still(6, 4), config(3, 0, 0, 3), []int{16, 3}},
	} {
		if l := coloursOf(t, c.m, c.config); !slices.Equal(l, c.want) {
			t.Errorf("Colours of %v: %v, want %v", c.config, l, c.want)
		}
		wantRead(t, c.m, c.want, c.config)
	}
}

// P8.3: Read of Colours is the configuration.
func TestReadOfColours(t *testing.T) {
	check := func(m api.Machine, c api.Config) {
		l := coloursOf(t, m, c)
		if !slices.Equal(l, slowColours(m, c)) {
			t.Errorf("Colours of %v, %v: %v", m, c, l)
		}
		wantRead(t, m, l, c)
	}
	for _, m := range []api.Machine{walker(), still(6, 4), swing(), beaver(), large()} {
		for _, c := range allConfigs(m, 3) {
			check(m, c)
		}
	}
	next := numbers()
	for _, m := range someMachines() {
		for range 5 {
			check(m, mixedConfig(m, next, api.MaxTape))
		}
	}
}

// Of all short lists of numbers in and around the colours, exactly those are read that are the colours of a configuration.
func TestReadOnlyColours(t *testing.T) {
	for _, m := range []api.Machine{walker(), still(1, 3), beaver(), swing()} {
		type key [3]int
		known := map[key]api.Config{}
		keyOf := func(l []int) key {
			k := key{-9, -9, -9}
			copy(k[:], l)
			return k
		}
		for _, c := range allConfigs(m, 3) {
			known[keyOf(slowColours(m, c))] = c
		}
		for length := range 4 {
			for _, l := range lists(length, -2, (m.States+1)*m.Symbols+3) {
				if c, ok := known[keyOf(l)]; ok {
					wantRead(t, m, l, c)
				} else {
					wantNoRead(t, m, l, api.ErrNone)
				}
			}
		}
	}
}

func TestReadNone(t *testing.T) {
	m := swing()
	for _, l := range [][]int{nil, {}, {0}, {2, 1, 0}, {3, 3}, {0, 3, 8}, {9}, {0, 9}, {3, 9}, {3, -1}, {-1, 3}} {
		wantNoRead(t, m, l, api.ErrNone)
	}
	for _, n := range []int{least, least + 1, -3, 9, 1 << 32, 1<<32 + 3, greatest} {
		wantNoRead(t, m, []int{n}, api.ErrNone)
		wantNoRead(t, m, []int{3, n}, api.ErrNone)
		wantNoRead(t, m, []int{n, 3}, api.ErrNone)
	}
}

func TestLengthOfColours(t *testing.T) {
	for n := 1; n <= api.MaxTape+2; n++ {
		for _, at := range []int{0, n / 2, n - 1} {
			l := make([]int, n)
			l[at] = 3
			if n > 200 {
				wantNoRead(t, walker(), l, api.ErrNone)
				continue
			}
			c := config(0, at, make([]int, n)...)
			c.Cells[at] = 1
			wantRead(t, walker(), l, c)
		}
	}
	wantNoRead(t, walker(), append(make([]int, 100000), 3), api.ErrNone)
}
