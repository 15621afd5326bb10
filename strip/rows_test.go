package strip_test

import (
	"slices"
	"testing"

	"groutwork/api"
	"groutwork/strip"
)

func TestRowsExamples(t *testing.T) {
	for _, c := range []struct {
		set  string
		want int
	}{
		{"", 0},
		{steps, 2},
		{chess, -1},
		{"0.1.0.0", 1},
		{"0.0.1.0", -1},
		{"5.0.4.0", -1},
		{"0.2.0.1 0.1.0.0", 2},
		{"0.1.0.0 0.3.0.2", 1},
		{"0.1.0.0 0.2.0.1 0.1.0.2", -1},
		// A loop without a way to it and without a way from it.
		{"0.1.0.0 0.2.0.1 0.7.0.7", -1},
		// What fits to the north does not matter, nor do equal colours there.
		{"1.1.0.0 8.2.7.1 3.3.9.2", 3},
		{"0.1.0.0 1.1.0.0 2.1.0.0 0.2.0.1 0.2.1.1", 2},
		// Ways of different lengths.
		{"0.1.0.0 0.2.0.1 0.3.0.2 0.3.0.0 0.2.0.0", 3},
		{"0.999.0.0", 1},
		{"0.64.0.0 0.999.0.64", 2},
		{"0.64.0.0 0.999.0.128", 1},
	} {
		if got := longest(t, parse(t, c.set)); got != c.want {
			t.Errorf("%s: %d, want %d", c.set, got, c.want)
		}
	}
}

func TestLongRows(t *testing.T) {
	for _, n := range []int{1, 2, 63, 64, 65, 500, api.MaxTiles - 1} {
		set := longRow(n)
		if got := longest(t, set); got != n {
			t.Errorf("%d, want %d", got, n)
		}
		slices.Reverse(set)
		if got := longest(t, set); got != n {
			t.Errorf("in the opposite order: %d, want %d", got, n)
		}
	}
	if got := longest(t, longRow(api.MaxTiles)); got != -1 {
		t.Errorf("of a loop: %d", got)
	}
}

func TestRowsRefuses(t *testing.T) {
	for name, set := range invalidSets() {
		if n, e := strip.Rows(set); e != api.ErrForm || n != 0 {
			t.Errorf("%s: %d, error %d", name, n, e)
		}
	}
}
