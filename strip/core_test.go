package strip_test

import (
	"slices"
	"testing"

	"groutwork/api"
	"groutwork/strip"
)

func TestCoreExamples(t *testing.T) {
	for _, c := range []struct {
		set  string
		want []int
	}{
		{"", nil},
		{steps, nil},
		{chess, []int{0, 1}},
		{fives, []int{0, 1, 2, 3}},
		{"0.1.0.1", []int{0}},
		// Endless rows alone, or endless columns alone, are not enough.
		{"1.0.0.0", nil},
		{"0.0.1.0", nil},
		{"0.1.0.0", nil},
		{"0.0.0.1", nil},
		// A tile without a neighbour at one of its sides, beside one that goes on everywhere.
		{"0.0.0.0 1.0.0.0", []int{0}},
		{"0.0.0.0 0.1.0.0", []int{0}},
		{"0.0.0.0 0.0.1.0", []int{0}},
		{"0.0.0.0 0.0.0.1", []int{0}},
		// The tile in the middle is on no loop, but it leads from one to another one.
		{"0.0.0.0 0.1.0.0 0.1.0.1", []int{0, 1, 2}},
		{"0.0.0.0 1.0.0.0 1.0.1.0", []int{0, 1, 2}},
		{"0.1.0.1 0.1.0.0 0.0.0.0", []int{0, 1, 2}},
		// The neighbour to the north and to the east has no neighbour to the west, or has one.
		{"0.0.0.0 5.1.0.0 0.1.5.2", []int{0}},
		{"0.0.0.0 5.1.0.0 0.1.5.1", []int{0, 1, 2}},
		// What is removed to the east was the last neighbour to the north, and so on.
		{"0.1.1.0 1.0.0.1 5.1.1.0 7.0.5.1", []int{0, 1}},
		{"5.5.5.5 0.1.0.1 1.1.1.2 1.2.1.3 2.3.1.3 2.3.2.4", []int{0, 1}},
		// The colours to the east and those to the north have nothing to do with each other.
		{"0.1.1.1 0.2.0.1 1.1.0.2", []int{0, 1, 2}},
		{"1.0.2.0 0.2.0.1", nil},
		// The greatest colours.
		{"999.999.999.999", []int{0}},
		{"999.999.998.999", nil},
		{"63.64.63.64 64.63.64.63", []int{0, 1}},
		{"0.0.0.0 64.64.0.0", []int{0}},
		{"0.0.0.0 0.0.64.64", []int{0}},
	} {
		set := parse(t, c.set)
		if slow := slowCore(set); !slices.Equal(slow, c.want) {
			t.Errorf("%s: the tests do not agree: %v", c.set, slow)
		}
		if got := coreOf(t, set); !slices.Equal(got, c.want) {
			t.Errorf("%s: %v, want %v", c.set, got, c.want)
		}
	}
}

func TestCoreAgainstDefinition(t *testing.T) {
	sizes := map[bool]int{}
	for _, set := range slices.Concat(someSets(t), mixedSets(60, 8, 3), mixedSets(60, 8, 4), mixedSets(60, 12, 5), mixedSets(10, 30, 9)) {
		want := slowCore(set)
		if got := coreOf(t, set); !slices.Equal(got, want) {
			t.Fatalf("%v: %v, want %v", set, got, want)
		}
		sizes[0 < len(want) && len(want) < len(set)]++
	}
	if sizes[true] < 20 || sizes[false] < 20 {
		t.Errorf("parts are left, or all or nothing: %v", sizes)
	}
}

// In each round only one tile lacks a neighbour, or two.
func TestCoreOfLongRow(t *testing.T) {
	row := longRow(api.MaxTiles - 1)
	if core := coreOf(t, row); len(core) != 0 {
		t.Errorf("%d tiles are left", len(core))
	}
	// With the last tile the row is a loop.
	if core := coreOf(t, longRow(api.MaxTiles)); len(core) != api.MaxTiles || core[0] != 0 || core[999] != 999 {
		t.Errorf("%d tiles are left", len(core))
	}
}

func TestCoreRefuses(t *testing.T) {
	for name, set := range invalidSets() {
		if core, e := strip.Core(set); e != api.ErrForm || len(core) != 0 {
			t.Errorf("%s: %v, error %d", name, core, e)
		}
	}
}
