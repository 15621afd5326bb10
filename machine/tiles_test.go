package machine_test

import (
	"slices"
	"testing"

	"groutwork/api"
)

func TestTiles(t *testing.T) {
	// Example 1.
	wantTiles(t, walker(), "0.0.0.0 1.0.1.0 1.1.2.0 1.1.3.0 2.0.0.1 2.2.0.0 3.0.1.1 3.2.1.0")
	// Example 2.
	wantTiles(t, still(1, 2), "0.0.0.0 1.0.1.0 2.0.0.1 2.2.0.0 3.0.1.1 3.2.1.0")
	wantTiles(t, beaver(), "0.0.0.0 1.0.1.0"+
		" 1.2.2.0 1.0.3.6 1.0.4.4 1.2.5.0 1.0.6.5"+
		" 2.0.0.1 2.4.0.0 3.0.1.1 3.4.1.0"+
		" 4.0.0.2 4.5.0.0 5.0.1.2 5.5.1.0"+
		" 6.0.0.3 6.6.0.0 7.0.1.3 7.6.1.0")
	wantTiles(t, swing(), "0.0.0.0 1.0.1.0 2.0.2.0"+
		" 1.2.3.0 2.2.4.0 0.2.5.0 1.0.6.3 2.0.7.3 0.0.8.3"+
		" 3.0.0.1 3.3.0.0 4.0.1.1 4.3.1.0 5.0.2.1 5.3.2.0"+
		" 6.0.0.2 6.4.0.0 7.0.1.2 7.4.1.0 8.0.2.2 8.4.2.0")
}

func TestNumberOfTiles(t *testing.T) {
	for _, c := range []struct {
		m    api.Machine
		want int
	}{
		{walker(), 2 + 2 + 4},
		{beaver(), 2 + 5 + 12},
		{large(), 4 + 24 + 48},
		{still(1, 2), 2 + 4},
		{still(6, 4), 4 + 48},
	} {
		if set := tilesOf(t, c.m); len(set) != c.want {
			t.Errorf("%v: %d tiles, want %d", c.m, len(set), c.want)
		}
	}
}

func TestTilesLikeReference(t *testing.T) {
	for _, m := range slices.Concat(someMachines(), allMachines(2, 2)) {
		if set := tilesOf(t, m); !slices.Equal(set, slowTiles(m)) {
			t.Errorf("Tiles of %v: %v, want %v", m, set, slowTiles(m))
		}
	}
}
