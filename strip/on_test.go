package strip_test

import (
	"fmt"
	"slices"
	"testing"

	"groutwork/api"
)

func TestOnExamples(t *testing.T) {
	for _, c := range []struct {
		a, b, want string
		from       [][2]int
	}{
		{chess, chess, "1.0.1.1 0.1.0.0", [][2]int{{0, 1}, {1, 0}}},
		{"", chess, "", nil},
		{chess, "", "", nil},
		{"", "", "", nil},
		// N of the lower tile, S of the upper one.
		{"1.0.0.0", "2.0.1.0", "2.0.0.0", [][2]int{{0, 0}}},
		{"2.0.1.0", "1.0.0.0", "", nil},
		{"0.0.1.0", "1.0.0.0", "1.0.1.0", [][2]int{{0, 0}}},
		{"7.3.8.3", "9.4.7.4", "9.0.8.0", [][2]int{{0, 0}}},
		{"7.3.8.5", "9.4.7.4", "9.0.8.1", [][2]int{{0, 0}}},
		{"7.3.8.3", "9.4.7.5", "9.0.8.1", [][2]int{{0, 0}}},
		{"999.999.999.999", "0.0.999.0", "0.0.999.0", [][2]int{{0, 0}}},
		// A pair is not the pair of the same colours in the other order.
		{"0.1.0.2", "0.2.0.1", "0.0.0.1", [][2]int{{0, 0}}},
		// The same numbers for E and W.
		{"0.1.0.2 1.2.0.1", "0.5.0.5 0.5.1.5", "0.0.0.1 0.1.0.0", [][2]int{{0, 0}, {1, 1}}},
		// In the order of the lower tile, then of the upper one; numbers by the tiles that are met.
		{"0.1.0.0 0.0.0.1", "0.0.0.0 1.1.0.0 2.0.1.0", "0.0.0.1 1.2.0.1 0.1.0.0 1.3.0.0", [][2]int{{0, 0}, {0, 1}, {1, 0}, {1, 1}}},
		// Equal tiles by way of different colours in between.
		{"3.0.0.0 4.0.0.0", "0.0.3.0 0.0.4.0", "0.0.0.0", [][2]int{{0, 0}}},
		{"3.0.0.0 4.0.0.0", "0.0.4.0 0.0.3.0", "0.0.0.0", [][2]int{{0, 1}}},
		{"3.0.0.0 4.0.0.0 4.1.0.0", "1.0.3.0 1.0.4.0 2.0.4.0", "1.0.0.0 2.0.0.0 1.1.0.0 2.1.0.0", [][2]int{{0, 0}, {1, 2}, {2, 1}, {2, 2}}},
	} {
		set, from := wantOn(t, parse(t, c.a), parse(t, c.b))
		if got := textOf(t, set); got != c.want || !slices.Equal(from, c.from) {
			t.Errorf("%s on %s: %s, %v, want %s, %v", c.b, c.a, got, from, c.want, c.from)
		}
	}
}

// mixedPairs returns pairs of sets, some of them with equal tiles by way of different colours in between.
func mixedPairs() [][2][]api.Tile {
	var pairs [][2][]api.Tile
	for _, n := range []int{1, 2, 3, 4, 7} {
		for _, colours := range []int{2, 3, 5} {
			sets := mixedSets(30, n, colours)
			for i, a := range sets {
				pairs = append(pairs, [2][]api.Tile{a, a}, [2][]api.Tile{a, sets[(i+1)%len(sets)]})
			}
		}
	}
	return append(pairs, [2][]api.Tile{mixedSets(1, 2, 5)[0], mixedSets(1, 40, 5)[0]}, [2][]api.Tile{mixedSets(1, 40, 3)[0], mixedSets(1, 5, 3)[0]})
}

func TestOnAgainstDefinition(t *testing.T) {
	repeated := 0
	for _, c := range mixedPairs() {
		a, b := c[0], c[1]
		tiles, wantFrom := slowOn(a, b)
		pairs := pairsMet(tiles)
		var want []api.Tile
		for _, u := range tiles {
			e, w := slices.Index(pairs, [2]int{u[1], u[2]}), slices.Index(pairs, [2]int{u[4], u[5]})
			want = append(want, api.Tile{N: u[0], E: e, S: u[3], W: w})
		}
		if set, from := wantOn(t, a, b); !slices.Equal(set, want) || !slices.Equal(from, wantFrom) {
			t.Fatalf("%v on %v: %v, %v, want %v, %v", b, a, set, from, want, wantFrom)
		}
		if len(columnRows(a, b, 1)) > len(tiles) {
			repeated++
		}
	}
	if repeated < 20 {
		t.Errorf("tiles are met again in %d pairs of sets", repeated)
	}
}

// northless returns n tiles with different S, and N 0.
func northless(n int) []api.Tile {
	var set []api.Tile
	for i := range n {
		set = append(set, api.Tile{S: i})
	}
	return set
}

// pairwise returns n tiles with N and S 0, all of whose colours E and W differ.
func pairwise(n int) []api.Tile {
	var set []api.Tile
	for i := range n {
		set = append(set, api.Tile{E: 2 * i, W: 2*i + 1})
	}
	return set
}

func TestOnMostTiles(t *testing.T) {
	set, from := wantOn(t, northless(api.MaxTiles), []api.Tile{{}})
	if len(set) != api.MaxTiles || set[999] != (api.Tile{S: 999}) || from[999] != [2]int{999, 0} {
		t.Errorf("%d tiles, %v, %v", len(set), set[999], from[999])
	}
	set, from = wantOn(t, northless(40), slices.Concat(northless(1), []api.Tile{{N: 1, S: 1}}, uppers(24)))
	if len(set) != api.MaxTiles || from[999] != [2]int{39, 25} {
		t.Errorf("%d tiles, %v", len(set), from[999])
	}
	wantNoOn(t, "1001 tiles", northless(91), uppers(11), api.ErrSize)
	wantNoOn(t, "1001 tiles, the last one of many", append(northless(999), api.Tile{N: 1, S: 999}), []api.Tile{{}, {S: 1}, {N: 1, S: 1}}, api.ErrSize)
	wantNoOn(t, "2000 tiles", northless(api.MaxTiles), uppers(2), api.ErrSize)
	wantNoOn(t, "1000000 tiles", northless(api.MaxTiles), uppers(999), api.ErrSize)
}

// uppers returns n tiles with different N, from 1 on, and S 0.
func uppers(n int) []api.Tile {
	var set []api.Tile
	for i := range n {
		set = append(set, api.Tile{N: i + 1})
	}
	return set
}

func TestOnMostColours(t *testing.T) {
	set, _ := wantOn(t, pairwise(500), []api.Tile{{}})
	if len(set) != 500 || set[499] != (api.Tile{E: 998, W: 999}) {
		t.Errorf("%d tiles, %v", len(set), set)
	}
	set, _ = wantOn(t, pairwise(500), []api.Tile{{}, {N: 1}})
	if len(set) != 1000 || set[999] != (api.Tile{N: 1, E: 998, W: 999}) {
		t.Errorf("%d tiles, %v", len(set), set)
	}
	// One tile more, with one or two pairs more.
	more := append(pairwise(500), api.Tile{N: 1, E: 0, W: 1})
	set, _ = wantOn(t, more, []api.Tile{{}, {S: 1}})
	if len(set) != 500 {
		t.Errorf("%d tiles: the last one occurs already", len(set))
	}
	wantNoOn(t, "a pair of E too many", more, []api.Tile{{}, {S: 1, E: 1}}, api.ErrSize)
	wantNoOn(t, "a pair of W too many", more, []api.Tile{{}, {S: 1, W: 1}}, api.ErrSize)
	wantNoOn(t, "two pairs too many", more, []api.Tile{{}, {S: 1, E: 1, W: 1}}, api.ErrSize)
	wantNoOn(t, "as many pairs again", pairwise(500), []api.Tile{{}, {E: 1, W: 1}}, api.ErrSize)
}

// Tiles that occur again do not count.
func TestOnRepeatedTiles(t *testing.T) {
	var norths, souths []api.Tile
	for i := range api.MaxTiles {
		norths = append(norths, api.Tile{N: i})
		souths = append(souths, api.Tile{S: i})
	}
	set, from := wantOn(t, norths, souths)
	if len(set) != 1 || set[0] != (api.Tile{}) || from[0] != [2]int{0, 0} {
		t.Errorf("%v, %v", set, from)
	}
	var lower []api.Tile
	for i := range 500 {
		lower = append(lower, api.Tile{N: 0, S: i}, api.Tile{N: 1, S: i})
	}
	set, from = wantOn(t, lower, []api.Tile{{N: 5, S: 0}, {N: 6, S: 0}, {N: 6, S: 1}, {N: 5, S: 1}})
	if len(set) != 1000 || from[0] != [2]int{0, 0} || from[1] != [2]int{0, 1} || from[999] != [2]int{998, 1} {
		t.Errorf("%d tiles", len(set))
	}
}

func TestOnRefusesSets(t *testing.T) {
	for name, bad := range invalidSets() {
		for _, set := range [][]api.Tile{nil, {{}}, northless(api.MaxTiles), bad} {
			what := fmt.Sprint(name, ", ", len(set), " tiles")
			wantNoOn(t, what+" on it", bad, set, api.ErrForm)
			wantNoOn(t, "it on "+what, set, bad, api.ErrForm)
		}
	}
}
