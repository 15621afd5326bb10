package strip_test

import (
	"slices"
	"testing"

	"groutwork/api"
	"groutwork/fill"
	"groutwork/strip"
	"groutwork/tile"
	"groutwork/torus"
)

// P4.1: all tiles of a torus of a set belong to its core.
func TestToriAreInCore(t *testing.T) {
	tori, outside := 0, 0
	for _, set := range someSets(t) {
		core := coreOf(t, set)
		for width := 1; width <= 4; width++ {
			for height := 1; height <= api.MaxPeriod; height++ {
				p, e := torus.Find(set, width, height)
				if e != api.OK {
					continue
				}
				tori++
				if len(core) < len(set) {
					outside++
				}
				for _, i := range p.Cells {
					if !slices.Contains(core, i) {
						t.Fatalf("%v: %v is a torus, and %v the core", set, p, core)
					}
				}
			}
		}
	}
	if tori == 0 || outside == 0 {
		t.Errorf("%d tori, %d of sets with other tiles", tori, outside)
	}
}

// P4.1: the core of the core is the core.
func TestCoreOfCore(t *testing.T) {
	parts := 0
	for _, set := range slices.Concat(someSets(t), mixedSets(100, 8, 3), mixedSets(100, 8, 4), mixedSets(50, 30, 8), mixedSets(10, 400, 25)) {
		core := coreOf(t, set)
		rest := restOf(set, core)
		if again := coreOf(t, rest); len(again) != len(core) {
			t.Fatalf("%v: the core is %v, and that of the core %v", set, core, again)
		}
		if !slices.IsSorted(core) || len(slices.Compact(slices.Clone(core))) != len(core) {
			t.Fatalf("%v: the core is %v", set, core)
		}
		if 0 < len(core) && len(core) < len(set) {
			parts++
		}
	}
	if parts == 0 {
		t.Error("no core is a part")
	}
}

// The core of a changed set has the same tiles.
func TestCoreOfChangedSets(t *testing.T) {
	for _, set := range someSets(t) {
		core := coreOf(t, set)
		for _, change := range []func([]api.Tile) ([]api.Tile, api.Errno){tile.Mirror, tile.Upturn, tile.Turn} {
			changed, e := change(set)
			if got := coreOf(t, changed); e != api.OK || !slices.Equal(got, core) {
				t.Fatalf("%v: %v, but of %v: %v", set, core, changed, got)
			}
		}
	}
}

// P4.2: Rows returns n if and only if there is a row of n tiles and none of n + 1. If there is one of more tiles than the set has, there are rows of every length.
func TestRowsAreThere(t *testing.T) {
	seen := map[int]int{}
	for _, set := range append(someSets(t), longRow(3), longRow(4), longRow(5)) {
		want := 0
		for want <= len(set) && len(allRows(set, want+1)) > 0 {
			want++
		}
		if want > len(set) {
			want = -1
		}
		if got := longest(t, set); got != want {
			t.Fatalf("%v: %d, want %d", set, got, want)
		}
		seen[want]++
	}
	for want := -1; want <= 4; want++ {
		if seen[want] == 0 {
			t.Errorf("no rows up to %d", want)
		}
	}
}

// P4.2 (P2): no pattern is wider than the longest row.
func TestRowsOfPatterns(t *testing.T) {
	for _, set := range someSets(t) {
		if len(set) > 2 {
			continue
		}
		n := longest(t, set)
		for width := 1; width <= api.MaxWide; width++ {
			count, e := fill.Count(set, width, 1, api.Edges{})
			if want := n < 0 || width <= n; e != api.OK || (count > 0) != want {
				t.Fatalf("%v: rows up to %d, and %d of %d tiles, error %d", set, n, count, width, e)
			}
		}
	}
}

// column is the index of the tile of b on a that stands for tile j of b on tile i of a, or -1.
func column(a, b, set []api.Tile, from [][2]int, i, j int) int {
	for k, u := range set {
		x, y := a[from[k][0]], b[from[k][1]]
		if u.N == b[j].N && u.S == a[i].S && x.E == a[i].E && y.E == b[j].E && x.W == a[i].W && y.W == b[j].W {
			return k
		}
	}
	return -1
}

// agree reports whether columns are a pattern: N of each lower tile is S of the upper one, and both rows are rows.
func agree(a, b []api.Tile, columns [][2]int) bool {
	var lower, upper []int
	for _, c := range columns {
		if a[c[0]].N != b[c[1]].S {
			return false
		}
		lower, upper = append(lower, c[0]), append(upper, c[1])
	}
	return isRow(a, lower) && isRow(b, upper)
}

// P4.3: a row of b on a corresponds to a pattern of two rows.
func TestRowsArePatterns(t *testing.T) {
	checked := 0
	for _, c := range mixedPairs() {
		a, b := c[0], c[1]
		set, from := wantOn(t, a, b)
		if len(set) > 12 {
			continue
		}
		for n := 1; n <= 3; n++ {
			for _, row := range allRows(set, n) {
				checked++
				var columns [][2]int
				for x, k := range row {
					i, j := from[k][0], from[k][1]
					columns = append(columns, from[k])
					if set[k].S != a[i].S || set[k].N != b[j].N {
						t.Fatalf("%v on %v: tile %d of %v is %v", b, a, x, row, set[k])
					}
				}
				if !agree(a, b, columns) {
					t.Fatalf("%v on %v: the row %v is %v", b, a, row, columns)
				}
			}
		}
	}
	if checked < 1000 {
		t.Errorf("%d rows", checked)
	}
}

// P4.3: each pattern of two rows corresponds to a row of b on a.
func TestPatternsAreRows(t *testing.T) {
	checked := 0
	for _, c := range mixedPairs() {
		a, b := c[0], c[1]
		if len(a)*len(b) > 16 {
			continue
		}
		set, from := wantOn(t, a, b)
		for n := 1; n <= 3; n++ {
			patterns := columnRows(a, b, n)
			for _, columns := range patterns {
				checked++
				var row []int
				for _, place := range columns {
					row = append(row, column(a, b, set, from, place[0], place[1]))
				}
				if slices.Contains(row, -1) || !isRow(set, row) {
					t.Fatalf("%v on %v: the pattern %v is %v", b, a, columns, row)
				}
			}
			// Without tiles that are met again, each pattern has a row of its own.
			if rows := allRows(set, n); len(set) == len(columnRows(a, b, 1)) && len(rows) != len(patterns) {
				t.Fatalf("%v on %v: %d rows of %d, %d patterns", b, a, len(rows), n, len(patterns))
			}
		}
	}
	if checked < 1000 {
		t.Errorf("%d patterns", checked)
	}
}

// P4.3, again and again: rows on rows on rows are there if and only if there are patterns as high.
func TestHigherOn(t *testing.T) {
	sets := slices.Concat(pairSets(), mixedSets(40, 3, 3))
	for _, set := range append(sets, parse(t, chess), parse(t, steps)) {
		stack := set
		for height := 2; height <= 4; height++ {
			stack, _ = wantOn(t, stack, set)
			n := longest(t, stack)
			for width := 1; width <= 5; width++ {
				_, e := fill.First(set, width, height, api.Edges{})
				if want := n < 0 || width <= n; (e == api.OK) != want {
					t.Fatalf("%v: rows up to %d, and %d by %d: error %d", set, n, width, height, e)
				}
			}
		}
	}
}

// P4.4: what Path returns is a row with these ends, the first one of all lists; ErrNone if there is none.
func TestPathIsRow(t *testing.T) {
	found, none := 0, 0
	for _, set := range slices.Concat(pairSets(), mixedSets(40, 3, 2), mixedSets(40, 4, 3), mixedSets(20, 5, 4)) {
		for n := 1; n <= 5; n++ {
			first := map[[2]int][]int{}
			rows := allRows(set, n)
			slices.Reverse(rows)
			for _, row := range rows {
				first[[2]int{set[row[0]].W, set[row[n-1]].E}] = row
			}
			for _, ends := range lists(5, 2) {
				want := first[[2]int{ends[0], ends[1]}]
				if want == nil {
					none++
					wantNoPath(t, set, ends[0], ends[1], n, api.ErrNone)
					continue
				}
				found++
				path, e := strip.Path(set, ends[0], ends[1], n)
				if e != api.OK || !slices.Equal(path, want) {
					t.Fatalf("%v from %d to %d, %d: %v, error %d, want %v", set, ends[0], ends[1], n, path, e, want)
				}
			}
		}
	}
	if found == 0 || none == 0 {
		t.Errorf("%d found, %d not", found, none)
	}
}

// P4.4 with long rows, of sets with many tiles.
func TestLongPathIsRow(t *testing.T) {
	found := 0
	for _, set := range slices.Concat(mixedSets(10, 30, 20), mixedSets(10, 200, 150), mixedSets(3, 1000, 900)) {
		for _, n := range []int{1, 2, 20, 1000, api.MaxCells} {
			from, to := set[0].W, set[len(set)/2].E
			path, e := strip.Path(set, from, to, n)
			if e == api.ErrNone {
				continue
			}
			found++
			if e != api.OK || len(path) != n || !isRow(set, path) || set[path[0]].W != from || set[path[n-1]].E != to {
				t.Fatalf("%d tiles from %d to %d, %d: %d tiles, error %d", len(set), from, to, n, len(path), e)
			}
		}
	}
	if found == 0 {
		t.Error("no row")
	}
}
