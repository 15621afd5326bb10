package machine_test

import (
	"slices"
	"testing"

	"groutwork/api"
	"groutwork/fill"
	"groutwork/machine"
	"groutwork/tile"
)

func TestPicture(t *testing.T) {
	for _, c := range []struct {
		m      api.Machine
		config api.Config
		want   [][]int
	}{
		// Example 1.
		{walker(), config(0, 0, 0, 0, 0), [][]int{{2, 4, 0}, {1, 2, 4}}},
		{walker(), config(0, 0, 1, 1), [][]int{{3, 6}}},
		{swing(), config(1, 1, 0, 2), [][]int{{10, 8}, {3, 15}, {12, 6}}},
		{beaver(), config(1, 1, 0, 0, 1), [][]int{{8, 4, 1}, {2, 13, 1}, {1, 5, 13}}},
	} {
		for height := 1; height <= len(c.want); height++ {
			p := pictureOf(t, c.m, c.config, height)
			if want := slices.Concat(c.want[:height]...); !slices.Equal(p.Cells, want) {
				t.Errorf("Picture of %v, %v, %d: %v, want %v", c.m, c.config, height, p.Cells, want)
			}
		}
	}
}

func TestNoPicture(t *testing.T) {
	// Example 1: there are 2 steps.
	for height := 3; height <= 30; height++ {
		wantNoPicture(t, walker(), config(0, 0, 0, 0, 0), height, api.ErrNone)
	}
	// Example 2: there is no step.
	for _, m := range []api.Machine{still(1, 2), still(6, 4)} {
		for _, c := range allConfigs(m, 2) {
			wantNoPicture(t, m, c, 1, api.ErrNone)
			wantNoPicture(t, m, c, 100, api.ErrNone)
		}
	}
	// In one cell, there is no step.
	for _, m := range someMachines() {
		for _, c := range allConfigs(m, 1) {
			wantNoPicture(t, m, c, 1, api.ErrNone)
			wantNoPicture(t, m, c, api.MaxCells, api.ErrNone)
			wantNoPicture(t, m, c, api.MaxCells+1, api.ErrSize)
		}
	}
	// The machine stops.
	c := config(0, 3, 0, 0, 0, 0, 0, 0)
	pictureOf(t, beaver(), c, 12)
	wantNoPicture(t, beaver(), c, 13, api.ErrNone)
}

func TestHeightOfPicture(t *testing.T) {
	c := config(0, 0, 0, 0)
	for _, height := range []int{least, least + 1, -1, 0} {
		wantNoPicture(t, swing(), c, height, api.ErrArg)
		wantNoPicture(t, still(1, 2), c, height, api.ErrArg)
	}
	for _, height := range []int{20001, 20002, 1 << 32, 1 << 62, 1<<62 + 1, 1<<63 - 1} {
		wantNoPicture(t, swing(), c, height, api.ErrSize)
		wantNoPicture(t, still(1, 2), c, height, api.ErrSize)
	}
	for _, m := range []api.Machine{swing(), still(1, 2)} {
		wide := config(0, 0, make([]int, api.MaxTape)...)
		wantNoPicture(t, m, wide, 201, api.ErrSize)
		wantNoPicture(t, m, wide, 1<<61, api.ErrSize)
	}
	wantNoPicture(t, swing(), config(0, 0, 0, 0, 0), 13334, api.ErrSize)
	for _, p := range []api.Pattern{
		pictureOf(t, swing(), c, 20000),
		pictureOf(t, swing(), config(0, 0, 0, 0, 0), 13333),
		pictureOf(t, swing(), config(0, 0, make([]int, api.MaxTape)...), 200),
	} {
		if !tile.Fits(tilesOf(t, swing()), p) {
			t.Errorf("%d by %d: not a pattern of the tiles", p.Width, p.Height)
		}
	}
}

// wantRunInPicture checks that a pattern is one of the tiles, with the colours of a run between its rows, and 0 at both ends of each.
func wantRunInPicture(t *testing.T, m api.Machine, run []api.Config, p api.Pattern) {
	t.Helper()
	set := tilesOf(t, m)
	if !tile.Fits(set, p) {
		t.Fatalf("%v, %v: %v is no pattern of the tiles", m, run[0], p)
	}
	for y := range p.Height {
		row := rowOf(p, y)
		if !slices.Equal(southsOf(set, row), slowColours(m, run[y])) || !slices.Equal(northsOf(set, row), slowColours(m, run[y+1])) {
			t.Errorf("%v, row %d: %v are not the colours of %v and %v", m, y, row, run[y], run[y+1])
		}
		if set[row[0]].W != 0 || set[row[len(row)-1]].E != 0 {
			t.Errorf("%v, row %d: %v does not end with 0", m, y, row)
		}
	}
}

// P8.1: Picture is a pattern of the tiles, as it is described; and there is one of each height with as many steps, and of no other.
func TestPictureIsRun(t *testing.T) {
	next := numbers()
	heights := 0
	for _, m := range slices.Concat(someMachines(), allMachines(2, 2)) {
		for range 8 {
			c := mixedConfig(m, next, 9)
			run, _ := follow(m, c, 25)
			heights = max(heights, len(run)-1)
			steps := len(run) - 1
			for _, height := range []int{steps + 1, steps + 2, 30} {
				if steps < 25 {
					wantNoPicture(t, m, c, height, api.ErrNone)
				}
			}
			if steps == 0 {
				continue
			}
			whole := pictureOf(t, m, c, steps)
			wantRunInPicture(t, m, run, whole)
			for height := 1; height < steps; height++ {
				if p := pictureOf(t, m, c, height); !slices.Equal(p.Cells, whole.Cells[:height*whole.Width]) {
					t.Errorf("%v, %v: of %d rows, %d are %v, want %v", m, c, steps, height, p.Cells, whole.Cells)
				}
			}
		}
	}
	if heights < 25 {
		t.Errorf("no more than %d steps: the test tests little", heights)
	}
}

// wantOneRow checks that there is exactly one row of tiles over a configuration if there is a step, that of the picture, and none otherwise.
func wantOneRow(t *testing.T, m api.Machine, set []api.Tile, c api.Config) {
	t.Helper()
	rows := rowsOver(set, slowColours(m, c))
	if _, e := slowStep(m, c); e != api.OK {
		if len(rows) != 0 {
			t.Errorf("%v, %v: no step, but the rows %v", m, c, rows)
		}
		return
	}
	if p := pictureOf(t, m, c, 1); len(rows) != 1 || !slices.Equal(rows[0], p.Cells) {
		t.Errorf("%v, %v: the rows %v, and the picture %v", m, c, rows, p.Cells)
	}
}

// P8.2: a row over the colours of a configuration is that of the picture. As its colours to the north are those of a configuration again, this holds of all rows.
func TestOnlyPicture(t *testing.T) {
	for _, m := range slices.Concat(allMachines(1, 2), allMachines(2, 2), allMachines(1, 3)) {
		set := tilesOf(t, m)
		for _, c := range allConfigs(m, 3) {
			wantOneRow(t, m, set, c)
		}
	}
	next := numbers()
	for _, m := range someMachines() {
		set := tilesOf(t, m)
		for range 20 {
			wantOneRow(t, m, set, mixedConfig(m, next, 12))
		}
	}
}

// P8.2, for patterns of several rows: the layer that fills rectangles finds the picture, and nothing else.
func TestOnlyPictureIsFilled(t *testing.T) {
	next := numbers()
	counts := map[int]int{}
	for _, m := range slices.Concat(allMachines(1, 2), []api.Machine{beaver(), swing()}) {
		set := tilesOf(t, m)
		// More tiles are too many for fill in wider rectangles.
		widest := 4
		if len(set) > 8 {
			widest = 2
		}
		for range 20 {
			c := mixedConfig(m, next, widest)
			for height := 1; height <= 6; height++ {
				edges := api.Edges{South: slowColours(m, c), West: make([]int, height), East: make([]int, height)}
				n, e := fill.Count(set, len(c.Cells), height, edges)
				if e != api.OK {
					t.Fatalf("%v, %v: error %d", m, c, e)
				}
				counts[n]++
				p, e := machine.Picture(m, c, height)
				if n == 0 && e == api.ErrNone {
					continue
				}
				q, f := fill.First(set, len(c.Cells), height, edges)
				if n != 1 || e != api.OK || f != api.OK || !slices.Equal(p.Cells, q.Cells) {
					t.Errorf("%v, %v, %d: %d patterns, %v and %v", m, c, height, n, p, q)
				}
			}
		}
	}
	if counts[0] < 100 || counts[1] < 100 {
		t.Errorf("numbers of patterns: %v", counts)
	}
}

// P8.4: the upper rows of a picture are the picture of a later configuration.
func TestPictureInParts(t *testing.T) {
	next := numbers()
	for _, m := range someMachines() {
		for range 5 {
			c := mixedConfig(m, next, 6)
			_, height := runOf(t, m, c, 20)
			for n := range height {
				whole := pictureOf(t, m, c, height)
				later, _ := runOf(t, m, c, n)
				p := pictureOf(t, m, later, height-n)
				if !slices.Equal(p.Cells, whole.Cells[n*whole.Width:]) {
					t.Errorf("%v, %v: from row %d of %d on: %v, want %v", m, c, n, height, p.Cells, whole.Cells)
				}
			}
		}
	}
}
