package tile_test

import (
	"fmt"
	"testing"

	"groutwork/api"
	"groutwork/tile"
)

func TestCut(t *testing.T) {
	p := numbered(4, 3)
	for _, c := range []struct {
		x, y int
		want api.Pattern
	}{
		{0, 0, p},
		{0, 0, api.Pattern{Width: 1, Height: 1, Cells: []int{10}}},
		{3, 2, api.Pattern{Width: 1, Height: 1, Cells: []int{21}}},
		{1, 0, api.Pattern{Width: 3, Height: 1, Cells: []int{11, 12, 13}}},
		{1, 1, api.Pattern{Width: 2, Height: 2, Cells: []int{15, 16, 19, 20}}},
		{2, 0, api.Pattern{Width: 1, Height: 3, Cells: []int{12, 16, 20}}},
	} {
		got, e := tile.Cut(p, c.x, c.y, c.want.Width, c.want.Height)
		if e != api.OK || !samePattern(got, c.want) {
			t.Errorf("Cut at %d, %d: %v, error %d, want %v", c.x, c.y, got, e, c.want)
		}
	}
}

// All rectangles around a small pattern, and extreme numbers: either within it, or ErrArg.
func TestCutWithin(t *testing.T) {
	const least, greatest = -1 << 63, 1<<63 - 1
	p := numbered(3, 2)
	numbers := []int{least, least + 1, -2, -1, 0, 1, 2, 3, 4, greatest - 1, greatest}
	for _, x := range numbers {
		for _, y := range numbers {
			for _, width := range numbers {
				for _, height := range numbers {
					checkCut(t, p, x, y, width, height)
				}
			}
		}
	}
}

func checkCut(t *testing.T, p api.Pattern, x, y, width, height int) {
	t.Helper()
	got, e := tile.Cut(p, x, y, width, height)
	what := fmt.Sprint("Cut ", x, y, width, height)
	inX := x >= 0 && x < p.Width && width >= 1 && width <= p.Width && x+width <= p.Width
	inY := y >= 0 && y < p.Height && height >= 1 && height <= p.Height && y+height <= p.Height
	if !inX || !inY {
		wantNoPattern(t, what, got, e, api.ErrArg)
		return
	}
	if e != api.OK || got.Width != width || got.Height != height || len(got.Cells) != width*height {
		t.Fatalf("%s: %v, error %d", what, got, e)
	}
	for i, index := range got.Cells {
		if index != p.Cells[(y+i/width)*p.Width+x+i%width] {
			t.Errorf("%s: %v", what, got)
		}
	}
}

func TestCutRefusesForms(t *testing.T) {
	for name, p := range invalidPatterns() {
		got, e := tile.Cut(p, 0, 0, 1, 1)
		wantNoPattern(t, name, got, e, api.ErrForm)
		got, e = tile.Cut(p, -1, -1, 0, 0)
		wantNoPattern(t, name+", wrong numbers", got, e, api.ErrForm)
	}
}

func TestRepeat(t *testing.T) {
	p := numbered(3, 2)
	for _, sides := range [][2]int{{1, 1}, {2, 1}, {3, 2}, {1, 4}, {4, 3}, {7, 5}, {200, 200}, {api.MaxCells, 1}, {1, api.MaxCells}} {
		width, height := sides[0], sides[1]
		got, e := tile.Repeat(p, width, height)
		if e != api.OK || got.Width != width || got.Height != height || len(got.Cells) != width*height {
			t.Errorf("Repeat %d by %d: %d by %d, %d cells, error %d", width, height, got.Width, got.Height, len(got.Cells), e)
			continue
		}
		for i, index := range got.Cells {
			if index != 10+i/width%2*3+i%width%3 {
				t.Errorf("Repeat %d by %d: cell %d is %d", width, height, i, index)
				break
			}
		}
	}
}

func TestRepeatRefuses(t *testing.T) {
	const least, greatest = -1 << 63, 1<<63 - 1
	p := numbered(3, 2)
	for _, c := range []struct {
		width, height int
		want          api.Errno
	}{
		{0, 1, api.ErrArg},
		{1, 0, api.ErrArg},
		{0, 0, api.ErrArg},
		{-1, -1, api.ErrArg},
		{least, least, api.ErrArg},
		{least, 1, api.ErrArg},
		{greatest, 0, api.ErrArg},
		{0, greatest, api.ErrArg},
		{greatest, -1, api.ErrArg},
		{api.MaxCells + 1, 1, api.ErrSize},
		{1, api.MaxCells + 1, api.ErrSize},
		{201, 200, api.ErrSize},
		{200, 201, api.ErrSize},
		{greatest, greatest, api.ErrSize},
		{greatest, 2, api.ErrSize},
		{1 << 32, 1 << 32, api.ErrSize},
		{1<<62 + 1, 4, api.ErrSize},
		{4, 1<<62 + 1, api.ErrSize},
	} {
		got, e := tile.Repeat(p, c.width, c.height)
		wantNoPattern(t, fmt.Sprint("Repeat ", c.width, c.height), got, e, c.want)
	}
	for name, bad := range invalidPatterns() {
		for _, sides := range [][2]int{{1, 1}, {0, 0}, {greatest, greatest}} {
			got, e := tile.Repeat(bad, sides[0], sides[1])
			wantNoPattern(t, name, got, e, api.ErrForm)
		}
	}
}

// P1.1 (and P1): a torus, repeated, is a pattern of the set, whatever the size; and a torus again if the size is a multiple.
func TestRepeatedTorus(t *testing.T) {
	sizes := [][2]int{{1, 1}, {2, 2}, {4, 3}, {3, 4}, {6, 6}, {7, 5}}
	tori := 0
	eachPattern(func(set []api.Tile, p api.Pattern) {
		if !tile.Repeats(set, p) {
			return
		}
		tori++
		for _, s := range sizes {
			q, e := tile.Repeat(p, s[0], s[1])
			if e != api.OK || !tile.Fits(set, q) {
				t.Fatalf("torus %v of %v as %d by %d: %v, error %d", p, set, s[0], s[1], q, e)
			}
			multiple := s[0]%p.Width == 0 && s[1]%p.Height == 0
			if multiple && !tile.Repeats(set, q) {
				t.Fatalf("torus %v of %v as %d by %d is no torus", p, set, s[0], s[1])
			}
		}
	})
	if tori == 0 {
		t.Error("no tori")
	}
}

func TestGreatestRepeatedTorus(t *testing.T) {
	set := parse(t, chess)
	for _, sides := range [][2]int{{200, 200}, {api.MaxCells, 1}, {1, api.MaxCells}, {199, 201}} {
		p, e := tile.Repeat(chessboard(), sides[0], sides[1])
		if e != api.OK || !tile.Fits(set, p) {
			t.Errorf("%d by %d: no pattern, error %d", sides[0], sides[1], e)
		}
	}
}

// P1.2: each rectangle of a pattern of a set is a pattern of it.
func TestPartsOfPatterns(t *testing.T) {
	eachPattern(func(set []api.Tile, p api.Pattern) {
		if !tile.Fits(set, p) {
			return
		}
		for i := range len(p.Cells) {
			x, y := i%p.Width, i/p.Width
			for j := range (p.Width - x) * (p.Height - y) {
				width, height := j%(p.Width-x)+1, j/(p.Width-x)+1
				q, e := tile.Cut(p, x, y, width, height)
				if e != api.OK || !tile.Fits(set, q) {
					t.Fatalf("%d by %d at %d, %d of %v of %v: %v, error %d", width, height, x, y, p, set, q, e)
				}
			}
		}
	})
}
