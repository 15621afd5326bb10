package torus_test

import (
	"cmp"
	"fmt"
	"slices"
	"testing"

	"groutwork/api"
	"groutwork/torus"
)

func TestLeastExamples(t *testing.T) {
	for _, c := range []struct {
		set  string
		most int
		want api.Pattern
	}{
		{chess, 6, api.Pattern{Width: 2, Height: 2, Cells: []int{0, 1, 1, 0}}},
		{chess, 2, api.Pattern{Width: 2, Height: 2, Cells: []int{0, 1, 1, 0}}},
		{chess, 1, api.Pattern{}},
		{"0.1.0.0", 6, api.Pattern{}},
		{"0.1.0.0", 1, api.Pattern{}},
		{"0.1.0.1", 1, api.Pattern{Width: 1, Height: 1, Cells: []int{0}}},
		{"0.1.0.0 0.1.0.1", 6, api.Pattern{Width: 1, Height: 1, Cells: []int{1}}},
		{stack, 6, api.Pattern{Width: 1, Height: 3, Cells: []int{0, 1, 2}}},
		{stack, 3, api.Pattern{Width: 1, Height: 3, Cells: []int{0, 1, 2}}},
		{stack, 2, api.Pattern{}},
		// Two tiles beside each other, two others on each other: the lesser width comes first.
		{"0.1.0.0 0.0.0.1 1.2.2.2 2.2.1.2", 6, api.Pattern{Width: 1, Height: 2, Cells: []int{2, 3}}},
		{"0.1.0.0 0.0.0.1", 6, api.Pattern{Width: 2, Height: 1, Cells: []int{0, 1}}},
	} {
		p, e := torus.Least(parse(t, c.set), c.most)
		what := fmt.Sprintf("%s, %d", c.set, c.most)
		if c.want.Width == 0 {
			wantNone(t, what, p, e, api.ErrNone)
		} else if e != api.OK || !samePattern(p, c.want) {
			t.Errorf("%s: %v, error %d, want %v", what, p, e, c.want)
		}
	}
}

func TestLeastFives(t *testing.T) {
	set := parse(t, fives)
	for most := 1; most <= api.MaxPeriod; most++ {
		p, e := torus.Least(set, most)
		if most < 5 {
			wantNone(t, fmt.Sprint(most), p, e, api.ErrNone)
		} else if e != api.OK || !samePattern(p, wantTorus(t, set, 5, 5)) {
			t.Errorf("%d: %v, error %d", most, p, e)
		}
	}
}

// Of two tori, the one with fewer cells is the least one; of two with as many cells, the narrower one. It does not matter which one comes first in the set.
func TestLeastOfTwo(t *testing.T) {
	for _, c := range []struct {
		most        int
		less, other [2]int
	}{
		{2, [2]int{1, 1}, [2]int{2, 1}},
		{2, [2]int{1, 2}, [2]int{2, 1}},
		{2, [2]int{2, 1}, [2]int{2, 2}},
		{3, [2]int{2, 3}, [2]int{3, 2}},
		{3, [2]int{3, 1}, [2]int{2, 2}},
		{3, [2]int{1, 3}, [2]int{2, 2}},
		{3, [2]int{1, 3}, [2]int{3, 1}},
		{4, [2]int{1, 4}, [2]int{2, 2}},
		{4, [2]int{2, 2}, [2]int{4, 1}},
		{4, [2]int{1, 4}, [2]int{4, 1}},
		{3, [2]int{1, 1}, [2]int{3, 3}},
		// The other one has fewer cells, but is too high or too wide.
		{2, [2]int{2, 2}, [2]int{1, 3}},
		{2, [2]int{2, 2}, [2]int{3, 1}},
		{3, [2]int{3, 3}, [2]int{1, 5}},
		{3, [2]int{3, 3}, [2]int{4, 1}},
	} {
		for _, swapped := range []bool{false, true} {
			less, other := rigid(c.less[0], c.less[1], 0), rigid(c.other[0], c.other[1], 100)
			set := slices.Concat(less, other)
			if swapped {
				set = slices.Concat(other, less)
			}
			p, e := torus.Least(set, c.most)
			if e != api.OK || p.Width != c.less[0] || p.Height != c.less[1] {
				t.Errorf("%v: %v, error %d", c, p, e)
			}
			wantTorus(t, other, c.other[0], c.other[1])
		}
	}
}

// A torus that is higher or wider than `most` is not found, though it may have few cells.
func TestLeastBounds(t *testing.T) {
	for most := 1; most <= 4; most++ {
		for _, set := range [][]api.Tile{rigid(1, most+1, 0), rigid(most+1, 1, 0)} {
			p, e := torus.Least(set, most)
			wantNone(t, fmt.Sprint(set, most), p, e, api.ErrNone)
		}
	}
}

// sizesUpTo returns the sizes in the order in which they are compared.
func sizesUpTo(most int) [][2]int {
	var sizes [][2]int
	for width := 1; width <= most; width++ {
		for height := 1; height <= most; height++ {
			sizes = append(sizes, [2]int{width, height})
		}
	}
	slices.SortFunc(sizes, func(a, b [2]int) int {
		return cmp.Or(cmp.Compare(a[0]*a[1], b[0]*b[1]), cmp.Compare(a[0], b[0]))
	})
	return sizes
}

// Least is Find of the first size of which there is a torus.
func TestLeastIsFind(t *testing.T) {
	sets := slices.Concat(mixedSets(100, 2, 2), mixedSets(200, 3, 2), mixedSets(100, 3, 3), mixedSets(40, 4, 3))
	sets = append(sets, nil, parse(t, chess), parse(t, stack), parse(t, fives))
	seen := map[[2]int]int{}
	for _, set := range sets {
		for most := 1; most <= api.MaxPeriod; most++ {
			p, e := torus.Least(set, most)
			sizes := sizesUpTo(most)
			at := slices.IndexFunc(sizes, func(sides [2]int) bool { return exists(t, set, sides[0], sides[1]) })
			if at < 0 {
				wantNone(t, fmt.Sprint(set, most), p, e, api.ErrNone)
				seen[[2]int{}]++
				continue
			}
			if want := wantTorus(t, set, sizes[at][0], sizes[at][1]); e != api.OK || !samePattern(p, want) {
				t.Fatalf("%v, %d: %v, error %d, want %v", set, most, p, e, want)
			}
			seen[sizes[at]]++
		}
	}
	if len(seen) < 6 {
		t.Errorf("only these sizes: %v", seen)
	}
}
