package torus

// first returns the first tower of a height, from its lowest ring up: rings each of which stands on the one before it, and the first one on the last one. It is empty if there is none.
func (b band) first(height int) []ring {
	// dead tells for each row the lines above it from which no tower can be completed.
	dead := make([][]bool, height)
	for y := range dead {
		dead[y] = make([]bool, len(b.over))
	}
	for bottom := range b.rings {
		if tower := b.climb(bottom, dead); len(tower) > 0 {
			return b.ringsAt(tower)
		}
		// The next bottom has another line to come back to.
		for _, lines := range dead {
			clear(lines)
		}
	}
	return nil
}

// climb returns the indices of the rings of the first tower over a lowest one, with as many rows as dead has; dead has to be false everywhere.
func (b band) climb(bottom int, dead [][]bool) []int {
	top := len(dead) - 1
	tower := []int{bottom}
	tried := make([]int, len(dead)) // how many of the rings over each row of the tower were tried
climb:
	for len(tower) > 0 {
		y := len(tower) - 1
		above := b.rings[tower[y]].north
		if y == top && above == b.rings[bottom].south {
			return tower
		}
		for y < top && tried[y] < len(b.over[above]) {
			next := b.over[above][tried[y]]
			tried[y]++
			if !dead[y+1][b.rings[next].north] {
				tower = append(tower, next)
				tried[y+1] = 0
				continue climb
			}
		}
		dead[y][above] = true
		tower = tower[:y]
	}
	return nil
}

// ringsAt returns the rings with these indices.
func (b band) ringsAt(indices []int) []ring {
	rings := make([]ring, len(indices))
	for y, index := range indices {
		rings[y] = b.rings[index]
	}
	return rings
}
