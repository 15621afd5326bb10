package tile

import "groutwork/api"

// Cut returns a rectangle of a pattern.
func Cut(p api.Pattern, x, y, width, height int) (api.Pattern, api.Errno) {
	if !hasForm(p) {
		return api.Pattern{}, api.ErrForm
	}
	if !within(p.Width, x, width) || !within(p.Height, y, height) {
		return api.Pattern{}, api.ErrArg
	}
	return window(p, x, y, width, height), api.OK
}

// within reports whether a part of some length, at least 1, lies within a side. It subtracts, as the sum of first and length may overflow.
func within(side, first, length int) bool {
	return first >= 0 && length >= 1 && length <= side-first
}

// Repeat returns a pattern that repeats another one.
func Repeat(p api.Pattern, width, height int) (api.Pattern, api.Errno) {
	if !hasForm(p) {
		return api.Pattern{}, api.ErrForm
	}
	if width < 1 || height < 1 {
		return api.Pattern{}, api.ErrArg
	}
	if !inCells(width, height) {
		return api.Pattern{}, api.ErrSize
	}
	return window(p, 0, 0, width, height), api.OK
}

// window returns what a rectangle shows of p, repeated.
func window(p api.Pattern, x, y, width, height int) api.Pattern {
	cells := make([]int, 0, width*height)
	for row := range height {
		for column := range width {
			cells = append(cells, cell(p, x+column, y+row))
		}
	}
	return api.Pattern{Width: width, Height: height, Cells: cells}
}
