package tile_test

import (
	"fmt"

	"groutwork/api"
	"groutwork/tile"
)

func Example() {
	set, e := tile.Parse("0.1.1.0 1.0.0.1")
	if e != api.OK {
		fmt.Println("error", e)
		return
	}
	board := api.Pattern{Width: 2, Height: 2, Cells: []int{0, 1, 1, 0}}
	fmt.Println(tile.Repeats(set, board))
	wall, e := tile.Repeat(board, 5, 3)
	fmt.Println(wall.Cells, e == api.OK, tile.Fits(set, wall))
	// Output:
	// true
	// [0 1 0 1 0 1 0 1 0 1 0 1 0 1 0] true true
}
