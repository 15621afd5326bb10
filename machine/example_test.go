package machine_test

import (
	"fmt"

	"groutwork/api"
	"groutwork/machine"
	"groutwork/tile"
)

func Example() {
	walker := api.Machine{States: 1, Symbols: 2, Actions: []api.Action{
		{Write: 1, Move: api.East, Next: 0},
		{Write: 1, Move: api.East, Next: 0},
	}}
	first := api.Config{State: 0, At: 0, Cells: []int{0, 0, 0}}
	last, steps, e := machine.Run(walker, first, 100)
	fmt.Println(last, steps, e == api.OK)
	set, e := machine.Tiles(walker)
	text, _ := tile.Text(set)
	fmt.Println(text, e == api.OK)
	p, e := machine.Picture(walker, first, 2)
	fmt.Println(p.Cells, e == api.OK, tile.Fits(set, p))
	colours, e := machine.Colours(walker, last)
	fmt.Println(colours, e == api.OK)
	again, e := machine.Read(walker, colours)
	fmt.Println(again, e == api.OK)
	_, e = machine.Picture(walker, first, 3)
	fmt.Println(e == api.ErrNone)
	// Output:
	// {0 2 [1 1 0]} 2 true
	// 0.0.0.0 1.0.1.0 1.1.2.0 1.1.3.0 2.0.0.1 2.2.0.0 3.0.1.1 3.2.1.0 true
	// [2 4 0 1 2 4] true true
	// [1 1 2] true
	// {0 2 [1 1 0]} true
	// true
}
