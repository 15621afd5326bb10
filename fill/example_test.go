package fill_test

import (
	"fmt"

	"groutwork/api"
	"groutwork/fill"
	"groutwork/tile"
)

func Example() {
	set, e := tile.Parse("0.1.1.0 1.0.0.1")
	if e != api.OK {
		fmt.Println("error", e)
		return
	}
	p, e := fill.First(set, 3, 2, api.Edges{West: []int{1, 0}})
	fmt.Println(p.Cells, e == api.OK)
	n, e := fill.Count(set, 8, 60, api.Edges{})
	fmt.Println(n, e == api.OK)
	_, e = fill.First(set, 3, 2, api.Edges{West: []int{1, 1}})
	fmt.Println(e == api.ErrNone)
	// Output:
	// [1 0 1 0 1 0] true
	// 2 true
	// true
}
