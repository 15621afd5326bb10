package strip_test

import (
	"fmt"

	"groutwork/api"
	"groutwork/strip"
	"groutwork/tile"
)

func Example() {
	set, e := tile.Parse("0.1.1.0 1.0.0.1 5.1.1.0")
	if e != api.OK {
		fmt.Println("error", e)
		return
	}
	core, e := strip.Core(set)
	fmt.Println(core, e == api.OK)
	chess := set[:2]
	double, from, e := strip.On(chess, chess)
	text, _ := tile.Text(double)
	fmt.Println(text, from, e == api.OK)
	path, e := strip.Path(chess, 0, 1, 3)
	fmt.Println(path, e == api.OK)
	_, e = strip.Rows(chess)
	fmt.Println(e == api.ErrNone)
	// Output:
	// [0 1] true
	// 1.0.1.1 0.1.0.0 [[0 1] [1 0]] true
	// [0 1 0] true
	// true
}
