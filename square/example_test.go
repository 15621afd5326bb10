package square_test

import (
	"fmt"

	"groutwork/api"
	"groutwork/square"
	"groutwork/tile"
)

func Example() {
	set, e := tile.Parse("0.0.1.0")
	if e != api.OK {
		fmt.Println("error", e)
		return
	}
	is, e := square.Exists(set, 2)
	fmt.Println(is, e == api.OK)
	n, e := square.Largest(set, 8)
	fmt.Println(n, e == api.OK)
	_, e = square.Largest(set, 1)
	fmt.Println(e == api.ErrNone)
	// Output:
	// false true
	// 1 true
	// true
}
