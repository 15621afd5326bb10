package torus_test

import (
	"fmt"

	"groutwork/api"
	"groutwork/tile"
	"groutwork/torus"
)

func Example() {
	set, e := tile.Parse("0.1.1.0 1.0.0.1")
	if e != api.OK {
		fmt.Println("error", e)
		return
	}
	p, e := torus.Least(set, 6)
	fmt.Println(p, e == api.OK)
	p, e = torus.Find(set, 4, 2)
	fmt.Println(p, e == api.OK)
	_, e = torus.Find(set, 2, 1)
	fmt.Println(e == api.ErrNone)
	// Output:
	// {2 2 [0 1 1 0]} true
	// {4 2 [0 1 0 1 1 0 1 0]} true
	// true
}
