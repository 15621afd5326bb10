package beatty_test

import (
	"fmt"

	"groutwork/api"
	"groutwork/beatty"
	"groutwork/tile"
	"groutwork/weight"
)

func Example() {
	system := []api.Piece{
		{Factor: api.Frac{Num: 2, Den: 1}, Low: api.Frac{Num: 2, Den: 3}, High: api.Frac{Num: 1, Den: 1}},
		{Factor: api.Frac{Num: 2, Den: 3}, Low: api.Frac{Num: 1, Den: 1}, High: api.Frac{Num: 2, Den: 1}},
	}
	closed, e := beatty.Closed(system)
	fmt.Println(closed, e == api.OK)
	set, e := beatty.Tiles(system)
	fmt.Println(len(set), e == api.OK)
	w, e := beatty.Weigh(system)
	fmt.Println(w.Primes, w.Logs, e == api.OK)
	never, e := weight.Check(set, w)
	fmt.Println(never, e == api.OK)
	p, e := beatty.Orbit(system, api.Frac{Num: 1, Den: 1}, 9, 4)
	fmt.Println(tile.Fits(set, p), e == api.OK)
	for y := range p.Height {
		var souths []int
		for _, i := range p.Cells[y*p.Width : (y+1)*p.Width] {
			souths = append(souths, set[i].S)
		}
		fmt.Println(souths)
	}
	// Output:
	// true true
	// 14 true
	// [2 3] [1 -3] true
	// true true
	// true true
	// [1 1 1 1 1 1 1 1 1]
	// [0 1 1 0 1 1 0 1 1]
	// [1 1 2 1 1 2 1 1 2]
	// [0 1 1 1 1 1 1 1 1]
}
