package weight_test

import (
	"fmt"

	"groutwork/api"
	"groutwork/tile"
	"groutwork/weight"
)

func Example() {
	set, e := tile.Parse("2.0.1.0")
	if e != api.OK {
		fmt.Println("error", e)
		return
	}
	w := api.Weights{
		Values:  []api.Frac{{Num: 0, Den: 1}, {Num: 1, Den: 1}, {Num: 2, Den: 1}},
		Carries: []api.Frac{{Num: 0, Den: 1}},
		Factors: []api.Frac{{Num: 2, Den: 1}},
		Primes:  []int{2},
		Logs:    []int{1},
	}
	fmt.Println(weight.Valid(set, w))
	is, e := weight.Check(set, w)
	fmt.Println(is, e == api.OK)
	south, north, e := weight.Row(set, w, []int{0, 0, 0})
	fmt.Println(south, north, e == api.OK)
	// Output:
	// true
	// true true
	// {3 1} {6 1} true
}
