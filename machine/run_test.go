package machine_test

import (
	"slices"
	"testing"

	"groutwork/api"
	"groutwork/machine"
)

func TestStep(t *testing.T) {
	wantStep(t, walker(), config(0, 0, 0, 0), config(0, 1, 1, 0))
	wantStep(t, walker(), config(0, 0, 1, 0), config(0, 1, 1, 0))
	wantStep(t, swing(), config(1, 2, 0, 2, 1, 2), config(0, 1, 0, 2, 2, 2))
	wantStep(t, swing(), config(0, 1, 0, 2, 1, 2), config(1, 2, 0, 0, 1, 2))
	// A head that leaves.
	wantNoStep(t, walker(), config(0, 1, 0, 0), api.ErrNone)
	wantNoStep(t, walker(), config(0, 0, 1), api.ErrNone)
	wantNoStep(t, swing(), config(1, 0, 0, 0), api.ErrNone)
	wantNoStep(t, swing(), config(0, 1, 0, 0), api.ErrNone)
	// A machine that has stopped, in the middle or at an end, where the head would leave otherwise.
	for at := range 3 {
		wantNoStep(t, beaver(), config(2, at, 1, 1, 1), api.ErrState)
		wantNoStep(t, still(1, 2), config(0, at, 0, 0, 0), api.ErrState)
	}
	wantNoStep(t, still(6, 4), config(5, 0, 3), api.ErrState)
}

func TestStepLikeReference(t *testing.T) {
	counts := map[api.Errno]int{}
	check := func(m api.Machine, c api.Config) {
		want, e := slowStep(m, c)
		counts[e]++
		if e != api.OK {
			wantNoStep(t, m, c, e)
		} else {
			wantStep(t, m, c, want)
		}
	}
	for _, m := range slices.Concat(allMachines(1, 2), allMachines(2, 2)) {
		for _, c := range allConfigs(m, 2) {
			check(m, c)
		}
	}
	next := numbers()
	for _, m := range someMachines() {
		for range 50 {
			check(m, mixedConfig(m, next, 6))
		}
	}
	if counts[api.OK] < 1000 || counts[api.ErrState] < 1000 || counts[api.ErrNone] < 1000 || len(counts) != 3 {
		t.Errorf("results: %v", counts)
	}
}

func TestRun(t *testing.T) {
	// Example 1.
	wantRun(t, walker(), config(0, 0, 0, 0, 0), 100, config(0, 2, 1, 1, 0), 2)
	wantRun(t, walker(), config(0, 0, 0, 0, 0), 2, config(0, 2, 1, 1, 0), 2)
	wantRun(t, walker(), config(0, 0, 0, 0, 0), 1, config(0, 1, 1, 0, 0), 1)
	wantRun(t, walker(), config(0, 0, 0, 0, 0), 0, config(0, 0, 0, 0, 0), 0)
	// Example 2.
	wantRun(t, still(2, 3), config(1, 1, 2, 1, 0), 100, config(1, 1, 2, 1, 0), 0)
	// It stops.
	wantRun(t, beaver(), config(0, 3, 0, 0, 0, 0, 0, 0), 100, config(2, 3, 1, 1, 1, 1, 1, 1), 12)
	// From 000 to 111 there are 22 steps; to count 111 up, three digits are passed, and then it stops.
	wantRun(t, counter(), config(0, 3, 2, 0, 0, 0, 2), 1000, config(0, 0, 2, 0, 0, 0, 2), 25)
}

func TestNumberOfSteps(t *testing.T) {
	c := config(0, 0, 0, 0)
	for _, n := range []int{least, least + 1, -2, -1, api.MaxSteps + 1, api.MaxSteps + 2, 1 << 32, greatest} {
		wantNoRun(t, swing(), c, n, api.ErrArg)
		// However few steps there are.
		wantNoRun(t, still(1, 2), c, n, api.ErrArg)
	}
	// Each cell is counted up 50000 times, and 49999 times for one step less.
	wantRun(t, swing(), c, api.MaxSteps, config(0, 0, 2, 2), api.MaxSteps)
	wantRun(t, swing(), c, api.MaxSteps-1, config(1, 1, 2, 1), api.MaxSteps-1)
	wantRun(t, walker(), config(0, 0, make([]int, api.MaxTape)...), api.MaxSteps, config(0, 199, append(slices.Repeat([]int{1}, 199), 0)...), 199)
}

func TestRunLikeReference(t *testing.T) {
	next := numbers()
	for _, m := range someMachines() {
		for range 20 {
			c := mixedConfig(m, next, 10)
			n := next(60)
			run, _ := follow(m, c, n)
			wantRun(t, m, c, n, run[len(run)-1], len(run)-1)
		}
	}
}

// P8.4: a run of n + k steps is one of n, and then one of k.
func TestRunInParts(t *testing.T) {
	next := numbers()
	for _, m := range someMachines() {
		for range 10 {
			c := mixedConfig(m, next, 8)
			n, k := next(30), next(30)
			first, some := runOf(t, m, c, n)
			last, others := runOf(t, m, first, k)
			wantRun(t, m, c, n+k, last, some+others)
			if some < n {
				wantRun(t, m, first, k, first, 0)
			}
		}
	}
}

// A run of steps is Step, again and again.
func TestRunIsSteps(t *testing.T) {
	next := numbers()
	for _, m := range someMachines() {
		c := mixedConfig(m, next, 8)
		for n := range 30 {
			d, steps := runOf(t, m, c, n)
			after, e := machine.Step(m, d)
			if e == api.OK {
				wantRun(t, m, c, n+1, after, n+1)
			} else {
				wantRun(t, m, c, n+1, d, steps)
			}
		}
	}
}
