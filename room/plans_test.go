package room

import (
	"math"
	"slices"
	"testing"

	"sherd/api"
	"sherd/plan"
)

func TestPlansThatMayBe(t *testing.T) {
	for _, p := range append(SmallPlans(9), RightPlans()...) {
		if !plan.Right(p) {
			t.Errorf("%+v may not be", p)
		}
	}
}

func TestPlansThatMayNotBe(t *testing.T) {
	for _, p := range WrongPlans() {
		if plan.Right(p) {
			t.Errorf("%+v may be", p)
		}
	}
}

func TestSmallPlansAreAll(t *testing.T) {
	for most := range 8 {
		var want []api.Plan
		for n := range most + 1 {
			for w := range 9 {
				for seen := range 9 {
					for l := range 9 {
						if p := (api.Plan{N: n, T: seen, L: l, W: w, Slots: 9, Tries: 4}); plan.Right(p) {
							want = append(want, p)
						}
					}
				}
			}
		}
		if got := SmallPlans(most); !slices.Equal(got, want) {
			t.Errorf("SmallPlans of %d: %v, want %v", most, got, want)
		}
	}
}

func TestRightPlansHaveAllL(t *testing.T) {
	var met [128]bool
	for _, p := range RightPlans() {
		met[p.L] = true
	}
	for l := 1; l < 128; l++ {
		if !met[l] {
			t.Errorf("RightPlans: none of L %d", l)
		}
	}
}

func TestEndsAreUnlike(t *testing.T) {
	all := Ends()
	if !slices.IsSorted(all) || len(slices.Compact(all)) != len(Ends()) {
		t.Errorf("Ends: %v", Ends())
	}
	for _, n := range []int{math.MinInt, -1, 0, math.MaxInt32, math.MaxUint32, math.MaxInt} {
		if !slices.Contains(Ends(), n) {
			t.Errorf("Ends: no %d", n)
		}
	}
}
