package room

import (
	"bytes"
	"math"
	"slices"
	"testing"

	"sherd/api"
	"sherd/plan"
)

func TestPlansThatMayBe(t *testing.T) {
	for _, p := range slices.Concat(SmallPlans(9), RightPlans(), EdgePlans()) {
		if !plan.Right(p) {
			t.Errorf("%+v may not be", p)
		}
	}
}

func TestPlansThatMayNotBe(t *testing.T) {
	for _, p := range WrongPlans() {
		if plan.Right(p) {
			t.Errorf("%+v may be", p)
		}
	}
}

func TestSmallPlansAreAll(t *testing.T) {
	for most := range 8 {
		var want []api.Plan
		for n := range most + 1 {
			for w := range 9 {
				for seen := range 9 {
					for l := range 9 {
						if p := (api.Plan{N: n, T: seen, L: l, W: w, Slots: 9, Tries: 4}); plan.Right(p) {
							want = append(want, p)
						}
					}
				}
			}
		}
		if got := SmallPlans(most); !slices.Equal(got, want) {
			t.Errorf("SmallPlans of %d: %v, want %v", most, got, want)
		}
	}
}

func TestRightPlansHaveAllL(t *testing.T) {
	var met [128]bool
	for _, p := range RightPlans() {
		met[p.L] = true
	}
	for l := 1; l < 128; l++ {
		if !met[l] {
			t.Errorf("RightPlans: none of L %d", l)
		}
	}
}

func TestEndsAreUnlike(t *testing.T) {
	all := Ends()
	if !slices.IsSorted(all) || len(slices.Compact(all)) != len(Ends()) {
		t.Errorf("Ends: %v", Ends())
	}
	for _, n := range []int{math.MinInt, -1, 0, math.MaxInt32, math.MaxUint32, math.MaxInt} {
		if !slices.Contains(Ends(), n) {
			t.Errorf("Ends: no %d", n)
		}
	}
}

func TestEdgePlansHaveTheEnds(t *testing.T) {
	all := EdgePlans()
	for name, met := range map[string]func(p api.Plan) bool{
		"the least one":    func(p api.Plan) bool { return p == Plan(2, 1, 1, 2) },
		"the greatest N":   func(p api.Plan) bool { return p.N == 255 },
		"the greatest T":   func(p api.Plan) bool { return p.T == 254 },
		"the greatest L":   func(p api.Plan) bool { return p.L == 127 },
		"N more than Need": func(p api.Plan) bool { return p.N > p.W && p.W > p.T+p.L },
	} {
		if !slices.ContainsFunc(all, met) {
			t.Errorf("EdgePlans: none with %s", name)
		}
	}
}

func TestNeedAndCounts(t *testing.T) {
	for _, p := range append(RightPlans(), EdgePlans()...) {
		if got := Need(p); got != plan.Need(p) {
			t.Errorf("Need of %+v: %d", p, got)
		}
		all := Counts(p)
		if all[0] != Need(p) || all[len(all)-1] != p.N || !slices.IsSorted(all) || len(slices.Compact(slices.Clone(all))) != len(all) {
			t.Errorf("Counts of %+v: %v", p, all)
		}
	}
}

func TestPoints(t *testing.T) {
	for _, p := range EdgePlans() {
		for _, who := range [][]int{nil, {1}, Mixed(p, p.N, 1), plan.All(p)} {
			if got := Points(who); !bytes.Equal(got, plan.Points(who...)) {
				t.Errorf("Points of %v: %v", who, got)
			}
		}
	}
}

func TestSomeStripesAreInRange(t *testing.T) {
	for _, p := range EdgePlans() {
		all := SomeStripes(p)
		if !slices.IsSorted(all) || all[0] != 0 || all[1] != 1 || all[len(all)-1] > 240 {
			t.Errorf("SomeStripes of %+v: %v", p, all)
		}
	}
	if all := SomeStripes(Plan(2, 1, 1, 2)); !slices.Contains(all, 240) {
		t.Errorf("SomeStripes: %v, without the most", all)
	}
}

func TestWrongStripesAreOutOfRange(t *testing.T) {
	all := WrongStripes()
	for _, n := range all {
		if 0 <= n && n <= 240 {
			t.Errorf("WrongStripes: %d", n)
		}
	}
	for _, n := range []int{math.MinInt, -1, 241, 256, math.MaxInt32 + 1, math.MaxInt} {
		if !slices.Contains(all, n) {
			t.Errorf("WrongStripes: no %d", n)
		}
	}
}

func TestEachStripes(t *testing.T) {
	met := map[bool]int{}
	EachStripes(func(p api.Plan, stripes int, right bool) {
		met[right]++
		if right != (plan.Right(p) && 0 <= stripes && stripes <= 240) {
			t.Errorf("EachStripes: %d with %+v: %t", stripes, p, right)
		}
	})
	if met[true] != 241*len(RightPlans()) || met[false] == 0 {
		t.Errorf("EachStripes: %v", met)
	}
}

func TestSecrets(t *testing.T) {
	for _, p := range append(RightPlans(), EdgePlans()...) {
		if got := Secrets(p); !bytes.Equal(got, plan.Secrets(p)) {
			t.Errorf("Secrets of %+v: %v", p, got)
		}
	}
}

func TestSizes(t *testing.T) {
	for l := range 128 {
		all := Sizes(l)
		for _, n := range []int{0, 1, 2, l, l + 1, 239, 240} {
			if !slices.Contains(all, n) {
				t.Errorf("Sizes of %d: %v, without %d", l, all, n)
			}
		}
		slices.Sort(all)
		if len(slices.Compact(slices.Clone(all))) != len(all) || all[0] != 0 || all[len(all)-1] != 240 {
			t.Errorf("Sizes of %d: %v", l, all)
		}
	}
}

func TestMixed(t *testing.T) {
	for _, p := range EdgePlans() {
		for seed := range 4 {
			who := Mixed(p, p.N, seed)
			if sorted := slices.Sorted(slices.Values(who)); !slices.Equal(sorted, plan.All(p)) {
				t.Fatalf("Mixed of all of %+v: %v", p, who)
			}
			for n := range p.N + 1 {
				if got := Mixed(p, n, seed); !slices.Equal(got, who[:n]) || cap(got) != n {
					t.Fatalf("Mixed of %d of %+v: %v, want %v", n, p, got, who[:n])
				}
			}
		}
	}
}

func TestMixedHangsOnSeed(t *testing.T) {
	p := Plan(12, 3, 5, 9)
	met := map[int]bool{}
	for seed := range 200 {
		met[Mixed(p, 1, seed)[0]] = true
	}
	if len(met) != p.N {
		t.Errorf("Mixed: only %d of 12 custodians are ever the first one", len(met))
	}
}

func TestSomeCustodians(t *testing.T) {
	for _, p := range slices.Concat(RightPlans(), EdgePlans()) {
		all := SomeCustodians(p)
		for _, i := range all {
			if !plan.Is(p, i) {
				t.Errorf("SomeCustodians of %+v: %d", p, i)
			}
		}
		for _, i := range []int{1, 2, min(5, p.N), p.N - 1, p.N} {
			if !slices.Contains(all, i) {
				t.Errorf("SomeCustodians of %+v: %v, without %d", p, all, i)
			}
		}
		if !slices.IsSorted(all) || len(slices.Compact(slices.Clone(all))) != len(all) {
			t.Errorf("SomeCustodians of %+v: %v", p, all)
		}
	}
}

func TestWrongCustodians(t *testing.T) {
	for _, p := range slices.Concat(RightPlans(), EdgePlans()) {
		all := WrongCustodians(p)
		for _, i := range all {
			if plan.Is(p, i) {
				t.Errorf("WrongCustodians of %+v: %d", p, i)
			}
		}
		for _, i := range []int{math.MinInt, -1, 0, p.N + 1, 257, p.N + 256, math.MaxInt32 + 1, math.MaxInt} {
			if !slices.Contains(all, i) {
				t.Errorf("WrongCustodians of %+v: %v, without %d", p, all, i)
			}
		}
	}
}

func TestEachChoice(t *testing.T) {
	for _, test := range []struct {
		n, count int
		want     [][]int
	}{
		{0, 0, [][]int{nil}}, {3, 0, [][]int{nil}}, {3, 1, [][]int{{1}, {2}, {3}}}, {3, 2, [][]int{{1, 2}, {1, 3}, {2, 3}}}, {3, 3, [][]int{{1, 2, 3}}}, {3, 4, nil}, {3, -1, nil},
	} {
		var got [][]int
		EachChoice(test.n, test.count, func(who []int) { got = append(got, who) })
		if !slices.EqualFunc(got, test.want, slices.Equal) {
			t.Errorf("EachChoice of %d of %d: %v, want %v", test.count, test.n, got, test.want)
		}
	}
}
