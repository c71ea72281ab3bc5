package room

import (
	"math"
	"math/bits"

	"sherd/api"
)

// wide is the least number that half of an int's bits have no room for.
const wide = 1 << (bits.UintSize / 2)

// Plan tells one with some slots and tries.
func Plan(n, t, l, w int) api.Plan {
	return api.Plan{N: n, T: t, L: l, W: w, Slots: 9, Tries: 4}
}

// SmallPlans tells all plans that may be of at most most custodians, with some slots and tries.
func SmallPlans(most int) []api.Plan {
	var all []api.Plan
	for n := 2; n <= most; n++ {
		for w := 2; w <= n; w++ {
			for t := 1; t < w; t++ {
				for l := 1; t+l <= w; l++ {
					all = append(all, Plan(n, t, l, w))
				}
			}
		}
	}
	return all
}

// RightPlans tells many plans that may be: the small ones, those whose N and L are 256 together, and some of the fewest and the most slots and tries.
func RightPlans() []api.Plan {
	all := append(SmallPlans(12), widePlans()...)
	for _, slots := range []int{1, 2, 255, 256} {
		for _, tries := range []int{1, 2, 63, 64} {
			all = append(all, api.Plan{N: 4, T: 1, L: 2, W: 3, Slots: slots, Tries: tries})
		}
	}
	return all
}

// widePlans tells plans whose N and L are 256 together, of each L, with the least and the greatest T and W, and one between.
func widePlans() []api.Plan {
	var all []api.Plan
	for l := 1; l < 128; l++ {
		n := 256 - l
		for _, t := range []int{1, (n-l)/2 + 1, n - l} {
			for _, w := range []int{t + l, (t + l + n) / 2, n} {
				all = append(all, Plan(n, t, l, w))
			}
		}
	}
	return all
}

// WrongPlans tells plans that may not be: each breaks one bound or more.
func WrongPlans() []api.Plan {
	all := []api.Plan{
		{}, {N: 4, T: 1, L: 2, W: 3, Slots: 9}, {N: 4, T: 1, L: 2, W: 3, Tries: 4}, {Slots: 9, Tries: 4},
		Plan(4, 0, 2, 3), Plan(4, -1, 2, 3), Plan(4, 1, 0, 3), Plan(4, 1, -1, 3), Plan(4, 2, -1, 3), Plan(4, -1, 2, 1), Plan(4, 0, 0, 0), Plan(0, 0, 0, 0), Plan(-4, -1, -2, -3),
		Plan(4, 2, 2, 3), Plan(4, 1, 3, 3), Plan(4, 3, 1, 3), Plan(4, 1, 2, 5), Plan(2, 1, 2, 3), Plan(1, 1, 1, 1), Plan(2, 1, 1, 1), Plan(1, 1, 1, 2), Plan(4, 1, 2, 0), Plan(4, 1, 2, -3),
		Plan(255, 1, 2, 3), Plan(256, 1, 1, 2), Plan(256, 1, 0, 2), Plan(254, 1, 3, 4), Plan(129, 1, 128, 129), Plan(128, 1, 129, 128), Plan(300, 1, 1, 2), Plan(512, 256, 256, 512), Plan(255, 254, 1, 256),
		Plan(4, math.MaxInt, 1, 3), Plan(4, 1, math.MaxInt, 3), Plan(4, math.MaxInt, math.MaxInt, 3), Plan(4, math.MaxInt/2+1, math.MaxInt/2+1, 3), Plan(4, math.MaxInt, math.MinInt, 3), Plan(math.MaxInt, 1, 1, 2), Plan(math.MaxInt, 1, 1, math.MaxInt),
		Plan(math.MinInt, 1, 1, 2), Plan(4, 1, 1, math.MinInt), Plan(math.MinInt, 1, 1, math.MinInt), Plan(math.MaxInt, math.MaxInt, math.MaxInt, math.MaxInt), Plan(math.MinInt, math.MinInt, math.MinInt, math.MinInt),
		Plan(wide+4, 1, 2, 3), Plan(4, wide+1, 2, 3), Plan(4, 1, wide+2, 3), Plan(4, 1, 2, wide+3), Plan(4+256, 1, 2, 3),
	}
	for _, n := range append(Ends(), 257, 258, 512, wide+9) {
		all = append(all, api.Plan{N: 4, T: 1, L: 2, W: 3, Slots: n, Tries: 4})
	}
	for _, n := range append(Ends(), 65, 66, 256, wide+4) {
		all = append(all, api.Plan{N: 4, T: 1, L: 2, W: 3, Slots: 9, Tries: n})
	}
	return all
}

// Ends tells numbers at the ends of some types' ranges, and some of 0 and below.
func Ends() []int {
	return []int{math.MinInt, math.MinInt + 1, math.MinInt/2 - 1, math.MinInt / 2, -wide/2 - 1, -wide / 2, -256, -255, -2, -1, 0,
		wide/2 - 1, wide / 2, wide - 1, wide, math.MaxInt / 2, math.MaxInt/2 + 1, math.MaxInt - 256, math.MaxInt - 255, math.MaxInt - 1, math.MaxInt}
}
