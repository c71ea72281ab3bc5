package room

import (
	"math"
	"math/bits"
	"slices"

	"sherd/api"
)

// wide is the least number that half of an int's bits have no room for.
const wide = 1 << (bits.UintSize / 2)

// Plan tells one with some slots and tries.
func Plan(n, t, l, w int) api.Plan {
	return api.Plan{N: n, T: t, L: l, W: w, Slots: 9, Tries: 4}
}

// SmallPlans tells all plans that may be of at most most custodians, with some slots and tries.
func SmallPlans(most int) []api.Plan {
	var all []api.Plan
	for n := 2; n <= most; n++ {
		for w := 2; w <= n; w++ {
			for t := 1; t < w; t++ {
				for l := 1; t+l <= w; l++ {
					all = append(all, Plan(n, t, l, w))
				}
			}
		}
	}
	return all
}

// RightPlans tells many plans that may be: the small ones, those whose N and L are 256 together, and some of the fewest and the most slots and tries.
func RightPlans() []api.Plan {
	all := append(SmallPlans(12), widePlans()...)
	for _, slots := range []int{1, 2, 255, 256} {
		for _, tries := range []int{1, 2, 63, 64} {
			all = append(all, api.Plan{N: 4, T: 1, L: 2, W: 3, Slots: slots, Tries: tries})
		}
	}
	return all
}

// EdgePlans tells some plans that may be, whose T, L, W and N are the least, the greatest, and some between.
func EdgePlans() []api.Plan {
	return append(SmallPlans(6), Plan(12, 3, 5, 9), Plan(40, 20, 20, 40), Plan(255, 1, 1, 2), Plan(255, 254, 1, 255),
		Plan(129, 1, 127, 128), Plan(129, 2, 127, 129), Plan(192, 128, 64, 192))
}

// widePlans tells plans whose N and L are 256 together, of each L, with the least and the greatest T and W, and one between.
func widePlans() []api.Plan {
	var all []api.Plan
	for l := 1; l < 128; l++ {
		n := 256 - l
		for _, t := range []int{1, (n-l)/2 + 1, n - l} {
			for _, w := range []int{t + l, (t + l + n) / 2, n} {
				all = append(all, Plan(n, t, l, w))
			}
		}
	}
	return all
}

// WrongPlans tells plans that may not be: each breaks one bound or more.
func WrongPlans() []api.Plan {
	all := []api.Plan{
		{}, {N: 4, T: 1, L: 2, W: 3, Slots: 9}, {N: 4, T: 1, L: 2, W: 3, Tries: 4}, {Slots: 9, Tries: 4},
		Plan(4, 0, 2, 3), Plan(4, -1, 2, 3), Plan(4, 1, 0, 3), Plan(4, 1, -1, 3), Plan(4, 2, -1, 3), Plan(4, -1, 2, 1), Plan(4, 0, 0, 0), Plan(0, 0, 0, 0), Plan(-4, -1, -2, -3),
		Plan(4, 2, 2, 3), Plan(4, 1, 3, 3), Plan(4, 3, 1, 3), Plan(4, 1, 2, 5), Plan(2, 1, 2, 3), Plan(1, 1, 1, 1), Plan(2, 1, 1, 1), Plan(1, 1, 1, 2), Plan(4, 1, 2, 0), Plan(4, 1, 2, -3),
		Plan(255, 1, 2, 3), Plan(256, 1, 1, 2), Plan(256, 1, 0, 2), Plan(254, 1, 3, 4), Plan(129, 1, 128, 129), Plan(128, 1, 129, 128), Plan(300, 1, 1, 2), Plan(512, 256, 256, 512), Plan(255, 254, 1, 256),
		Plan(4, math.MaxInt, 1, 3), Plan(4, 1, math.MaxInt, 3), Plan(4, math.MaxInt, math.MaxInt, 3), Plan(4, math.MaxInt/2+1, math.MaxInt/2+1, 3), Plan(4, math.MaxInt, math.MinInt, 3), Plan(math.MaxInt, 1, 1, 2), Plan(math.MaxInt, 1, 1, math.MaxInt),
		Plan(math.MinInt, 1, 1, 2), Plan(4, 1, 1, math.MinInt), Plan(math.MinInt, 1, 1, math.MinInt), Plan(math.MaxInt, math.MaxInt, math.MaxInt, math.MaxInt), Plan(math.MinInt, math.MinInt, math.MinInt, math.MinInt),
		Plan(wide+4, 1, 2, 3), Plan(4, wide+1, 2, 3), Plan(4, 1, wide+2, 3), Plan(4, 1, 2, wide+3), Plan(4+256, 1, 2, 3),
	}
	for _, n := range append(Ends(), 257, 258, 512, wide+9) {
		all = append(all, api.Plan{N: 4, T: 1, L: 2, W: 3, Slots: n, Tries: 4})
	}
	for _, n := range append(Ends(), 65, 66, 256, wide+4) {
		all = append(all, api.Plan{N: 4, T: 1, L: 2, W: 3, Slots: 9, Tries: n})
	}
	return all
}

// Ends tells numbers at the ends of some types' ranges, and some of 0 and below.
func Ends() []int {
	return []int{math.MinInt, math.MinInt + 1, math.MinInt/2 - 1, math.MinInt / 2, -wide/2 - 1, -wide / 2, -256, -255, -2, -1, 0,
		wide/2 - 1, wide / 2, wide - 1, wide, math.MaxInt / 2, math.MaxInt/2 + 1, math.MaxInt - 256, math.MaxInt - 255, math.MaxInt - 1, math.MaxInt}
}

// Need tells how many shares make a blob, by the document's words.
func Need(p api.Plan) int {
	return p.T + p.L
}

// Counts tells of how many custodians a blob may be made: the fewest, one more, some between, and all.
func Counts(p api.Plan) []int {
	all := []int{Need(p), Need(p) + 1, (Need(p) + p.N) / 2, p.N}
	slices.Sort(all)
	all = slices.Compact(all)
	return slices.DeleteFunc(all, func(n int) bool { return n > p.N })
}

// Points tells those of custodians, by their words.
func Points(who []int) []byte {
	var all []byte
	for _, i := range who {
		all = append(all, byte(i-1))
	}
	return all
}

// Secrets tells the points of a stripe's bytes, by their words.
func Secrets(p api.Plan) []byte {
	var all []byte
	for k := range p.L {
		all = append(all, byte(p.N+k))
	}
	return all
}

// Sizes tells sizes of blobs whose stripes have l bytes: some about those where one more stripe begins, and about the least and the greatest one.
func Sizes(l int) []int {
	var all []int
	for _, n := range []int{0, 1, 2, l - 1, l, l + 1, 2*l - 1, 2 * l, 2*l + 1, 3 * l, 3*l + 1, api.MaxBlob - 1, api.MaxBlob} {
		if n >= 0 && n <= api.MaxBlob && !slices.Contains(all, n) {
			all = append(all, n)
		}
	}
	return all
}

// SomeStripes tells numbers of stripes: the least ones, and the greatest ones; of plans with many custodians fewer, as more are too slow.
func SomeStripes(p api.Plan) []int {
	if p.N > 12 {
		return []int{0, 1, 3}
	}
	return []int{0, 1, 2, 3, 17, api.MaxBlob - 1, api.MaxBlob}
}

// WrongStripes tells numbers of stripes that are out of range.
func WrongStripes() []int {
	ends := slices.DeleteFunc(Ends(), func(n int) bool { return n == 0 })
	return append(ends, -240, -241, 241, 242, 256, 257, 480, 512, wide, wide+1, wide+240)
}

// EachStripes calls check with many plans, and numbers of stripes, and whether there may be so many with that plan.
func EachStripes(check func(p api.Plan, stripes int, right bool)) {
	for _, p := range RightPlans() {
		for stripes := range api.MaxBlob + 1 {
			check(p, stripes, true)
		}
		for _, stripes := range WrongStripes() {
			check(p, stripes, false)
		}
	}
	for _, p := range WrongPlans() {
		for _, stripes := range append(WrongStripes(), 0, 1, 2, 3, api.MaxBlob-1, api.MaxBlob) {
			check(p, stripes, false)
		}
	}
}

// Mixed tells count custodians in an order that hangs on seed alone.
func Mixed(p api.Plan, count, seed int) []int {
	who := make([]int, p.N)
	for k, b := range Some(p.N, seed) {
		other := int(b) % (k + 1)
		who[k] = who[other]
		who[other] = k + 1
	}
	return who[:count:count]
}

// SomeCustodians tells the ones with the least, the greatest, and some other numbers; of few custodians all.
func SomeCustodians(p api.Plan) []int {
	all := []int{1, 2, 3, 4, 5, 6, p.N / 2, p.N - 1, p.N}
	slices.Sort(all)
	all = slices.Compact(all)
	return slices.DeleteFunc(all, func(i int) bool { return i < 1 || i > p.N })
}

// WrongCustodians tells numbers that are no custodian's.
func WrongCustodians(p api.Plan) []int {
	all := append(Ends(), p.N+1, p.N+2, p.N+p.L, p.N+256, p.N+257, 256, 257, 258, 1-256, wide+1, wide+p.N, 1-wide)
	return slices.DeleteFunc(all, func(i int) bool { return 1 <= i && i <= p.N })
}

// EachChoice calls check with all choices of count of the numbers from 1 to n, rising.
func EachChoice(n, count int, check func(who []int)) {
	for set := range 1 << n {
		if bits.OnesCount(uint(set)) != count {
			continue
		}
		var who []int
		for i := range n {
			if set>>i&1 == 1 {
				who = append(who, i+1)
			}
		}
		check(who)
	}
}
