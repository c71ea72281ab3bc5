package blind

import (
	"bytes"
	"slices"
	"testing"

	"sherd/api"
	"sherd/deal"
	"sherd/gf"
	"sherd/room"
	"sherd/zero"
)

var (
	field    = gf.New()
	products = room.NewProducts()
)

// cost tells how many bytes of a tape some stripes need, by the document's words.
func cost(p api.Plan, stripes int) int {
	return (room.Need(p) - 1) * stripes
}

// blindings tell all of them, by the document's words, point by point, without a product of polynomials.
func blindings(p api.Plan, stripes, target int, tape []byte) [][]byte {
	all := make([][]byte, p.N)
	for i := range all {
		x := byte(i)
		for k := range stripes {
			drawn := tape[cost(p, k):cost(p, k+1)]
			all[i] = append(all[i], products[x^byte(target-1)][products.Value(drawn, x)])
		}
	}
	return all
}

// found tells the target's share, by the document's words.
func found(p api.Plan, target int, who []int, parts [][]byte) []byte {
	return products.Through(room.Points(who[:room.Need(p)]), parts, byte(target-1))
}

// others tell count custodians but the target, in some order.
func others(p api.Plan, target, count, seed int) []int {
	all := room.Mixed(p, p.N, seed)
	return slices.DeleteFunc(all, func(i int) bool { return i == target })[:count]
}

// counts tell of how many custodians but a target a share may be found: none, if Need are all there are.
func counts(p api.Plan) []int {
	return slices.DeleteFunc(append(room.Counts(p), p.N-1), func(n int) bool { return n < room.Need(p) || n == p.N })
}

// P13.1

func TestCostOfKnownStripes(t *testing.T) {
	for _, test := range []struct {
		p             api.Plan
		stripes, want int
	}{
		{room.Plan(3, 1, 1, 2), 0, 0}, {room.Plan(3, 1, 1, 2), 1, 1}, {room.Plan(3, 1, 1, 2), 2, 2}, {room.Plan(3, 1, 1, 2), 240, 240},
		{room.Plan(9, 3, 2, 6), 1, 4}, {room.Plan(9, 3, 2, 6), 2, 8}, {room.Plan(9, 3, 2, 6), 121, 484}, {room.Plan(9, 3, 2, 6), 240, 960},
		{room.Plan(255, 254, 1, 255), 240, 60960}, {room.Plan(129, 1, 127, 128), 240, 30480}, {room.Plan(129, 2, 127, 129), 3, 384},
		{room.Plan(9, 3, 2, 6), -1, 0}, {room.Plan(9, 3, 2, 6), 241, 0}, {api.Plan{T: 5, L: 3}, 3, 0},
	} {
		if got := Cost(test.p, test.stripes); got != test.want {
			t.Errorf("Cost of %d stripes with %+v: %d, want %d", test.stripes, test.p, got, test.want)
		}
	}
}

func TestCostByTheWords(t *testing.T) {
	room.EachStripes(func(p api.Plan, stripes int, right bool) {
		want := 0
		if right {
			want = cost(p, stripes)
		}
		if got := Cost(p, stripes); got != want {
			t.Fatalf("Cost of %d stripes with %+v: %d, want %d", stripes, p, got, want)
		}
	})
}

// checkBlind checks that Blind tells the blindings of a tape.
func checkBlind(t *testing.T, p api.Plan, stripes, target int, tape []byte) {
	t.Helper()
	if got, e := Blind(field, p, stripes, target, tape); e != api.OK || !room.Same(got, blindings(p, stripes, target, tape)) {
		t.Fatalf("Blind of %d stripes with %+v for %d: %v, %d", stripes, p, target, got, e)
	}
}

func TestBlindOfKnownTapes(t *testing.T) {
	for _, test := range []struct {
		p               api.Plan
		stripes, target int
		tape            []byte
		want            [][]byte
	}{
		{room.Plan(3, 1, 1, 2), 1, 3, []byte{5}, [][]byte{{10}, {15}, {0}}},
		{room.Plan(3, 1, 1, 2), 1, 3, []byte{0}, [][]byte{{0}, {0}, {0}}},
		{room.Plan(3, 1, 1, 2), 1, 3, []byte{1}, [][]byte{{2}, {3}, {0}}},
		{room.Plan(3, 1, 1, 2), 1, 2, []byte{1}, [][]byte{{1}, {0}, {3}}},
		{room.Plan(3, 1, 1, 2), 2, 1, []byte{1, 2}, [][]byte{{0, 0}, {1, 2}, {2, 4}}},
		{room.Plan(3, 1, 1, 2), 3, 2, []byte{0, 1, 0}, [][]byte{{0, 1, 0}, {0, 0, 0}, {0, 3, 0}}},
		{room.Plan(3, 1, 1, 2), 1, 1, []byte{128}, [][]byte{{0}, {128}, {27}}},              // 2 times 128 is 27
		{room.Plan(3, 2, 1, 3), 1, 1, []byte{0, 1}, [][]byte{{0}, {1}, {4}}},                // x x
		{room.Plan(3, 2, 1, 3), 1, 3, []byte{0, 1}, [][]byte{{0}, {3}, {0}}},                // x (x + 2)
		{room.Plan(3, 1, 2, 3), 1, 3, []byte{1, 1}, [][]byte{{2}, {0}, {0}}},                // (x + 1) (x + 2)
		{room.Plan(3, 1, 2, 3), 2, 2, []byte{3, 0, 0, 1}, [][]byte{{3, 0}, {0, 0}, {5, 6}}}, // 3 (x + 1), and x (x + 1)
		{room.Plan(4, 2, 2, 4), 1, 4, []byte{0, 0, 1}, [][]byte{{0}, {2}, {4}, {0}}},        // x x (x + 3)
		{room.Plan(2, 1, 1, 2), 2, 1, []byte{9, 8}, [][]byte{{0, 0}, {9, 8}}},               // Need is N: none could be helped, but the blindings are told
		{room.Plan(4, 1, 1, 2), 1, 2, []byte{255, 7, 7}, [][]byte{{255}, {0}, {26}, {229}}}, // 3 times 255 is 26, 2 times 255 is 229
	} {
		if got, e := Blind(field, test.p, test.stripes, test.target, test.tape); e != api.OK || !room.Same(got, test.want) {
			t.Errorf("Blind of %d stripes with %+v for %d and the tape %v: %v, %d, want %v", test.stripes, test.p, test.target, test.tape, got, e, test.want)
		}
	}
}

func TestBlindByTheWords(t *testing.T) {
	for _, p := range room.EdgePlans() {
		for _, stripes := range room.SomeStripes(p) {
			for _, tape := range room.Tapes(cost(p, stripes)) {
				for _, target := range room.SomeCustodians(p) {
					checkBlind(t, p, stripes, target, tape)
				}
			}
		}
	}
}

func TestBlindForAllTargets(t *testing.T) {
	for _, p := range []api.Plan{room.Plan(12, 3, 5, 9), room.Plan(255, 1, 1, 2), room.Plan(129, 2, 3, 9)} {
		for target := 1; target <= p.N; target++ {
			checkBlind(t, p, 2, target, room.Some(cost(p, 2), target))
		}
	}
}

func TestBlindOfAllStripes(t *testing.T) {
	for _, p := range []api.Plan{room.Plan(2, 1, 1, 2), room.Plan(5, 1, 3, 5), room.Plan(9, 3, 2, 6)} {
		for stripes := range 241 {
			checkBlind(t, p, stripes, stripes%p.N+1, room.Some(cost(p, stripes), stripes))
		}
	}
}

func TestBlindWithManyPlans(t *testing.T) {
	for seed, p := range room.RightPlans() {
		checkBlind(t, p, 2, seed%p.N+1, room.Some(cost(p, 2), seed))
	}
}

func TestBlindOfTheMostStripesWithTheMostCustodians(t *testing.T) {
	for _, p := range []api.Plan{room.Plan(255, 254, 1, 255), room.Plan(129, 1, 127, 128)} {
		checkBlind(t, p, 240, p.N, room.Some(cost(p, 240), 1))
	}
}

func TestBlindOfNoStripe(t *testing.T) {
	for _, p := range room.EdgePlans() {
		for _, target := range room.SomeCustodians(p) {
			for _, tape := range [][]byte{nil, {}, room.Some(9, 1)} {
				if got, e := Blind(field, p, 0, target, tape); e != api.OK || !room.Same(got, make([][]byte, p.N)) {
					t.Errorf("Blind of no stripe with %+v for %d: %v, %d", p, target, got, e)
				}
			}
		}
	}
}

func TestTheTargetsOwnBlindingsAreNoughts(t *testing.T) {
	for _, p := range room.EdgePlans() {
		for _, target := range room.SomeCustodians(p) {
			got, e := Blind(field, p, 3, target, room.Some(cost(p, 3), target))
			if e != api.OK || !bytes.Equal(got[target-1], make([]byte, 3)) {
				t.Fatalf("Blind with %+v for %d: its own are %v, %d", p, target, got[target-1], e)
			}
		}
	}
}

// TestBlindTakesTheTapeStripeByStripe: at point 0, the first custodian's, the later places of what was drawn count for nothing.
func TestBlindTakesTheTapeStripeByStripe(t *testing.T) {
	p := room.Plan(9, 2, 2, 6)
	const target = 4
	tape := room.Some(30, 2)
	first, _ := Blind(field, p, 10, target, tape)
	for at := range tape {
		other := bytes.Clone(tape)
		other[at]++
		second, e := Blind(field, p, 10, target, other)
		if e != api.OK {
			t.Fatal(e)
		}
		for i := range second {
			for k := range second[i] {
				counts := k == at/3 && i != target-1 && (i > 0 || at%3 == 0)
				if changed := first[i][k] != second[i][k]; changed != counts {
					t.Errorf("the tape's byte %d: the byte of stripe %d of custodian %d changed: %t", at, k, i+1, changed)
				}
			}
		}
	}
}

func TestWhatTheTapeHasMoreIsNotLookedAt(t *testing.T) {
	for _, p := range room.EdgePlans() {
		for _, stripes := range room.SomeStripes(p) {
			tape := room.Some(cost(p, stripes), 4)
			want, _ := Blind(field, p, stripes, 2, tape)
			for _, more := range [][]byte{{0}, {255}, room.Some(400, 5)} {
				if got, e := Blind(field, p, stripes, 2, slices.Concat(tape, more)); e != api.OK || !room.Same(got, want) {
					t.Fatalf("Blind of %d stripes with %+v and %d bytes too many: %v, %d", stripes, p, len(more), got, e)
				}
			}
		}
	}
}

// noBlindings checks that nothing is told but an error.
func noBlindings(t *testing.T, p api.Plan, stripes, target int, tape []byte, want api.Errno) {
	t.Helper()
	if got, e := Blind(field, p, stripes, target, tape); e != want || len(got) != 0 {
		t.Fatalf("Blind of %d stripes with %+v for %d and a tape of %d: %v, %d, want %d", stripes, p, target, len(tape), got, e, want)
	}
}

func TestBlindWithAShortTape(t *testing.T) {
	for _, p := range room.EdgePlans() {
		for _, stripes := range []int{1, 2, 3, 239, 240} {
			need := cost(p, stripes)
			for _, n := range []int{0, 1, stripes - 1, p.T * stripes, p.L * stripes, cost(p, stripes-1), need - 2, need - 1} {
				if n >= 0 && n < need {
					noBlindings(t, p, stripes, p.N, room.Some(n, 2), api.ErrEmpty)
				}
			}
			noBlindings(t, p, stripes, 1, nil, api.ErrEmpty)
		}
	}
}

func TestBlindOfStripesOutOfRange(t *testing.T) {
	for _, p := range room.EdgePlans() {
		for _, stripes := range room.WrongStripes() {
			for _, n := range []int{0, 1, 240, 241 * room.Need(p)} { // ErrRange is told ahead of ErrEmpty
				noBlindings(t, p, stripes, 1, make([]byte, n), api.ErrRange)
				noBlindings(t, p, stripes, p.N, make([]byte, n), api.ErrRange)
				noBlindings(t, p, stripes, p.N+1, make([]byte, n), api.ErrRange)
			}
			noBlindings(t, p, stripes, 1, nil, api.ErrRange)
		}
	}
}

func TestBlindForNoCustodian(t *testing.T) {
	for _, p := range room.EdgePlans() {
		for _, target := range room.WrongCustodians(p) {
			for _, stripes := range []int{0, 1, 3, 240} {
				noBlindings(t, p, stripes, target, make([]byte, cost(p, stripes)), api.ErrRange)
				noBlindings(t, p, stripes, target, nil, api.ErrRange) // ahead of ErrEmpty
			}
		}
	}
}

func TestBlindWithAPlanThatMayNotBe(t *testing.T) {
	for _, p := range room.WrongPlans() {
		for _, stripes := range append(room.WrongStripes(), 0, 1, 3, 240) { // ErrArg is told ahead of all others
			for _, target := range append(room.Ends(), 1, 2, 4, 256) {
				noBlindings(t, p, stripes, target, make([]byte, 1000), api.ErrArg)
				noBlindings(t, p, stripes, target, nil, api.ErrArg)
			}
		}
	}
}

// P13.2

func TestFindOfKnownParts(t *testing.T) {
	for _, test := range []struct {
		p      api.Plan
		target int
		who    []int
		parts  [][]byte
		want   []byte
	}{
		{room.Plan(3, 1, 1, 2), 3, []int{1, 2}, [][]byte{{10}, {15}}, []byte{0}},
		{room.Plan(3, 1, 1, 2), 3, []int{2, 1}, [][]byte{{15}, {10}}, []byte{0}},
		{room.Plan(3, 1, 1, 2), 3, []int{1, 2}, [][]byte{{7}, {7}}, []byte{7}},
		{room.Plan(3, 1, 1, 2), 3, []int{1, 2}, [][]byte{{0, 2}, {1, 3}}, []byte{2, 0}},            // x, and x + 2
		{room.Plan(3, 1, 1, 2), 1, []int{3, 2}, [][]byte{{7, 10}, {7, 9}}, []byte{7, 8}},           // 7, and x + 8
		{room.Plan(3, 1, 1, 2), 2, []int{1, 3}, [][]byte{{9}, {11}}, []byte{8}},                    // x + 9
		{room.Plan(4, 1, 1, 2), 2, []int{1, 3, 4}, [][]byte{{9}, {11}, {200}}, []byte{8}},          // the third one is not looked at
		{room.Plan(4, 2, 1, 3), 4, []int{1, 2, 3}, [][]byte{{0}, {1}, {4}}, []byte{5}},             // x x
		{room.Plan(4, 1, 2, 3), 1, []int{4, 2, 3}, [][]byte{{5, 1}, {1, 1}, {4, 1}}, []byte{0, 1}}, // x x, and 1
		{room.Plan(4, 1, 2, 3), 2, []int{4, 1, 3}, [][]byte{nil, nil, nil}, nil},
	} {
		if got, e := Find(field, test.p, len(test.want), test.target, test.who, test.parts); e != api.OK || !bytes.Equal(got, test.want) {
			t.Errorf("Find with %+v for %d, of the parts %v of %v: %v, %d, want %v", test.p, test.target, test.parts, test.who, got, e, test.want)
		}
	}
}

// checkFind checks that Find tells the values at the target's point of the polynomials through the first Need parts.
func checkFind(t *testing.T, p api.Plan, stripes, target int, who []int, parts [][]byte) {
	t.Helper()
	if got, e := Find(field, p, stripes, target, who, parts); e != api.OK || !bytes.Equal(got, found(p, target, who, parts)) {
		t.Fatalf("Find of %d stripes with %+v for %d, of %v: %v, %d", stripes, p, target, who, got, e)
	}
}

func TestFindByTheWords(t *testing.T) {
	for _, p := range room.EdgePlans() {
		for _, stripes := range room.SomeStripes(p) {
			for _, target := range room.SomeCustodians(p) {
				for _, n := range counts(p) {
					checkFind(t, p, stripes, target, others(p, target, n, stripes), room.Lists(n, stripes, target))
				}
			}
		}
	}
}

func TestFindForAllTargets(t *testing.T) {
	for _, p := range []api.Plan{room.Plan(12, 3, 5, 9), room.Plan(255, 1, 1, 2), room.Plan(129, 2, 3, 9)} {
		for target := 1; target <= p.N; target++ {
			n := room.Need(p)
			checkFind(t, p, 2, target, others(p, target, n, target), room.Lists(n, 2, target))
		}
	}
}

func TestFindOfAllStripes(t *testing.T) {
	for _, p := range []api.Plan{room.Plan(3, 1, 1, 2), room.Plan(5, 1, 3, 5), room.Plan(9, 3, 2, 6)} {
		for stripes := range 241 {
			target, n := stripes%p.N+1, room.Need(p)
			checkFind(t, p, stripes, target, others(p, target, n, stripes), room.Lists(n, stripes, stripes))
		}
	}
}

func TestFindWithManyPlans(t *testing.T) {
	for seed, p := range room.RightPlans() {
		if n := room.Need(p); n < p.N {
			target := seed%p.N + 1
			checkFind(t, p, 2, target, others(p, target, n, seed), room.Lists(n, 2, seed))
		}
	}
}

func TestFindLooksAtTheFirstNeedPartsAlone(t *testing.T) {
	for _, p := range room.EdgePlans() {
		need := room.Need(p)
		if need >= p.N-1 {
			continue
		}
		for _, target := range room.SomeCustodians(p) {
			who, parts := others(p, target, p.N-1, 1), room.Lists(p.N-1, 2, 1)
			want := found(p, target, who, parts)
			for seed := range 3 {
				copy(parts[need:], room.Lists(p.N-1-need, 2, 2+seed))
				if got, e := Find(field, p, 2, target, who, parts); e != api.OK || !bytes.Equal(got, want) {
					t.Fatalf("Find with %+v for %d, with other parts behind: %v, %d, want %v", p, target, got, e, want)
				}
			}
			parts[need-1] = bytes.Clone(parts[need-1])
			parts[need-1][1]++
			if got, e := Find(field, p, 2, target, who, parts); e != api.OK || got[0] != want[0] || got[1] == want[1] {
				t.Fatalf("Find with %+v for %d, with another part at place %d: %v, %d, not %v", p, target, need-1, got, e, want)
			}
		}
	}
}

func TestFindOfNoStripe(t *testing.T) {
	for _, p := range room.EdgePlans() {
		for _, n := range counts(p) {
			for _, none := range [][]byte{nil, {}, room.Some(9, 1)[:0]} {
				if got, e := Find(field, p, 0, p.N, others(p, p.N, n, 1), slices.Repeat([][]byte{none}, n)); e != api.OK || len(got) != 0 {
					t.Errorf("Find of no stripe with %+v: %v, %d", p, got, e)
				}
			}
		}
	}
}

// notFound checks that nothing is told but an error.
func notFound(t *testing.T, p api.Plan, stripes, target int, who []int, parts [][]byte, want api.Errno) {
	t.Helper()
	if got, e := Find(field, p, stripes, target, who, parts); e != want || len(got) != 0 {
		t.Fatalf("Find of %d stripes with %+v for %d, of %d parts of %v: %v, %d, want %d", stripes, p, target, len(parts), who, got, e, want)
	}
}

func TestFindWithAPlanThatMayNotBe(t *testing.T) {
	for _, p := range room.WrongPlans() { // ErrArg is told ahead of all others
		for _, stripes := range append(room.Ends(), 1, 2, 240, 241) {
			for _, target := range []int{-1, 0, 1, 2, 4, 5, 257} {
				for _, who := range [][]int{nil, {}, {1}, {1, 2}, {1, 2, 3}, {1, 1, 2}, {0, 1, 2}, {1, 2, 257}} {
					notFound(t, p, stripes, target, who, nil, api.ErrArg)
					notFound(t, p, stripes, target, who, room.Lists(len(who), max(0, min(stripes, 240)), 1), api.ErrArg)
				}
			}
		}
	}
}

func TestFindOfStripesOutOfRange(t *testing.T) {
	for _, p := range room.EdgePlans() {
		who := others(p, p.N, p.N-1, 1)
		for _, stripes := range room.WrongStripes() {
			for _, n := range []int{0, 1, 240, 241} {
				notFound(t, p, stripes, p.N, who, room.Lists(p.N-1, n, 1), api.ErrRange)
				notFound(t, p, stripes, p.N, append(slices.Clone(who), who[0]), room.Lists(p.N, n, 1), api.ErrRange) // ahead of ErrTwice
				notFound(t, p, stripes, p.N, who[:1], room.Lists(1, n, 1), api.ErrRange)                             // ahead of ErrFew
			}
			notFound(t, p, stripes, p.N, nil, nil, api.ErrRange)
			notFound(t, p, stripes, p.N, who, nil, api.ErrRange) // ahead of ErrForm
			notFound(t, p, stripes, p.N+1, who, nil, api.ErrRange)
		}
	}
}

func TestFindForNoCustodian(t *testing.T) {
	for _, p := range room.EdgePlans() {
		all := room.Mixed(p, p.N, 1)
		for _, target := range room.WrongCustodians(p) {
			notFound(t, p, 2, target, all, room.Lists(p.N, 2, 1), api.ErrRange)
			notFound(t, p, 0, target, all, make([][]byte, p.N), api.ErrRange)
			notFound(t, p, 2, target, append(slices.Clone(all), all[0]), room.Lists(p.N+1, 2, 1), api.ErrRange) // ahead of ErrTwice
			notFound(t, p, 2, target, all[:1], room.Lists(1, 2, 1), api.ErrRange)                               // ahead of ErrFew
			notFound(t, p, 2, target, nil, nil, api.ErrRange)
			notFound(t, p, 2, target, all, room.Lists(p.N, 3, 1), api.ErrRange) // ahead of ErrForm
		}
	}
}

// notOf checks that nothing is told but ErrRange, when one of those whose parts are handed in may not help the target.
func notOf(t *testing.T, p api.Plan, target, i int) {
	t.Helper()
	for at := range p.N - 1 {
		who, parts := others(p, target, p.N-1, 1), room.Lists(p.N-1, 2, 1)
		if at > 2 && at < p.N-3 && at != room.Need(p)-1 && at != room.Need(p) {
			continue
		}
		who[at] = i
		notFound(t, p, 2, target, who, parts, api.ErrRange)
		notFound(t, p, 0, target, who, make([][]byte, p.N-1), api.ErrRange)
		notFound(t, p, 2, target, append(who, who[p.N-2], who[0]), room.Lists(p.N+1, 2, 1), api.ErrRange) // ahead of ErrTwice
		notFound(t, p, 2, target, slices.Repeat([]int{i}, 300), room.Lists(300, 2, 1), api.ErrRange)
		notFound(t, p, 2, target, who[at:at+1], parts[:1], api.ErrRange) // ahead of ErrFew
		notFound(t, p, 2, target, who, parts[1:], api.ErrRange)          // ahead of ErrForm
		notFound(t, p, 2, target, who, room.Lists(p.N-1, 1, 1), api.ErrRange)
	}
}

func TestFindOfPartsOfNoCustodian(t *testing.T) {
	for _, p := range room.EdgePlans() {
		for _, i := range room.WrongCustodians(p) {
			notOf(t, p, 1, i)
			notOf(t, p, p.N, i)
		}
	}
}

func TestFindOfAPartOfTheTarget(t *testing.T) {
	for _, p := range room.EdgePlans() {
		for _, target := range room.SomeCustodians(p) {
			notOf(t, p, target, target)
			notFound(t, p, 2, target, room.Mixed(p, p.N, 1), room.Lists(p.N, 2, 1), api.ErrRange)
		}
	}
}

func TestFindOfTheSameCustodianTwice(t *testing.T) {
	for _, p := range room.SmallPlans(6) {
		for a := range p.N - 1 {
			for b := range a {
				for _, target := range room.SomeCustodians(p) {
					who := others(p, target, p.N-1, 1)
					who[a] = who[b]
					notFound(t, p, 2, target, who, room.Lists(p.N-1, 2, 1), api.ErrTwice)
					notFound(t, p, 0, target, who, make([][]byte, p.N-1), api.ErrTwice)
				}
			}
		}
	}
	for _, p := range room.EdgePlans() {
		all := others(p, p.N, p.N-1, 1)
		notFound(t, p, 2, p.N, append(slices.Clone(all), all[p.N-2]), room.Lists(p.N, 2, 1), api.ErrTwice)
		notFound(t, p, 2, p.N, append([]int{all[p.N-2]}, all...), room.Lists(p.N, 2, 1), api.ErrTwice)
		notFound(t, p, 2, p.N, slices.Concat(all, all), room.Lists(2*p.N-2, 2, 1), api.ErrTwice)
		notFound(t, p, 2, p.N, slices.Repeat([]int{1}, room.Need(p)), room.Lists(room.Need(p), 2, 1), api.ErrTwice)
		notFound(t, p, 2, p.N, slices.Repeat([]int{1}, 1000), room.Lists(1000, 2, 1), api.ErrTwice)
		notFound(t, p, 2, p.N, slices.Repeat([]int{1}, 1000), nil, api.ErrTwice) // ahead of ErrForm
		notFound(t, p, 2, p.N, []int{1, 1}, room.Lists(2, 3, 1), api.ErrTwice)   // ahead of ErrFew, if that is told too
	}
}

func TestFindOfTooFewCustodians(t *testing.T) {
	for _, p := range room.EdgePlans() {
		need := room.Need(p)
		for _, stripes := range []int{0, 1, 2, 240} {
			for _, n := range []int{0, 1, need / 2, need - 2, need - 1} {
				who := others(p, 1, n, 1)
				notFound(t, p, stripes, 1, who, room.Lists(n, stripes, 1), api.ErrFew)
				for _, count := range []int{0, n + 1, need, p.N} { // ahead of ErrForm
					notFound(t, p, stripes, 1, who, room.Lists(count, stripes, 1), api.ErrFew)
				}
				notFound(t, p, stripes, 1, who, room.Lists(n, stripes+1, 1), api.ErrFew)
			}
			notFound(t, p, stripes, 1, nil, nil, api.ErrFew)
		}
	}
}

func TestFindOfNotAsManyPartsAsCustodians(t *testing.T) {
	for _, p := range room.EdgePlans() {
		for _, stripes := range []int{0, 1, 2, 240} {
			for _, n := range counts(p) {
				who := others(p, 1, n, 1)
				for _, count := range []int{0, 1, room.Need(p) - 1, n - 1, n + 1, n + 2, 2 * n, n + 256} {
					notFound(t, p, stripes, 1, who, room.Lists(count, stripes, 1), api.ErrForm)
				}
				notFound(t, p, stripes, 1, who, nil, api.ErrForm)
			}
		}
	}
}

func TestFindOfAPartThatHasNotAsManyBytesAsStripes(t *testing.T) {
	for _, p := range room.EdgePlans() {
		for _, stripes := range room.SomeStripes(p) {
			for _, count := range counts(p) {
				who, parts := others(p, p.N, count, 1), room.Lists(count, stripes, 1)
				for _, at := range []int{0, 1, room.Need(p) - 1, count - 1} {
					kept := parts[at]
					for _, n := range []int{0, 1, stripes - 1, stripes + 1, 2*stripes + 1, stripes + 256} {
						if n >= 0 && n != stripes {
							parts[at] = room.Some(n, 2)
							notFound(t, p, stripes, p.N, who, parts, api.ErrForm)
						}
					}
					parts[at] = kept
				}
				notFound(t, p, stripes, p.N, who, room.Lists(count, stripes+1, 1), api.ErrForm)
				if stripes > 0 {
					notFound(t, p, stripes, p.N, who, room.Lists(count, stripes-1, 1), api.ErrForm)
					notFound(t, p, stripes, p.N, who, make([][]byte, count), api.ErrForm)
				}
			}
		}
	}
}

// P13.3

// helped tells a blob's shares, and all custodians' parts for a target, with the blindings of some dealers.
func helped(t *testing.T, p api.Plan, size, target, dealers int) (shares, parts [][]byte) {
	t.Helper()
	shares, e := deal.Deal(field, p, room.Some(size, target), room.Some(240*p.T, 1))
	if e != api.OK {
		t.Fatal(e)
	}
	parts = slices.Clone(shares)
	stripes := len(shares[0])
	for k := range dealers {
		more, e := Blind(field, p, stripes, target, room.Some(cost(p, stripes), 2+k))
		if e != api.OK {
			t.Fatal(e)
		}
		for i := range parts {
			parts[i] = zero.Add(parts[i], more[i])
		}
	}
	return shares, parts
}

// checkHelped checks that some custodians' parts tell the target's own share, in any order.
func checkHelped(t *testing.T, p api.Plan, target int, share []byte, parts [][]byte, who []int) {
	t.Helper()
	for range 2 {
		var given [][]byte
		for _, i := range who {
			given = append(given, parts[i-1])
		}
		if got, e := Find(field, p, len(share), target, who, given); e != api.OK || !bytes.Equal(got, share) {
			t.Fatalf("with %+v the parts of %v tell %v, %d, not the share %v of %d", p, who, got, e, share, target)
		}
		who = slices.Clone(who)
		slices.Reverse(who)
	}
}

func TestAnyNeedPartsTellTheTargetsShare(t *testing.T) {
	for _, p := range room.SmallPlans(6) {
		for target := 1; target <= p.N; target++ {
			for _, size := range []int{0, 1, p.L, 2*p.L + 1} {
				for _, dealers := range []int{0, 1, 2, p.T + 1} {
					shares, parts := helped(t, p, size, target, dealers)
					for n := room.Need(p); n < p.N; n++ {
						room.EachChoice(p.N, n, func(who []int) {
							if !slices.Contains(who, target) {
								checkHelped(t, p, target, shares[target-1], parts, who)
							}
						})
					}
				}
			}
		}
	}
}

func TestPartsOfManyCustodiansTellTheTargetsShare(t *testing.T) {
	for seed, p := range room.EdgePlans() {
		for _, target := range room.SomeCustodians(p) {
			shares, parts := helped(t, p, min(240, p.L+1), target, 2)
			for _, n := range counts(p) {
				checkHelped(t, p, target, shares[target-1], parts, others(p, target, n, seed))
			}
		}
	}
}

func TestPartsOfBlobsOfAllSizesTellTheTargetsShare(t *testing.T) {
	for _, p := range []api.Plan{room.Plan(5, 1, 1, 3), room.Plan(5, 1, 3, 5), room.Plan(9, 2, 5, 8)} {
		for size := range 241 {
			target := size%p.N + 1
			shares, parts := helped(t, p, size, target, p.T+1)
			checkHelped(t, p, target, shares[target-1], parts, others(p, target, room.Need(p), size))
		}
	}
}

func TestPartsOfSharesThatWereMadeNewTellTheTargetsShare(t *testing.T) {
	for _, p := range room.SmallPlans(6) {
		for target := 1; target <= p.N; target++ {
			shares, parts := helped(t, p, 2*p.L+1, target, 2)
			zeros, e := zero.Zero(field, p, 3, room.Some(3*p.T, 9))
			if e != api.OK {
				t.Fatal(e)
			}
			for i := range parts {
				parts[i] = zero.Add(parts[i], zeros[i])
			}
			if n := room.Need(p); n < p.N {
				checkHelped(t, p, target, zero.Add(shares[target-1], zeros[target-1]), parts, others(p, target, n, target))
			}
		}
	}
}

// The rules that hold everywhere, of each call.

func TestWhatIsHandedInIsNotChanged(t *testing.T) {
	for _, p := range room.EdgePlans() {
		for _, stripes := range room.SomeStripes(p) {
			tape, sameTape := room.Of(room.Some(cost(p, stripes), 2)...)
			who, sameWho := room.Numbers(others(p, 1, p.N-1, 1)...)
			parts, sameParts := room.Rows(room.Lists(p.N-1, stripes, 1)...)
			for _, n := range []int{stripes, stripes + 1, -1} {
				for _, target := range []int{1, 2, 0} {
					Blind(field, p, n, target, tape)
					Find(field, p, n, target, who, parts)
					Find(field, p, n, target, who[:1], parts[:1])
				}
			}
			Blind(field, api.Plan{}, stripes, 1, tape)
			Find(field, api.Plan{}, stripes, 1, who, parts)
			if !sameTape() || !sameWho() || !sameParts() {
				t.Fatalf("the tape, custodians, or parts of %d stripes with %+v, or their spare room, were changed", stripes, p)
			}
		}
	}
}

func TestSpareRoomIsNotRead(t *testing.T) {
	p := room.Plan(4, 1, 2, 3)
	tape, _ := room.Of(1, 2, 3, 4)
	if got, e := Blind(field, p, 2, 2, tape); e != api.OK || !room.Same(got, blindings(p, 2, 2, []byte{1, 2, 3, 4})) {
		t.Errorf("Blind of a tape with spare room: %v, %d", got, e)
	}
	noBlindings(t, p, 2, 2, tape[:3], api.ErrEmpty)
	noBlindings(t, p, 3, 2, tape, api.ErrEmpty)
	who := []int{3, 1, 4, 2, 1}
	parts, _ := room.Rows(room.Lists(4, 2, 1)...)
	checkFind(t, p, 2, 2, who[:3], parts[:3])
	notFound(t, p, 2, 2, who[:2], parts[:2], api.ErrFew)
	notFound(t, p, 2, 2, who[:3], parts[:2], api.ErrForm)
	notFound(t, p, 2, 2, who[:3], [][]byte{parts[0], parts[1], parts[2][:1]}, api.ErrForm)
	notFound(t, p, 3, 2, who[:3], parts[:3], api.ErrForm)
}

func TestAnswersShareNoMemory(t *testing.T) {
	for _, p := range room.EdgePlans() {
		for _, stripes := range []int{0, 1, 2} {
			tape := room.Some(cost(p, stripes), 2)
			first, _ := Blind(field, p, stripes, 2, tape)
			second, _ := Blind(field, p, stripes, 2, tape)
			if k := room.Shared(slices.Concat([][]byte{tape}, first, second)...); k >= 0 {
				t.Errorf("Blind with %+v and %d stripes: list %d shares memory with one ahead of it", p, stripes, k)
			}
			kept := slices.Clone(first)
			clear(second[:cap(second)])
			if !room.Same(first, kept) {
				t.Errorf("Blind with %+v: the lists of two answers share memory", p)
			}
			for _, n := range counts(p) {
				who, parts := others(p, 1, n, 1), room.Lists(n, stripes, 1)
				one, _ := Find(field, p, stripes, 1, who, parts)
				other, _ := Find(field, p, stripes, 1, who, parts)
				if k := room.Shared(append(parts, one, other)...); k >= 0 {
					t.Errorf("Find with %+v and %d stripes: list %d shares memory with one ahead of it", p, stripes, k)
				}
			}
		}
	}
}

func TestAnswersHangOnWhatIsHandedInAlone(t *testing.T) {
	for _, p := range room.EdgePlans() {
		tape := room.Some(cost(p, 2), 2)
		first, _ := Blind(field, p, 2, 2, tape)
		room.Shared(first...) // writes over them
		if again, e := Blind(gf.New(), p, 2, 2, tape); e != api.OK || !room.Same(again, blindings(p, 2, 2, tape)) {
			t.Errorf("Blind with %+v: an answer hangs on what became of an earlier one", p)
		}
		for _, n := range counts(p) {
			who, parts := others(p, 1, n, 1), room.Lists(n, 2, 1)
			share, _ := Find(field, p, 2, 1, who, parts)
			room.Shared(share) // writes over it
			if again, e := Find(gf.New(), p, 2, 1, who, parts); e != api.OK || !bytes.Equal(again, found(p, 1, who, parts)) {
				t.Errorf("Find with %+v: an answer hangs on what became of an earlier one", p)
			}
		}
	}
}

func TestNothingPanics(t *testing.T) {
	many := slices.Repeat([]int{1, 2, 3, 255, 256, 257}, 50)
	for _, p := range slices.Concat(room.EdgePlans(), room.WrongPlans()) {
		for _, stripes := range append(room.Ends(), 1, 2, 240, 241) {
			Cost(p, stripes)
			for _, f := range []*gf.Field{nil, {}, field} {
				for _, target := range []int{-1, 0, 1, 2, p.N, 256} {
					for _, tape := range [][]byte{nil, {}, {1}, make([]byte, 600)} {
						Blind(f, p, stripes, target, tape)
					}
					for _, who := range [][]int{nil, {}, {1, 2}, {2, 3}, {2, 3, 4, 5}, room.Ends(), many} {
						for _, parts := range [][][]byte{nil, {}, {nil}, make([][]byte, len(who)), room.Lists(len(who), 2, 1)} {
							Find(f, p, stripes, target, who, parts)
						}
					}
				}
			}
		}
		for _, n := range room.Ends() {
			Blind(field, p, 1, n, make([]byte, 600))
			Find(field, p, 1, n, []int{1, 2}, room.Lists(2, 1, 1))
		}
	}
}
