package plan

import (
	"bytes"
	"math"
	"math/big"
	"math/bits"
	"slices"
	"testing"

	"sherd/api"
	"sherd/room"
)

// sum is a sum of any numbers, whatever their sizes.
func sum(numbers ...int) *big.Int {
	all := new(big.Int)
	for _, n := range numbers {
		all.Add(all, big.NewInt(int64(n)))
	}
	return all
}

// atMost tells whether a number is at most another one.
func atMost(a, b *big.Int) bool {
	return a.Cmp(b) <= 0
}

// mayBe tells whether a plan may be, by the document's words.
func mayBe(p api.Plan) bool {
	return p.T >= 1 && p.L >= 1 && atMost(sum(p.T, p.L), sum(p.W)) && p.W <= p.N && atMost(sum(p.N, p.L), sum(256)) &&
		p.Slots >= 1 && p.Slots <= 256 && p.Tries >= 1 && p.Tries <= 64
}

// P8.1

func TestRightOfKnownPlans(t *testing.T) {
	for _, p := range []api.Plan{
		{N: 4, T: 1, L: 2, W: 3, Slots: 9, Tries: 4}, {N: 2, T: 1, L: 1, W: 2, Slots: 1, Tries: 1}, {N: 2, T: 1, L: 1, W: 2, Slots: 256, Tries: 64},
		room.Plan(255, 1, 1, 2), room.Plan(255, 254, 1, 255), room.Plan(255, 1, 1, 255), room.Plan(254, 1, 2, 3), room.Plan(254, 252, 2, 254), room.Plan(129, 2, 127, 129), room.Plan(129, 1, 127, 128), room.Plan(128, 1, 127, 128), room.Plan(5, 2, 2, 4), room.Plan(9, 4, 5, 9), room.Plan(9, 5, 4, 9),
	} {
		if !Right(p) {
			t.Errorf("Right of %+v, which may be", p)
		}
	}
	for _, p := range room.WrongPlans() {
		if Right(p) {
			t.Errorf("Right of %+v, which may not be", p)
		}
	}
}

func TestRightOfManyPlans(t *testing.T) {
	for _, p := range room.RightPlans() {
		if !Right(p) || !mayBe(p) {
			t.Errorf("Right of %+v: %v, want %v", p, Right(p), mayBe(p))
		}
	}
}

func TestRightOfAllSmallNumbers(t *testing.T) {
	for n := -2; n <= 8; n++ {
		for seen := -2; seen <= 8; seen++ {
			for l := -2; l <= 8; l++ {
				for w := -2; w <= 8; w++ {
					if p := room.Plan(n, seen, l, w); Right(p) != mayBe(p) {
						t.Fatalf("Right of %+v: %v", p, Right(p))
					}
				}
			}
		}
	}
}

func TestRightOfNumbersAtTheEnds(t *testing.T) {
	some := append(room.Ends(), 1, 2, 3, 254, 255, 256, 257)
	for _, n := range some {
		for _, seen := range some {
			for _, l := range some {
				for _, w := range some {
					if p := room.Plan(n, seen, l, w); Right(p) != mayBe(p) {
						t.Fatalf("Right of %+v: %v", p, Right(p))
					}
				}
			}
		}
	}
}

func TestRightOfAllNAndL(t *testing.T) {
	for n := range 260 {
		for l := range 260 {
			for _, p := range []api.Plan{room.Plan(n, 1, l, l+1), room.Plan(n, 1, l, n), room.Plan(n, n-l, l, n), room.Plan(n, n-l+1, l, n), room.Plan(n, 1, l, l), room.Plan(n, 1, l, n+1)} {
				if Right(p) != mayBe(p) {
					t.Fatalf("Right of %+v: %v", p, Right(p))
				}
			}
		}
	}
}

func TestRightOfAllSlotsAndTries(t *testing.T) {
	for slots := -3; slots <= 520; slots++ {
		for _, tries := range []int{-1, 0, 1, 2, 63, 64, 65} {
			p := api.Plan{N: 4, T: 1, L: 2, W: 3, Slots: slots, Tries: tries}
			if want := slots >= 1 && slots <= 256 && tries >= 1 && tries <= 64; Right(p) != want {
				t.Errorf("Right of %+v: %v", p, !want)
			}
		}
	}
	for tries := -3; tries <= 520; tries++ {
		for _, slots := range []int{-1, 0, 1, 2, 255, 256, 257} {
			p := api.Plan{N: 4, T: 1, L: 2, W: 3, Slots: slots, Tries: tries}
			if want := slots >= 1 && slots <= 256 && tries >= 1 && tries <= 64; Right(p) != want {
				t.Errorf("Right of %+v: %v", p, !want)
			}
		}
	}
}

func TestPoint(t *testing.T) {
	for i := 1; i <= 256; i++ {
		if got := Point(i); int(got) != i-1 {
			t.Errorf("Point of %d: %d", i, got)
		}
	}
	for i := 257; i <= 1100; i++ {
		if got := Point(i); got != 0 {
			t.Errorf("Point of %d: %d", i, got)
		}
	}
	for i := -1100; i <= 0; i++ {
		if got := Point(i); got != 0 {
			t.Errorf("Point of %d: %d", i, got)
		}
	}
	for _, i := range append(room.Ends(), 1<<16+2, 1<<32+2, 1<<32+256, math.MinInt+2, math.MinInt+256) {
		if got := Point(i); got != 0 {
			t.Errorf("Point of %d: %d", i, got)
		}
	}
}

func TestPoints(t *testing.T) {
	for _, test := range []struct {
		who  []int
		want []byte
	}{
		{nil, nil}, {[]int{}, nil}, {[]int{1}, []byte{0}}, {[]int{256}, []byte{255}}, {[]int{0}, []byte{0}}, {[]int{257}, []byte{0}},
		{[]int{1, 5, 0, 257}, []byte{0, 4, 0, 0}}, {[]int{3, 2, 1}, []byte{2, 1, 0}}, {[]int{7, 7, 2, 7}, []byte{6, 6, 1, 6}},
		{[]int{-1, 2, math.MinInt, 3, math.MaxInt, 4}, []byte{0, 1, 0, 2, 0, 3}}, {[]int{1<<32 + 5, 5, -251}, []byte{0, 4, 0}},
	} {
		if got := Points(test.who...); !bytes.Equal(got, test.want) {
			t.Errorf("Points of %v: %v, want %v", test.who, got, test.want)
		}
	}
	if got := Points(); len(got) != 0 {
		t.Errorf("Points of no number: %v", got)
	}
}

func TestPointsOfAnyNumber(t *testing.T) {
	var who []int
	var want []byte
	for k := range 1000 {
		i := k*77%700 - 200
		who = append(who, i)
		point := byte(0)
		if i >= 1 && i <= 256 {
			point = byte(i - 1)
		}
		want = append(want, point)
		if got := Points(who...); !bytes.Equal(got, want) {
			t.Fatalf("Points of %v: %v, want %v", who, got, want)
		}
	}
}

// P8.2

func TestKnownPlans(t *testing.T) {
	for _, test := range []struct {
		p                     api.Plan
		secrets               []byte
		all                   []int
		need, quorum, dealers int
	}{
		{room.Plan(4, 1, 2, 3), []byte{4, 5}, []int{1, 2, 3, 4}, 3, 2, 2},
		{room.Plan(5, 2, 2, 4), []byte{5, 6}, []int{1, 2, 3, 4, 5}, 4, 2, 3},
		{room.Plan(2, 1, 1, 2), []byte{2}, []int{1, 2}, 2, 1, 2},
		{room.Plan(6, 1, 3, 4), []byte{6, 7, 8}, []int{1, 2, 3, 4, 5, 6}, 4, 3, 2},
		{room.Plan(7, 4, 1, 5), []byte{7}, []int{1, 2, 3, 4, 5, 6, 7}, 5, 3, 5},
	} {
		if got := Secrets(test.p); !bytes.Equal(got, test.secrets) {
			t.Errorf("Secrets of %+v: %v, want %v", test.p, got, test.secrets)
		}
		if got := All(test.p); !slices.Equal(got, test.all) {
			t.Errorf("All of %+v: %v, want %v", test.p, got, test.all)
		}
		if got := Need(test.p); got != test.need {
			t.Errorf("Need of %+v: %d, want %d", test.p, got, test.need)
		}
		if got := Quorum(test.p); got != test.quorum {
			t.Errorf("Quorum of %+v: %d, want %d", test.p, got, test.quorum)
		}
		if got := Dealers(test.p); got != test.dealers {
			t.Errorf("Dealers of %+v: %d, want %d", test.p, got, test.dealers)
		}
	}
}

func TestSecrets(t *testing.T) {
	for _, p := range room.RightPlans() {
		got := Secrets(p)
		if len(got) != p.L {
			t.Fatalf("Secrets of %+v: %v", p, got)
		}
		for k, point := range got {
			if int(point) != p.N+k {
				t.Fatalf("Secrets of %+v: %v", p, got)
			}
		}
	}
	if got := Secrets(room.Plan(255, 1, 1, 2)); !bytes.Equal(got, []byte{255}) {
		t.Errorf("Secrets with N 255 and L 1: %v", got)
	}
	if got := Secrets(room.Plan(254, 1, 2, 3)); !bytes.Equal(got, []byte{254, 255}) {
		t.Errorf("Secrets with N 254 and L 2: %v", got)
	}
}

func TestAllAndIs(t *testing.T) {
	for _, p := range room.RightPlans() {
		got := All(p)
		if len(got) != p.N {
			t.Fatalf("All of %+v: %v", p, got)
		}
		for k, i := range got {
			if i != k+1 {
				t.Fatalf("All of %+v: %v", p, got)
			}
		}
		for _, i := range append(room.Ends(), 1, 2, p.N-1, p.N, p.N+1, p.N+2, p.N+p.L, 255, 256, 257, 258, 1<<32+1, 1<<32+p.N, p.N-256, p.N+256) {
			if Is(p, i) != slices.Contains(got, i) {
				t.Fatalf("Is of %+v and %d: %v", p, i, Is(p, i))
			}
		}
	}
	for _, p := range room.SmallPlans(5) {
		for i := -300; i <= 600; i++ {
			if want := i >= 1 && i <= p.N; Is(p, i) != want {
				t.Fatalf("Is of %+v and %d: %v", p, i, !want)
			}
		}
	}
}

func TestNeedQuorumAndDealers(t *testing.T) {
	for _, p := range room.RightPlans() {
		if got := Need(p); got != p.T+p.L {
			t.Fatalf("Need of %+v: %d", p, got)
		}
		if got := Quorum(p); got != p.N-p.W+1 {
			t.Fatalf("Quorum of %+v: %d", p, got)
		}
		if got := Dealers(p); got != p.T+1 {
			t.Fatalf("Dealers of %+v: %d", p, got)
		}
	}
}

func TestStripesOfKnownSizes(t *testing.T) {
	for l, sizes := range map[int]map[int]int{
		1:   {1: 1, 2: 2, 3: 3, 239: 239, 240: 240},
		2:   {1: 1, 2: 1, 3: 2, 4: 2, 239: 120, 240: 120},
		7:   {1: 1, 6: 1, 7: 1, 8: 2, 14: 2, 15: 3, 238: 34, 239: 35, 240: 35},
		64:  {1: 1, 63: 1, 64: 1, 65: 2, 128: 2, 129: 3, 192: 3, 193: 4, 240: 4},
		120: {1: 1, 119: 1, 120: 1, 121: 2, 239: 2, 240: 2},
		127: {1: 1, 126: 1, 127: 1, 128: 2, 240: 2},
	} {
		for size, want := range sizes {
			if got := Stripes(room.Plan(128, 1, l, 128), size); got != want {
				t.Errorf("Stripes of %d bytes, with L %d: %d, want %d", size, l, got, want)
			}
		}
	}
}

func TestStripesOfAllSizes(t *testing.T) {
	for l := 1; l <= 127; l++ {
		p := room.Plan(129, 1, l, 129)
		for size := -300; size <= 600; size++ {
			want := 0
			if size <= 240 {
				for want*l < size {
					want++
				}
			}
			if got := Stripes(p, size); got != want {
				t.Fatalf("Stripes of %d bytes, with L %d: %d, want %d", size, l, got, want)
			}
		}
		for _, size := range append(room.Ends(), 1<<32+1, 1<<32+240, math.MinInt+240) {
			if got := Stripes(p, size); got != 0 {
				t.Errorf("Stripes of %d bytes, with L %d: %d", size, l, got)
			}
		}
	}
}

func TestStripesHangOnLAlone(t *testing.T) {
	for _, p := range room.RightPlans() {
		for _, size := range []int{-1, 0, 1, p.L - 1, p.L, p.L + 1, 2 * p.L, 2*p.L + 1, 239, 240, 241} {
			want := 0
			if size >= 1 && size <= 240 {
				want = int(math.Ceil(float64(size) / float64(p.L)))
			}
			if got := Stripes(p, size); got != want {
				t.Fatalf("Stripes of %+v and %d bytes: %d, want %d", p, size, got, want)
			}
		}
	}
}

func TestNothingOfPlansThatMayNotBe(t *testing.T) {
	for _, p := range room.WrongPlans() {
		if got := Secrets(p); len(got) != 0 {
			t.Errorf("Secrets of %+v, which may not be: %v", p, got)
		}
		if got := All(p); len(got) != 0 {
			t.Errorf("All of %+v, which may not be: %v", p, got)
		}
		if need, quorum, dealers := Need(p), Quorum(p), Dealers(p); need != 0 || quorum != 0 || dealers != 0 {
			t.Errorf("Need, Quorum and Dealers of %+v, which may not be: %d, %d, %d", p, need, quorum, dealers)
		}
		for _, n := range append(room.Ends(), 1, 2, 3, 4, 5, 239, 240, 241, 255, 256) {
			if Is(p, n) || Stripes(p, n) != 0 {
				t.Errorf("Is and Stripes of %+v, which may not be, and %d: %v, %d", p, n, Is(p, n), Stripes(p, n))
			}
		}
	}
}

// P8.3

func TestAllPointsAreUnlike(t *testing.T) {
	for _, p := range room.RightPlans() {
		var seen [256]bool
		for _, point := range append(Points(All(p)...), Secrets(p)...) {
			if seen[point] {
				t.Fatalf("of %+v the point %d comes twice", p, point)
			}
			seen[point] = true
		}
	}
}

func TestOfAnyWAndAnyQuorumOneIsAmongBoth(t *testing.T) {
	for _, p := range room.SmallPlans(7) {
		apart := false
		for holders := range uint(1) << p.N {
			if bits.OnesCount(holders) != p.W {
				continue
			}
			for others := range uint(1) << p.N {
				switch bits.OnesCount(others) {
				case Quorum(p):
					if holders&others == 0 {
						t.Fatalf("of %+v the custodians %b and %b have none together", p, holders, others)
					}
				case Quorum(p) - 1:
					apart = apart || holders&others == 0
				}
			}
		}
		if !apart { // what is as good with fewer is no Quorum
			t.Fatalf("of %+v any W and any %d have one together", p, Quorum(p)-1)
		}
	}
	for _, p := range room.RightPlans() {
		if p.W+Quorum(p) <= p.N || Quorum(p) > p.N {
			t.Fatalf("of %+v the first W and the last %d custodians have none together", p, Quorum(p))
		}
	}
}

// The rules that hold everywhere, of each call.

func TestWhatIsHandedInIsNotChanged(t *testing.T) {
	who, same := room.Numbers(3, 0, 257, 1, math.MinInt)
	for range 3 {
		Points(who...)
		Points(who[:2]...)
		if !same() {
			t.Fatalf("%v was changed, or its spare room", who)
		}
	}
}

func TestTheSpareRoomOfNumbersIsNotRead(t *testing.T) {
	who := []int{2, 3, 4, 5}
	if got := Points(who[:2]...); !bytes.Equal(got, []byte{1, 2}) {
		t.Errorf("Points: %v", got)
	}
}

func TestAnswersShareNoMemory(t *testing.T) {
	who := []int{1, 2, 3, 4}
	p := room.Plan(4, 1, 2, 3)
	if k := room.Shared(Points(who...), Points(who...), Secrets(p), Secrets(p), Secrets(room.Plan(4, 1, 2, 4))); k >= 0 {
		t.Errorf("list %d shares memory with one ahead of it", k)
	}
	first, second := All(p), All(p)
	for k := range second[:cap(second)] {
		second[:cap(second)][k] = 9
	}
	if want := []int{1, 2, 3, 4}; !slices.Equal(first, want) || !slices.Equal(All(p), want) {
		t.Errorf("All was changed, and then it is %v, and %v", first, All(p))
	}
}
