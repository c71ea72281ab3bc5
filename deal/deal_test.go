package deal

import (
	"bytes"
	"slices"
	"testing"

	"sherd/api"
	"sherd/gf"
	"sherd/room"
)

var (
	field    = gf.New()
	products = room.NewProducts()
)

// cost tells how many bytes of the tape some bytes need, by counting stripes.
func cost(p api.Plan, size int) int {
	n := 0
	for first := 0; first < size; first += p.L {
		n += p.T
	}
	return n
}

// share tells the share of the custodian i, by the document's words, point by point, without polynomials.
func share(p api.Plan, blob, tape []byte, i int) []byte {
	x := byte(i - 1)
	all := room.Secrets(p)
	w, root := products.Weights(all, x), products.Root(all, x)
	var told []byte
	for len(blob) > 0 {
		n := min(p.L, len(blob))
		through := products.Dot(blob[:n], w[:n]) // what fills the last stripe up is 0, and adds nothing
		told = append(told, through^products[root][products.Value(tape[:p.T], x)])
		blob, tape = blob[n:], tape[p.T:]
	}
	return told
}

// P10.1

func TestCostOfKnownBlobs(t *testing.T) {
	for _, test := range []struct {
		p          api.Plan
		size, want int
	}{
		{room.Plan(2, 1, 1, 2), 0, 0}, {room.Plan(2, 1, 1, 2), 1, 1}, {room.Plan(2, 1, 1, 2), 2, 2}, {room.Plan(2, 1, 1, 2), 240, 240},
		{room.Plan(9, 3, 2, 6), 1, 3}, {room.Plan(9, 3, 2, 6), 2, 3}, {room.Plan(9, 3, 2, 6), 3, 6}, {room.Plan(9, 3, 2, 6), 240, 360},
		{room.Plan(255, 254, 1, 255), 240, 60960}, {room.Plan(129, 2, 127, 129), 127, 2}, {room.Plan(129, 2, 127, 129), 128, 4}, {room.Plan(129, 2, 127, 129), 240, 4},
		{room.Plan(9, 3, 2, 6), -1, 0}, {room.Plan(9, 3, 2, 6), 241, 0}, {api.Plan{T: 5}, 3, 0},
	} {
		if got := Cost(test.p, test.size); got != test.want {
			t.Errorf("Cost of %d bytes with %+v: %d, want %d", test.size, test.p, got, test.want)
		}
	}
}

func TestCostOfAllSizes(t *testing.T) {
	for _, p := range room.RightPlans() {
		for size := range 241 {
			if got := Cost(p, size); got != cost(p, size) {
				t.Fatalf("Cost of %d bytes with %+v: %d, want %d", size, p, got, cost(p, size))
			}
		}
		for _, size := range append(room.Ends(), 241, 242, 256, 257, 480) {
			if got := Cost(p, size); got != 0 {
				t.Fatalf("Cost of %d bytes with %+v: %d", size, p, got)
			}
		}
	}
}

func TestCostWithAPlanThatMayNotBe(t *testing.T) {
	for _, p := range room.WrongPlans() {
		for _, size := range append(room.Ends(), 1, 2, 3, 239, 240, 241) {
			if got := Cost(p, size); got != 0 {
				t.Errorf("Cost of %d bytes with %+v: %d", size, p, got)
			}
		}
	}
}

func TestDealOfKnownBlobs(t *testing.T) {
	for _, test := range []struct {
		p          api.Plan
		blob, tape []byte
		want       [][]byte
	}{
		{room.Plan(2, 1, 1, 2), []byte{7}, []byte{5}, [][]byte{{13}, {8}}},
		{room.Plan(2, 1, 1, 2), []byte{7}, []byte{0}, [][]byte{{7}, {7}}},
		{room.Plan(2, 1, 1, 2), []byte{0}, []byte{5}, [][]byte{{10}, {15}}},
		{room.Plan(3, 1, 1, 2), []byte{7, 9}, []byte{0, 1}, [][]byte{{7, 9 ^ 3}, {7, 9 ^ 2}, {7, 9 ^ 1}}},
		{room.Plan(3, 1, 1, 2), []byte{7, 9}, []byte{1, 0}, [][]byte{{7 ^ 3, 9}, {7 ^ 2, 9}, {7 ^ 1, 9}}},
		{room.Plan(3, 2, 1, 3), []byte{7}, []byte{0, 1}, [][]byte{{7}, {7 ^ 2}, {7 ^ 2}}}, // 7 and x (x + 3)
		{room.Plan(3, 1, 2, 3), []byte{6, 6}, []byte{0}, [][]byte{{6}, {6}, {6}}},
		{room.Plan(3, 1, 2, 3), []byte{3, 4}, []byte{0}, [][]byte{{0}, {1}, {2}}},       // x
		{room.Plan(3, 1, 2, 3), []byte{3, 4}, []byte{1}, [][]byte{{12}, {11}, {2 ^ 6}}}, // x and (x + 3) (x + 4)
	} {
		if got, e := Deal(field, test.p, test.blob, test.tape); e != api.OK || !room.Same(got, test.want) {
			t.Errorf("Deal of %v with %+v and the tape %v: %v, %d, want %v", test.blob, test.p, test.tape, got, e, test.want)
		}
	}
}

// shares tell all shares, by the document's words.
func shares(p api.Plan, blob, tape []byte) [][]byte {
	var all [][]byte
	for i := 1; i <= p.N; i++ {
		all = append(all, share(p, blob, tape, i))
	}
	return all
}

func TestDealByTheWords(t *testing.T) {
	for _, p := range room.EdgePlans() {
		for _, size := range room.Sizes(p.L) {
			blob := room.Some(size, size)
			for _, tape := range room.Tapes(cost(p, size)) {
				if got, e := Deal(field, p, blob, tape); e != api.OK || !room.Same(got, shares(p, blob, tape)) {
					t.Fatalf("Deal of %d bytes with %+v: %v, %d", size, p, got, e)
				}
			}
		}
	}
}

func TestDealWithAllPlans(t *testing.T) {
	for _, p := range room.RightPlans() {
		size := min(240, p.L+1)
		blob, tape := room.Some(size, p.N), room.Some(cost(p, size), p.T)
		got, e := Deal(field, p, blob, tape)
		if e != api.OK || len(got) != p.N {
			t.Fatalf("Deal of %d bytes with %+v: %d shares, %d", size, p, len(got), e)
		}
		for _, i := range []int{1, 2, p.N/2 + 1, p.N - 1, p.N} {
			if want := share(p, blob, tape, i); !bytes.Equal(got[i-1], want) {
				t.Fatalf("Deal of %d bytes with %+v: share %d is %v, want %v", size, p, i, got[i-1], want)
			}
		}
	}
}

func TestDealOfNothing(t *testing.T) {
	for _, p := range room.EdgePlans() {
		for _, none := range [][]byte{nil, {}, room.Some(9, 1)[:0]} {
			for _, tape := range [][]byte{nil, {}, room.Some(9, 1)} {
				got, e := Deal(field, p, none, tape)
				if e != api.OK || !room.Same(got, make([][]byte, p.N)) {
					t.Errorf("Deal of no bytes with %+v: %v, %d", p, got, e)
				}
			}
		}
	}
}

func TestDealOfNoughts(t *testing.T) {
	for _, p := range room.EdgePlans() {
		if got, e := Deal(field, p, make([]byte, 7), make([]byte, cost(p, 7))); e != api.OK || !room.Same(got, shares(p, make([]byte, 7), make([]byte, 7*p.T))) || bytes.ContainsFunc(slices.Concat(got...), func(r rune) bool { return r != 0 }) {
			t.Errorf("Deal of noughts with %+v: %v, %d", p, got, e)
		}
	}
}

func TestDealTakesTheTapeStripeByStripe(t *testing.T) {
	p := room.Plan(9, 3, 2, 6)
	blob, tape := room.Some(20, 1), room.Some(30, 2)
	first, _ := Deal(field, p, blob, tape)
	for at := range tape {
		other := bytes.Clone(tape)
		other[at]++
		second, e := Deal(field, p, blob, other)
		if e != api.OK {
			t.Fatal(e)
		}
		for k := range 10 {
			changed := slices.ContainsFunc([]int{0, 1, 2, 3, 4, 5, 6, 7, 8}, func(i int) bool { return first[i][k] != second[i][k] })
			if changed != (k == at/3) {
				t.Errorf("the tape's byte %d: the shares of stripe %d changed: %t", at, k, changed)
			}
		}
	}
}

func TestWhatTheTapeHasMoreIsNotLookedAt(t *testing.T) {
	for _, p := range room.EdgePlans() {
		for _, size := range room.Sizes(p.L) {
			blob, tape := room.Some(size, 3), room.Some(cost(p, size), 4)
			want, _ := Deal(field, p, blob, tape)
			for _, more := range [][]byte{{0}, {255}, room.Some(400, 5)} {
				longer := slices.Concat(tape, more)
				if got, e := Deal(field, p, blob, longer); e != api.OK || !room.Same(got, want) {
					t.Fatalf("Deal of %d bytes with %+v and %d bytes too many: %v, %d", size, p, len(more), got, e)
				}
				if got, e := Share(field, p, blob, longer, 2); e != api.OK || !bytes.Equal(got, want[1]) {
					t.Fatalf("Share of %d bytes with %+v and %d bytes too many: %v, %d", size, p, len(more), got, e)
				}
			}
		}
	}
}

// eachShortTape calls check with blobs and tapes that have too few bytes for them.
func eachShortTape(check func(p api.Plan, blob, tape []byte)) {
	for _, p := range room.EdgePlans() {
		for _, size := range room.Sizes(p.L) {
			need := cost(p, size)
			for _, n := range []int{0, 1, need - p.T, need - 2, need - 1} {
				if n >= 0 && n < need {
					check(p, room.Some(size, 1), room.Some(n, 2))
				}
			}
		}
	}
}

func TestDealWithAShortTape(t *testing.T) {
	eachShortTape(func(p api.Plan, blob, tape []byte) {
		if got, e := Deal(field, p, blob, tape); e != api.ErrEmpty || len(got) != 0 {
			t.Fatalf("Deal of %d bytes with %+v and a tape of %d: %v, %d", len(blob), p, len(tape), got, e)
		}
	})
	if got, e := Deal(field, room.Plan(2, 1, 1, 2), []byte{7}, nil); e != api.ErrEmpty || len(got) != 0 {
		t.Errorf("Deal without a tape: %v, %d", got, e)
	}
}

func TestDealOfTooManyBytes(t *testing.T) {
	for _, p := range room.EdgePlans() {
		for _, size := range []int{241, 242, 256, 257, 496, 65536 + 240} {
			for _, n := range []int{0, 1, 240, 1 << 17} { // ErrBig is told ahead of ErrEmpty
				if got, e := Deal(field, p, make([]byte, size), make([]byte, n)); e != api.ErrBig || len(got) != 0 {
					t.Fatalf("Deal of %d bytes with %+v and a tape of %d: %v, %d", size, p, n, got, e)
				}
			}
		}
	}
}

func TestDealWithAPlanThatMayNotBe(t *testing.T) {
	for _, p := range room.WrongPlans() {
		for _, size := range []int{0, 1, 3, 240, 241, 1000} { // ErrArg is told ahead of ErrBig and ErrEmpty
			for _, n := range []int{0, 1, 1000} {
				if got, e := Deal(field, p, make([]byte, size), make([]byte, n)); e != api.ErrArg || len(got) != 0 {
					t.Errorf("Deal of %d bytes with %+v and a tape of %d: %v, %d", size, p, n, got, e)
				}
			}
		}
	}
}

// P10.2

func TestShareIsTheOneOfDeal(t *testing.T) {
	for _, p := range room.EdgePlans() {
		for _, size := range room.Sizes(p.L) {
			if size > 2*p.L+1 && p.N > 100 {
				continue // so many shares of so many bytes are too slow here
			}
			blob, tape := room.Some(size, 5), room.Some(cost(p, size), 6)
			all, _ := Deal(field, p, blob, tape)
			for i := 1; i <= p.N; i++ {
				if got, e := Share(field, p, blob, tape, i); e != api.OK || !bytes.Equal(got, all[i-1]) {
					t.Fatalf("Share %d of %d bytes with %+v: %v, %d, want %v", i, size, p, got, e, all[i-1])
				}
			}
		}
	}
}

func TestShareByTheWords(t *testing.T) {
	for _, p := range room.RightPlans() {
		for _, size := range []int{0, 1, 3} {
			blob, tape := room.Some(size, p.N), room.Some(cost(p, size), p.T)
			for _, i := range []int{1, p.N/2 + 1, p.N} {
				if got, e := Share(field, p, blob, tape, i); e != api.OK || !bytes.Equal(got, share(p, blob, tape, i)) {
					t.Fatalf("Share %d of %d bytes with %+v: %v, %d", i, size, p, got, e)
				}
			}
		}
	}
}

func TestShareOfNoCustodian(t *testing.T) {
	for _, p := range room.EdgePlans() {
		for _, i := range room.WrongCustodians(p) {
			for _, size := range []int{0, 1, 240, 241, 1000} { // ErrRange is told ahead of ErrBig and ErrEmpty
				for _, n := range []int{0, cost(p, min(size, 240))} {
					if got, e := Share(field, p, make([]byte, size), make([]byte, n), i); e != api.ErrRange || len(got) != 0 {
						t.Fatalf("Share %d of %d bytes with %+v: %v, %d", i, size, p, got, e)
					}
				}
			}
		}
	}
}

func TestShareWithAShortTape(t *testing.T) {
	eachShortTape(func(p api.Plan, blob, tape []byte) {
		for _, i := range []int{1, 2, p.N} {
			if got, e := Share(field, p, blob, tape, i); e != api.ErrEmpty || len(got) != 0 {
				t.Fatalf("Share %d of %d bytes with %+v and a tape of %d: %v, %d", i, len(blob), p, len(tape), got, e)
			}
		}
	})
}

func TestShareOfTooManyBytes(t *testing.T) {
	for _, p := range room.EdgePlans() {
		for _, size := range []int{241, 242, 256, 257, 496, 65536 + 240} {
			for _, n := range []int{0, 1, 240, 1 << 17} {
				if got, e := Share(field, p, make([]byte, size), make([]byte, n), 1); e != api.ErrBig || len(got) != 0 {
					t.Fatalf("Share 1 of %d bytes with %+v and a tape of %d: %v, %d", size, p, n, got, e)
				}
			}
		}
	}
}

func TestShareWithAPlanThatMayNotBe(t *testing.T) {
	for _, p := range room.WrongPlans() {
		for _, size := range []int{0, 3, 241} {
			for _, n := range []int{0, 1000} {
				for _, i := range append(room.Ends(), 1, 2, 4, 5) { // ErrArg is told ahead of all others
					if got, e := Share(field, p, make([]byte, size), make([]byte, n), i); e != api.ErrArg || len(got) != 0 {
						t.Fatalf("Share %d of %d bytes with %+v and a tape of %d: %v, %d", i, size, p, n, got, e)
					}
				}
			}
		}
	}
}

// P10.3

func TestAnyTAndLSharesTellTheBlob(t *testing.T) {
	for _, p := range room.SmallPlans(6) {
		blob := room.Some(3*p.L, p.N)
		all, e := Deal(field, p, blob, room.Some(3*p.T, p.W))
		if e != api.OK {
			t.Fatal(e)
		}
		room.EachChoice(p.N, room.Need(p), func(who []int) {
			points := room.Points(who)
			var told []byte
			for k := range 3 {
				var ys []byte
				for _, i := range who {
					ys = append(ys, all[i-1][k])
				}
				for _, s := range room.Secrets(p) {
					told = append(told, products.Dot(products.Weights(points, s), ys))
				}
			}
			if !bytes.Equal(told, blob) {
				t.Fatalf("the shares of %v with %+v tell %v, not %v", who, p, told, blob)
			}
		})
	}
}

// seen counts how often some custodians have each of the bytes that they may have of a stripe, with all tapes.
func seen(p api.Plan, blob []byte, who []int) []int {
	counts := make([]int, 1<<(8*len(who)))
	tape := make([]byte, p.T)
	for n := range 1 << (8 * p.T) {
		for k := range tape {
			tape[k] = byte(n >> (8 * k))
		}
		at := 0
		for _, i := range who {
			share, _ := Share(field, p, blob, tape, i)
			at = at<<8 | int(share[0])
		}
		counts[at]++
	}
	return counts
}

func TestTSharesTellNothing(t *testing.T) {
	for _, p := range []api.Plan{room.Plan(2, 1, 1, 2), room.Plan(4, 1, 1, 3), room.Plan(4, 1, 3, 4), room.Plan(255, 1, 1, 2), room.Plan(3, 2, 1, 3)} {
		room.EachChoice(min(p.N, 4), p.T, func(who []int) {
			for _, blob := range [][]byte{{0}, bytes.Repeat([]byte{7}, p.L)} {
				for at, n := range seen(p, blob, who) {
					if n != 1 {
						t.Fatalf("the custodians %v of %+v have the bytes %x of %v with %d tapes", who, p, at, blob, n)
					}
				}
			}
		})
	}
}

// The rules that hold everywhere, of each call.

func TestWhatIsHandedInIsNotChanged(t *testing.T) {
	for _, p := range room.EdgePlans() {
		for _, size := range append(room.Sizes(p.L), 241) {
			blob, sameBlob := room.Of(room.Some(size, 1)...)
			tape, sameTape := room.Of(room.Some(cost(p, min(size, 240)), 2)...)
			for _, tape := range [][]byte{tape, tape[:len(tape)/2]} {
				Deal(field, p, blob, tape)
				Share(field, p, blob, tape, 2)
				Share(field, p, blob, tape, 0)
				Deal(field, api.Plan{}, blob, tape)
			}
			if !sameBlob() || !sameTape() {
				t.Fatalf("a blob of %d bytes with %+v, or the tape, or their spare room, was changed", size, p)
			}
		}
	}
}

func TestSpareRoomIsNotRead(t *testing.T) {
	p := room.Plan(4, 1, 2, 3)
	blob, _ := room.Of(1, 2, 3)
	tape, _ := room.Of(4, 5)
	want := shares(p, []byte{1, 2, 3}, []byte{4, 5})
	if got, e := Deal(field, p, blob, tape); e != api.OK || !room.Same(got, want) {
		t.Errorf("Deal of lists with spare room: %v, %d, want %v", got, e, want)
	}
	if got, e := Deal(field, p, blob, tape[:1]); e != api.ErrEmpty || len(got) != 0 {
		t.Errorf("Deal with a short tape that has spare room: %v, %d", got, e)
	}
	if got, e := Share(field, p, blob, tape[:1], 3); e != api.ErrEmpty || len(got) != 0 {
		t.Errorf("Share with a short tape that has spare room: %v, %d", got, e)
	}
}

func TestAnswersShareNoMemory(t *testing.T) {
	for _, p := range room.EdgePlans() {
		for _, size := range []int{0, 1, p.L + 1} {
			blob, tape := room.Some(size, 1), room.Some(cost(p, size), 2)
			first, _ := Deal(field, p, blob, tape)
			second, _ := Deal(field, p, blob, tape)
			third, _ := Share(field, p, blob, tape, 1)
			if k := room.Shared(slices.Concat([][]byte{blob, tape, third}, first, second)...); k >= 0 {
				t.Errorf("with %+v and size %d: list %d shares memory with one ahead of it", p, size, k)
			}
			kept := slices.Clone(first)
			clear(second[:cap(second)])
			if !room.Same(first, kept) {
				t.Errorf("with %+v: the lists of two answers share memory", p)
			}
		}
	}
}

func TestAnswersHangOnWhatIsHandedInAlone(t *testing.T) {
	for _, p := range room.EdgePlans() {
		blob, tape := room.Some(p.L+1, 1), room.Some(2*p.T, 2)
		first, _ := Deal(field, p, blob, tape)
		kept := shares(p, blob, tape)
		room.Shared(first...) // writes over them
		if again, e := Deal(field, p, blob, tape); e != api.OK || !room.Same(again, kept) {
			t.Errorf("with %+v: an answer hangs on what became of an earlier one", p)
		}
	}
}

func TestNothingPanics(t *testing.T) {
	for _, p := range slices.Concat(room.EdgePlans(), room.WrongPlans()) {
		for _, f := range []*gf.Field{nil, {}, field} {
			for _, blob := range [][]byte{nil, {}, {1}, room.Some(7, 1), make([]byte, 241)} {
				for _, tape := range [][]byte{nil, {}, {1}, make([]byte, 2000)} {
					Deal(f, p, blob, tape)
					for _, i := range append(room.Ends(), 1, 2, 256, 257) {
						Share(f, p, blob, tape, i)
					}
				}
			}
		}
	}
}
