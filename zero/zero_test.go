package zero

import (
	"bytes"
	"slices"
	"testing"

	"sherd/api"
	"sherd/deal"
	"sherd/gf"
	"sherd/rebuild"
	"sherd/room"
)

var (
	field    = gf.New()
	products = room.NewProducts()
)

// shares tell all zero shares, by the document's words, point by point, without a product of polynomials.
func shares(p api.Plan, stripes int, tape []byte) [][]byte {
	all := make([][]byte, p.N)
	for i := range all {
		x := byte(i)
		root := products.Root(room.Secrets(p), x)
		for k := range stripes {
			all[i] = append(all[i], products[root][products.Value(tape[p.T*k:][:p.T], x)])
		}
	}
	return all
}

// P12.1

func TestCostOfKnownStripes(t *testing.T) {
	for _, test := range []struct {
		p             api.Plan
		stripes, want int
	}{
		{room.Plan(2, 1, 1, 2), 0, 0}, {room.Plan(2, 1, 1, 2), 1, 1}, {room.Plan(2, 1, 1, 2), 2, 2}, {room.Plan(2, 1, 1, 2), 240, 240},
		{room.Plan(9, 3, 2, 6), 1, 3}, {room.Plan(9, 3, 2, 6), 2, 6}, {room.Plan(9, 3, 2, 6), 121, 363}, {room.Plan(9, 3, 2, 6), 240, 720},
		{room.Plan(255, 254, 1, 255), 240, 60960}, {room.Plan(129, 1, 127, 128), 240, 240}, {room.Plan(129, 2, 127, 129), 3, 6},
		{room.Plan(9, 3, 2, 6), -1, 0}, {room.Plan(9, 3, 2, 6), 241, 0}, {api.Plan{T: 5}, 3, 0},
	} {
		if got := Cost(test.p, test.stripes); got != test.want {
			t.Errorf("Cost of %d stripes with %+v: %d, want %d", test.stripes, test.p, got, test.want)
		}
	}
}

func TestCostByTheWords(t *testing.T) {
	room.EachStripes(func(p api.Plan, stripes int, right bool) {
		want := 0
		if right {
			want = p.T * stripes
		}
		if got := Cost(p, stripes); got != want {
			t.Fatalf("Cost of %d stripes with %+v: %d, want %d", stripes, p, got, want)
		}
	})
}

func TestZeroOfKnownTapes(t *testing.T) {
	for _, test := range []struct {
		p       api.Plan
		stripes int
		tape    []byte
		want    [][]byte
	}{
		{room.Plan(2, 1, 1, 2), 1, []byte{5}, [][]byte{{10}, {15}}},
		{room.Plan(2, 1, 1, 2), 1, []byte{0}, [][]byte{{0}, {0}}},
		{room.Plan(2, 1, 1, 2), 1, []byte{1}, [][]byte{{2}, {3}}},
		{room.Plan(3, 1, 1, 2), 2, []byte{1, 2}, [][]byte{{3, 6}, {2, 4}, {1, 2}}},
		{room.Plan(3, 1, 1, 2), 3, []byte{0, 1, 0}, [][]byte{{0, 3, 0}, {0, 2, 0}, {0, 1, 0}}},
		{room.Plan(3, 2, 1, 3), 1, []byte{0, 1}, [][]byte{{0}, {2}, {2}}},     // x (x + 3)
		{room.Plan(3, 2, 1, 3), 1, []byte{1, 1}, [][]byte{{3}, {0}, {3}}},     // (x + 1) (x + 3)
		{room.Plan(3, 1, 2, 3), 1, []byte{1}, [][]byte{{12}, {10}, {6}}},      // (x + 3) (x + 4)
		{room.Plan(3, 1, 2, 3), 1, []byte{2}, [][]byte{{24}, {20}, {12}}},     // twice that
		{room.Plan(3, 1, 1, 2), 1, []byte{128}, [][]byte{{155}, {27}, {128}}}, // 2 times 128 is 27
	} {
		if got, e := Zero(field, test.p, test.stripes, test.tape); e != api.OK || !room.Same(got, test.want) {
			t.Errorf("Zero of %d stripes with %+v and the tape %v: %v, %d, want %v", test.stripes, test.p, test.tape, got, e, test.want)
		}
	}
}

func TestZeroByTheWords(t *testing.T) {
	for _, p := range room.EdgePlans() {
		for _, stripes := range room.SomeStripes(p) {
			for _, tape := range room.Tapes(p.T * stripes) {
				if got, e := Zero(field, p, stripes, tape); e != api.OK || !room.Same(got, shares(p, stripes, tape)) {
					t.Fatalf("Zero of %d stripes with %+v: %v, %d", stripes, p, got, e)
				}
			}
		}
	}
}

func TestZeroOfAllStripes(t *testing.T) {
	for _, p := range []api.Plan{room.Plan(2, 1, 1, 2), room.Plan(5, 1, 3, 5), room.Plan(9, 3, 2, 6)} {
		for stripes := range 241 {
			tape := room.Some(p.T*stripes, stripes)
			if got, e := Zero(field, p, stripes, tape); e != api.OK || !room.Same(got, shares(p, stripes, tape)) {
				t.Fatalf("Zero of %d stripes with %+v: %v, %d", stripes, p, got, e)
			}
		}
	}
}

func TestZeroWithAllPlans(t *testing.T) {
	for _, p := range room.RightPlans() {
		tape := room.Some(2*p.T, p.N)
		if got, e := Zero(field, p, 2, tape); e != api.OK || !room.Same(got, shares(p, 2, tape)) {
			t.Fatalf("Zero of 2 stripes with %+v: %v, %d", p, got, e)
		}
	}
}

func TestZeroOfTheMostStripesWithTheMostCustodians(t *testing.T) {
	for _, p := range []api.Plan{room.Plan(255, 254, 1, 255), room.Plan(129, 1, 127, 128)} {
		tape := room.Some(240*p.T, 1)
		if got, e := Zero(field, p, 240, tape); e != api.OK || !room.Same(got, shares(p, 240, tape)) {
			t.Fatalf("Zero of 240 stripes with %+v: %v, %d", p, got, e)
		}
	}
}

func TestZeroOfNoStripe(t *testing.T) {
	for _, p := range room.EdgePlans() {
		for _, tape := range [][]byte{nil, {}, room.Some(9, 1)} {
			if got, e := Zero(field, p, 0, tape); e != api.OK || !room.Same(got, make([][]byte, p.N)) {
				t.Errorf("Zero of no stripe with %+v: %v, %d", p, got, e)
			}
		}
	}
}

func TestZeroTakesTheTapeStripeByStripe(t *testing.T) {
	p := room.Plan(9, 3, 2, 6)
	tape := room.Some(30, 2)
	first, _ := Zero(field, p, 10, tape)
	for at := range tape {
		other := bytes.Clone(tape)
		other[at]++
		second, e := Zero(field, p, 10, other)
		if e != api.OK {
			t.Fatal(e)
		}
		for i := range second { // at point 0, the first custodian's, the later places of a polynomial count for nothing
			for k := range second[i] {
				if changed := first[i][k] != second[i][k]; changed != (k == at/3 && (i > 0 || at%3 == 0)) {
					t.Errorf("the tape's byte %d: the byte of stripe %d of custodian %d changed: %t", at, k, i+1, changed)
				}
			}
		}
	}
}

func TestWhatTheTapeHasMoreIsNotLookedAt(t *testing.T) {
	for _, p := range room.EdgePlans() {
		for _, stripes := range room.SomeStripes(p) {
			tape := room.Some(p.T*stripes, 4)
			want, _ := Zero(field, p, stripes, tape)
			for _, more := range [][]byte{{0}, {255}, room.Some(400, 5)} {
				if got, e := Zero(field, p, stripes, slices.Concat(tape, more)); e != api.OK || !room.Same(got, want) {
					t.Fatalf("Zero of %d stripes with %+v and %d bytes too many: %v, %d", stripes, p, len(more), got, e)
				}
			}
		}
	}
}

// refused checks that nothing is told but an error.
func refused(t *testing.T, p api.Plan, stripes int, tape []byte, want api.Errno) {
	t.Helper()
	if got, e := Zero(field, p, stripes, tape); e != want || len(got) != 0 {
		t.Fatalf("Zero of %d stripes with %+v and a tape of %d: %v, %d, want %d", stripes, p, len(tape), got, e, want)
	}
}

func TestZeroWithAShortTape(t *testing.T) {
	for _, p := range room.EdgePlans() {
		for _, stripes := range []int{1, 2, 3, 239, 240} {
			need := p.T * stripes
			for _, n := range []int{0, 1, stripes - 1, need - p.T, need - 2, need - 1} {
				if n >= 0 && n < need {
					refused(t, p, stripes, room.Some(n, 2), api.ErrEmpty)
				}
			}
			refused(t, p, stripes, nil, api.ErrEmpty)
		}
	}
}

func TestZeroOfStripesOutOfRange(t *testing.T) {
	for _, p := range room.EdgePlans() {
		for _, stripes := range room.WrongStripes() {
			for _, n := range []int{0, 1, 240, 241 * p.T, 60960} { // ErrRange is told ahead of ErrEmpty
				refused(t, p, stripes, make([]byte, n), api.ErrRange)
			}
			refused(t, p, stripes, nil, api.ErrRange)
		}
	}
}

func TestZeroWithAPlanThatMayNotBe(t *testing.T) {
	for _, p := range room.WrongPlans() {
		for _, stripes := range append(room.WrongStripes(), 0, 1, 3, 240) { // ErrArg is told ahead of all others
			for _, n := range []int{0, 1, 1000} {
				refused(t, p, stripes, make([]byte, n), api.ErrArg)
			}
			refused(t, p, stripes, nil, api.ErrArg)
		}
	}
}

// P12.2

func TestAddOfKnownLists(t *testing.T) {
	for _, test := range []struct {
		lists [][]byte
		want  []byte
	}{
		{nil, nil}, {[][]byte{nil}, nil}, {[][]byte{{}}, nil}, {[][]byte{nil, nil, {}}, nil},
		{[][]byte{{7}}, []byte{7}}, {[][]byte{{1, 2, 3}}, []byte{1, 2, 3}},
		{[][]byte{{1, 2, 3}, {5, 5}, {0, 1, 9}}, []byte{4, 6}},
		{[][]byte{{1, 2}, {1, 2}}, []byte{0, 0}}, {[][]byte{{1, 2}, {1, 2}, {1, 2}}, []byte{1, 2}},
		{[][]byte{{255, 255, 0}, {255, 1, 0}}, []byte{0, 254, 0}}, {[][]byte{{255}, {1}}, []byte{254}},
		{[][]byte{{1, 2, 3}, nil}, nil}, {[][]byte{nil, {1, 2, 3}}, nil}, {[][]byte{{1}, {}, {3}}, nil},
		{[][]byte{{1}, {2, 9}, {4, 9, 9}}, []byte{7}}, {[][]byte{{4, 9, 9}, {2, 9}, {1}}, []byte{7}}, {[][]byte{{4, 9, 9}, {1}, {2, 9}}, []byte{7}},
	} {
		if got := Add(test.lists...); !bytes.Equal(got, test.want) {
			t.Errorf("Add of %v: %v, want %v", test.lists, got, test.want)
		}
	}
	if got := Add(); len(got) != 0 {
		t.Errorf("Add of no list: %v", got)
	}
}

// rows tells lists of some sizes.
func rows(sizes ...int) [][]byte {
	var all [][]byte
	for k, n := range sizes {
		all = append(all, room.Some(n, 100*k+n))
	}
	return all
}

// sums tells the sums of some lists, by the document's words, place by place.
func sums(lists [][]byte) []byte {
	var all []byte
	for k := 0; ; k++ {
		sum := byte(0)
		for _, list := range lists {
			if k == len(list) {
				return all
			}
			sum ^= list[k]
		}
		all = append(all, sum)
	}
}

func TestAddOfTwoListsOfAllSizes(t *testing.T) {
	for a := range 250 {
		for b := range 250 {
			if lists := rows(a, b); !bytes.Equal(Add(lists...), sums(lists)) {
				t.Fatalf("Add of %v: %v", lists, Add(lists...))
			}
		}
	}
}

func TestAddOfManyLists(t *testing.T) {
	for _, n := range []int{1, 2, 3, 4, 5, 60, 255, 256, 257, 1000} {
		for at := range min(n, 20) { // the shortest one stands at each place
			sizes := slices.Repeat([]int{40}, n)
			sizes[at] = 33
			if lists := rows(sizes...); !bytes.Equal(Add(lists...), sums(lists)) {
				t.Fatalf("Add of %d lists, the one at place %d the shortest: %v", n, at, Add(lists...))
			}
		}
	}
}

func TestAddOfAllBytes(t *testing.T) {
	for a := range 256 {
		for b := range 256 {
			if got := Add([]byte{byte(a)}, []byte{byte(b)}); len(got) != 1 || got[0] != byte(a)^byte(b) {
				t.Fatalf("Add of %d and %d: %v", a, b, got)
			}
		}
	}
}

func TestAddOfLongLists(t *testing.T) {
	if lists := rows(100000, 70000, 65537); !bytes.Equal(Add(lists...), sums(lists)) {
		t.Error("Add of lists of many bytes")
	}
}

// P12.3

// renewed tells a blob's shares, to which the zero shares of some dealers are added.
func renewed(t *testing.T, p api.Plan, blob []byte, dealers int) [][]byte {
	t.Helper()
	all, e := deal.Deal(field, p, blob, room.Some(240*p.T, 1))
	if e != api.OK {
		t.Fatal(e)
	}
	for k := range dealers {
		stripes := len(all[0])
		zeros, e := Zero(field, p, stripes, room.Some(p.T*stripes, 2+k))
		if e != api.OK {
			t.Fatal(e)
		}
		for i := range all {
			all[i] = Add(all[i], zeros[i])
		}
	}
	return all
}

// checkBlob checks that the shares of some custodians tell a blob, and agree.
func checkBlob(t *testing.T, p api.Plan, blob []byte, all [][]byte, who []int) {
	t.Helper()
	var shares [][]byte
	for _, i := range who {
		shares = append(shares, all[i-1])
	}
	if got, e := rebuild.Blob(field, p, len(blob), who, shares); e != api.OK || !bytes.Equal(got, blob) {
		t.Fatalf("with %+v the new shares of %v tell %v, %d, not %v", p, who, got, e, blob)
	}
	if !rebuild.Agree(field, p, len(blob), who, shares) {
		t.Fatalf("with %+v the new shares of %v don't agree", p, who)
	}
}

func TestAnyNeedNewSharesTellTheBlob(t *testing.T) {
	for _, p := range room.SmallPlans(6) {
		for _, size := range []int{0, 1, p.L, 2*p.L + 1} {
			for _, dealers := range []int{1, 2, p.T + 1} {
				blob := room.Some(size, p.N)
				all := renewed(t, p, blob, dealers)
				for n := room.Need(p); n <= p.N; n++ {
					room.EachChoice(p.N, n, func(who []int) { checkBlob(t, p, blob, all, who) })
				}
			}
		}
	}
}

func TestNewSharesOfManyCustodiansTellTheBlob(t *testing.T) {
	for seed, p := range room.EdgePlans() {
		blob := room.Some(min(240, p.L+1), seed)
		all := renewed(t, p, blob, 2)
		checkBlob(t, p, blob, all, room.Mixed(p, room.Need(p), seed))
		checkBlob(t, p, blob, all, room.Mixed(p, p.N, seed+1))
	}
}

func TestNewSharesOfAllSizesTellTheBlob(t *testing.T) {
	for _, p := range []api.Plan{room.Plan(5, 1, 1, 3), room.Plan(5, 1, 3, 5), room.Plan(9, 2, 5, 8)} {
		for size := range 241 {
			blob := room.Some(size, 3*size)
			checkBlob(t, p, blob, renewed(t, p, blob, 1), room.Mixed(p, room.Need(p), size))
		}
	}
}

// The rules that hold everywhere, of each call.

func TestWhatIsHandedInIsNotChanged(t *testing.T) {
	for _, p := range room.EdgePlans() {
		for _, stripes := range room.SomeStripes(p) {
			tape, same := room.Of(room.Some(p.T*stripes, 2)...)
			Zero(field, p, stripes, tape)
			Zero(field, p, stripes+1, tape)
			Zero(field, p, -1, tape)
			Zero(field, api.Plan{}, stripes, tape)
			if !same() {
				t.Fatalf("Zero of %d stripes with %+v changed the tape, or its spare room", stripes, p)
			}
		}
	}
	for _, sizes := range [][]int{{}, {0}, {5}, {3, 3}, {3, 5, 2}, {0, 4}, {9, 9, 9, 9}} {
		lists, same := room.Rows(rows(sizes...)...)
		Add(lists...)
		if !same() {
			t.Errorf("Add changed lists of %v bytes, or their spare room", sizes)
		}
	}
}

func TestSpareRoomIsNotRead(t *testing.T) {
	p := room.Plan(4, 2, 2, 4)
	tape, _ := room.Of(1, 2, 3, 4)
	if got, e := Zero(field, p, 2, tape); e != api.OK || !room.Same(got, shares(p, 2, []byte{1, 2, 3, 4})) {
		t.Errorf("Zero of a tape with spare room: %v, %d", got, e)
	}
	refused(t, p, 2, tape[:3], api.ErrEmpty)
	refused(t, p, 3, tape, api.ErrEmpty)
	whole := []byte{1, 2, 3, 4, 5, 6}
	if got := Add(whole[:2], whole[2:]); !bytes.Equal(got, []byte{1 ^ 3, 2 ^ 4}) {
		t.Errorf("Add of a list with spare room: %v", got)
	}
}

func TestAnswersShareNoMemory(t *testing.T) {
	for _, p := range room.EdgePlans() {
		for _, stripes := range []int{0, 1, 2} {
			tape := room.Some(p.T*stripes, 2)
			first, _ := Zero(field, p, stripes, tape)
			second, _ := Zero(field, p, stripes, tape)
			if k := room.Shared(slices.Concat([][]byte{tape}, first, second)...); k >= 0 {
				t.Errorf("with %+v and %d stripes: list %d shares memory with one ahead of it", p, stripes, k)
			}
			kept := slices.Clone(first)
			clear(second[:cap(second)])
			if !room.Same(first, kept) {
				t.Errorf("with %+v: the lists of two answers share memory", p)
			}
		}
	}
	for _, sizes := range [][]int{{}, {0}, {5}, {3, 3}, {3, 5, 2}, {0, 4}} {
		lists := rows(sizes...)
		if k := room.Shared(append(lists, Add(lists...), Add(lists...))...); k >= 0 {
			t.Errorf("Add of lists of %v bytes: list %d shares memory with one ahead of it", sizes, k)
		}
	}
}

func TestAnswersHangOnWhatIsHandedInAlone(t *testing.T) {
	for _, p := range room.EdgePlans() {
		tape := room.Some(2*p.T, 2)
		want := shares(p, 2, tape)
		first, _ := Zero(field, p, 2, tape)
		room.Shared(first...) // writes over them
		if again, e := Zero(gf.New(), p, 2, tape); e != api.OK || !room.Same(again, want) {
			t.Errorf("with %+v: an answer hangs on what became of an earlier one", p)
		}
	}
}

func TestNothingPanics(t *testing.T) {
	for _, p := range slices.Concat(room.EdgePlans(), room.WrongPlans()) {
		for _, stripes := range append(room.Ends(), 1, 2, 240, 241) {
			Cost(p, stripes)
			for _, f := range []*gf.Field{nil, {}, field} {
				for _, tape := range [][]byte{nil, {}, {1}, make([]byte, 600)} {
					Zero(f, p, stripes, tape)
				}
			}
		}
	}
	Add(nil...)
	Add(nil, nil)
	Add([][]byte{}...)
}
