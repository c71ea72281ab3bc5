package mask

import (
	"bytes"
	"slices"
	"testing"

	"sherd/api"
	"sherd/blind"
	"sherd/deal"
	"sherd/gf"
	"sherd/lagr"
	"sherd/poly"
	"sherd/room"
	"sherd/zero"
)

var (
	field    = gf.New()
	products = room.NewProducts()
)

// unmoved tells a shift's custodians, by the document's words: some, and of the others the ones with the least numbers, T together.
func unmoved(p api.Plan, zeros []int) []int {
	all := slices.Clone(zeros)
	for i := 1; len(all) < p.T; i++ {
		if !slices.Contains(all, i) {
			all = append(all, i)
		}
	}
	return all
}

// longDivided tells the quotient by the product of (x + c) for some c, by long division by that product at once.
func longDivided(whole, points []byte) []byte {
	product := []byte{1}
	for _, c := range points {
		next := append([]byte{0}, product...)
		for k, b := range product {
			next[k] ^= products[b][c]
		}
		product = next
	}
	rest, n := slices.Clone(whole), len(points)
	told := make([]byte, max(0, len(whole)-n))
	for k := len(told) - 1; k >= 0; k-- {
		told[k] = rest[k+n]
		for j, b := range product {
			rest[k+j] ^= products[told[k]][b]
		}
	}
	return told
}

// ofSize tells a list's first n bytes, and noughts for those that lack.
func ofSize(list []byte, n int) []byte {
	return append(slices.Clone(list), make([]byte, n)...)[:n]
}

// dealMask tells what Deal must tell, by the document's words.
func dealMask(p api.Plan, delta, shift []byte) []byte {
	through, _ := lagr.Through(field, room.Secrets(p), ofSize(delta, p.L))
	return zeroMask(p, poly.Sum(shift, through))
}

// zeroMask tells what Zero must tell, by the document's words.
func zeroMask(p api.Plan, shift []byte) []byte {
	return ofSize(longDivided(shift, room.Secrets(p)), p.T)
}

// blindMask tells what Blind must tell, by the document's words.
func blindMask(p api.Plan, shift []byte, target int) []byte {
	return ofSize(longDivided(shift, room.Points([]int{target})), room.Need(p)-1)
}

// few tells of how many custodians a shift may be asked: none, one, some between, and the most.
func few(p api.Plan) []int {
	return slices.Compact([]int{0, 1, (p.T + 1) / 2, p.T})
}

// widths tells of how many bytes polynomials may be handed in: fewer than a shift has, as many, and more.
func widths(p api.Plan) []int {
	need := room.Need(p)
	return []int{0, 1, 2, p.L - 1, p.L, p.L + 1, need - 1, need, need + 1, need + p.L, 2*need + 1, 300}
}

// eachFew calls check with plans of at most six custodians, and all choices of at most T of them.
func eachFew(check func(p api.Plan, zeros []int)) {
	for _, p := range room.SmallPlans(6) {
		for n := range p.T + 1 {
			room.EachChoice(p.N, n, func(zeros []int) { check(p, zeros) })
		}
	}
}

// P14.1

func TestShiftOfKnownDeltas(t *testing.T) {
	for _, test := range []struct {
		p     api.Plan
		delta []byte
		zeros []int
		want  []byte
		why   string
	}{
		{room.Plan(2, 1, 1, 2), []byte{4}, []int{1}, []byte{0, 2}, "2 x"},
		{room.Plan(2, 1, 1, 2), []byte{4}, nil, []byte{0, 2}, "custodian 1 is the least one"},
		{room.Plan(2, 1, 1, 2), []byte{6}, []int{2}, []byte{2, 2}, "2 (x + 1)"},
		{room.Plan(2, 1, 1, 2), []byte{0}, []int{2}, []byte{0, 0}, "nothing"},
		{room.Plan(3, 1, 1, 2), []byte{1}, []int{3}, []byte{2, 1}, "x + 2"},
		{room.Plan(3, 2, 1, 3), []byte{6}, nil, []byte{0, 1, 1}, "x (x + 1), which is 6 at 3"},
		{room.Plan(3, 2, 1, 3), []byte{6}, []int{2}, []byte{0, 1, 1}, "custodian 1 is the least one but 2"},
		{room.Plan(3, 2, 1, 3), []byte{6}, []int{2, 1}, []byte{0, 1, 1}, "in any order"},
		{room.Plan(3, 2, 1, 3), []byte{3}, []int{3}, []byte{0, 2, 1}, "x (x + 2), which is 3 at 3"},
		{room.Plan(3, 2, 1, 3), []byte{2}, []int{3, 2}, []byte{2, 3, 1}, "(x + 1) (x + 2), which is 2 at 3"},
		{room.Plan(3, 1, 2, 3), []byte{3, 4}, nil, []byte{0, 1, 0}, "x"},
		{room.Plan(3, 1, 2, 3), []byte{5, 16}, []int{1}, []byte{0, 0, 1}, "x x"},
	} {
		if got, e := Shift(field, test.p, test.delta, test.zeros); e != api.OK || !bytes.Equal(got, test.want) {
			t.Errorf("Shift with %+v for %v and %v: %v, %d, want %v: %s", test.p, test.delta, test.zeros, got, e, test.want, test.why)
		}
	}
}

// checkShift checks that a shift has Need places, and by its Need values that it is the one that is asked for.
func checkShift(t *testing.T, p api.Plan, delta []byte, zeros []int) {
	t.Helper()
	got, e := Shift(field, p, delta, zeros)
	if e != api.OK || len(got) != room.Need(p) {
		t.Fatalf("Shift with %+v for %v and %v: %v, %d", p, delta, zeros, got, e)
	}
	for k, x := range room.Secrets(p) {
		if value := products.Value(got, x); value != delta[k] {
			t.Fatalf("Shift with %+v for %v and %v: %v, which is %d at %d", p, delta, zeros, got, value, x)
		}
	}
	for _, x := range room.Points(unmoved(p, zeros)) {
		if value := products.Value(got, x); value != 0 {
			t.Fatalf("Shift with %+v for %v and %v: %v, which is %d at %d", p, delta, zeros, got, value, x)
		}
	}
}

func TestShiftByTheWords(t *testing.T) {
	for _, p := range room.EdgePlans() {
		for _, delta := range room.Tapes(p.L) {
			for seed, n := range few(p) {
				checkShift(t, p, delta, room.Mixed(p, n, seed))
			}
		}
	}
}

func TestShiftForAnyCustodians(t *testing.T) {
	eachFew(func(p api.Plan, zeros []int) {
		delta := room.Some(p.L, len(zeros))
		checkShift(t, p, delta, zeros)
		want, _ := Shift(field, p, delta, zeros)
		slices.Reverse(zeros)
		if got, e := Shift(field, p, delta, zeros); e != api.OK || !bytes.Equal(got, want) {
			t.Fatalf("Shift with %+v for %v and %v: %v, %d, in the other order %v", p, delta, zeros, got, e, want)
		}
	})
}

func TestShiftWithManyPlans(t *testing.T) {
	for seed, p := range room.RightPlans() {
		checkShift(t, p, room.Some(p.L, seed), room.Mixed(p, seed%(p.T+1), seed))
	}
}

func TestShiftForNobody(t *testing.T) {
	for _, p := range room.EdgePlans() {
		delta := room.Some(p.L, 1)
		for _, none := range [][]int{nil, {}, []int{2, 3}[:0]} {
			checkShift(t, p, delta, none)
		}
	}
}

func TestShiftForTheCustodianWithTheGreatestNumber(t *testing.T) {
	for _, p := range room.EdgePlans() {
		checkShift(t, p, room.Some(p.L, 1), []int{p.N})
	}
}

func TestShiftOfNoughtsIsNothing(t *testing.T) {
	for _, p := range room.EdgePlans() {
		for _, n := range few(p) {
			if got, e := Shift(field, p, make([]byte, p.L), room.Mixed(p, n, 1)); e != api.OK || !bytes.Equal(got, make([]byte, room.Need(p))) {
				t.Errorf("Shift of noughts with %+v: %v, %d", p, got, e)
			}
		}
	}
}

// noShift checks that nothing is told but an error.
func noShift(t *testing.T, p api.Plan, delta []byte, zeros []int, want api.Errno) {
	t.Helper()
	if got, e := Shift(field, p, delta, zeros); e != want || len(got) != 0 {
		t.Fatalf("Shift with %+v of %d bytes for %v: %v, %d, want %d", p, len(delta), zeros, got, e, want)
	}
}

func TestShiftWithAPlanThatMayNotBe(t *testing.T) {
	for _, p := range room.WrongPlans() { // ErrArg is told ahead of all others
		for _, n := range []int{0, 1, 2, 3, 127, 128, 300} {
			for _, zeros := range [][]int{nil, {}, {1}, {1, 1}, {1, 2, 3, 4}, {0}, {257}} {
				noShift(t, p, make([]byte, n), zeros, api.ErrArg)
			}
		}
		noShift(t, p, nil, nil, api.ErrArg)
	}
}

func TestShiftOfADeltaThatHasNotLBytes(t *testing.T) {
	for _, p := range room.EdgePlans() {
		most := room.Mixed(p, p.T, 1)
		wrong := [][]int{nil, {1}, most, append(slices.Clone(most), p.N+1), slices.Repeat([]int{1}, p.T+1), {0}, {1, 1}} // ErrForm is told ahead of ErrRange and ErrTwice
		for _, n := range []int{0, 1, p.L - 1, p.L + 1, 2 * p.L, room.Need(p), p.L + 256} {
			for _, zeros := range wrong {
				if n != p.L {
					noShift(t, p, room.Some(n, 1), zeros, api.ErrForm)
				}
			}
		}
		noShift(t, p, nil, nil, api.ErrForm)
	}
}

func TestShiftForMoreThanT(t *testing.T) {
	for _, p := range room.EdgePlans() {
		delta := room.Some(p.L, 1)
		for _, n := range []int{p.T + 1, p.T + 2, p.N - 1, p.N} {
			if n > p.T && n <= p.N {
				noShift(t, p, delta, room.Mixed(p, n, 1), api.ErrRange)
			}
			if n > p.T {
				noShift(t, p, delta, slices.Repeat([]int{1}, n), api.ErrRange) // ahead of ErrTwice
			}
		}
		noShift(t, p, delta, slices.Repeat([]int{2}, p.T+256), api.ErrRange)
	}
}

func TestShiftForNoCustodian(t *testing.T) {
	for _, p := range room.EdgePlans() {
		delta := room.Some(p.L, 1)
		for _, i := range room.WrongCustodians(p) {
			for _, at := range []int{0, p.T / 2, p.T - 1} {
				zeros := room.Mixed(p, p.T, 1)
				zeros[at] = i
				noShift(t, p, delta, zeros, api.ErrRange)
				noShift(t, p, delta, zeros[at:at+1], api.ErrRange)
			}
			noShift(t, p, delta, slices.Repeat([]int{i}, p.T), api.ErrRange) // ahead of ErrTwice
		}
		if p.T > 2 {
			noShift(t, p, delta, []int{1, 1, p.N + 1}, api.ErrRange)
		}
	}
}

func TestShiftForTheSameCustodianTwice(t *testing.T) {
	for _, p := range room.EdgePlans() {
		delta := room.Some(p.L, 1)
		for _, ends := range [][2]int{{0, 1}, {0, p.T - 1}, {p.T - 2, p.T - 1}, {p.T / 2, 0}} {
			if p.T < 2 || ends[0] == ends[1] {
				continue
			}
			zeros := room.Mixed(p, p.T, 1)
			zeros[ends[0]] = zeros[ends[1]]
			noShift(t, p, delta, zeros, api.ErrTwice)
		}
		for _, i := range room.SomeCustodians(p) {
			if p.T > 1 {
				noShift(t, p, delta, []int{i, i}, api.ErrTwice)
				noShift(t, p, make([]byte, p.L), slices.Repeat([]int{i}, p.T), api.ErrTwice)
			}
		}
	}
}

// P14.2

func TestMasksOfKnownShifts(t *testing.T) {
	small, wide := room.Plan(2, 1, 1, 2), room.Plan(5, 2, 2, 4)
	for _, test := range []struct {
		p      api.Plan
		shift  []byte
		target int
		zero   []byte
		blind  []byte
	}{
		{small, []byte{0, 2}, 1, []byte{2}, []byte{2}},
		{small, []byte{7, 2}, 2, []byte{2}, []byte{2}},                        // 7 is a rest
		{small, []byte{0, 0, 1}, 2, []byte{2}, []byte{1}},                     // x x is (x + 2) (x + 2) and 4, and (x + 1) (x + 1) and 1
		{small, []byte{7}, 1, []byte{0}, []byte{0}},                           // it has no places but the rest's
		{small, nil, 1, []byte{0}, []byte{0}},                                 // nor has it these
		{wide, []byte{6, 5, 1}, 3, []byte{1, 0}, []byte{7, 1, 0}},             // 6 + 5 x + x x is (x + 2) (x + 7) and 8
		{wide, []byte{13, 3, 0, 1}, 1, []byte{3, 1}, []byte{3, 0, 1}},         // over (x + 5) (x + 6) is x + 3
		{wide, []byte{0, 0, 0, 0, 1}, 1, []byte{27, 3}, []byte{0, 0, 0}},      // the place of x x x is left out
		{wide, []byte{0, 0, 0, 0, 1}, 2, []byte{27, 3}, []byte{1, 1, 1}},      // likewise
		{wide, []byte{9, 9, 0, 0, 0, 0, 0}, 4, []byte{0, 0}, []byte{9, 0, 0}}, // noughts behind change nothing
	} {
		if got := Zero(field, test.p, test.shift); !bytes.Equal(got, test.zero) {
			t.Errorf("Zero of %v with %+v: %v, want %v", test.shift, test.p, got, test.zero)
		}
		if got := Deal(field, test.p, nil, test.shift); !bytes.Equal(got, test.zero) {
			t.Errorf("Deal of %v with %+v: %v, want %v", test.shift, test.p, got, test.zero)
		}
		if got := Blind(field, test.p, test.shift, test.target); !bytes.Equal(got, test.blind) {
			t.Errorf("Blind of %v with %+v for %d: %v, want %v", test.shift, test.p, test.target, got, test.blind)
		}
	}
}

// checkMasks checks all masks of a shift.
func checkMasks(t *testing.T, p api.Plan, delta, shift []byte) {
	t.Helper()
	if got := Deal(field, p, delta, shift); !bytes.Equal(got, dealMask(p, delta, shift)) {
		t.Fatalf("Deal of %v with %+v and %v: %v", shift, p, delta, got)
	}
	if got := Zero(field, p, shift); !bytes.Equal(got, zeroMask(p, shift)) {
		t.Fatalf("Zero of %v with %+v: %v", shift, p, got)
	}
	for _, target := range room.SomeCustodians(p) {
		if got := Blind(field, p, shift, target); !bytes.Equal(got, blindMask(p, shift, target)) {
			t.Fatalf("Blind of %v with %+v for %d: %v", shift, p, target, got)
		}
	}
}

func TestMasksByTheWords(t *testing.T) {
	for _, p := range room.EdgePlans() {
		for seed, n := range few(p) {
			delta := room.Some(p.L, seed)
			shift, e := Shift(field, p, delta, room.Mixed(p, n, seed))
			if e != api.OK {
				t.Fatal(e)
			}
			checkMasks(t, p, delta, shift)
		}
	}
}

func TestMasksOfPolynomialsOfAnySize(t *testing.T) {
	for _, p := range room.EdgePlans() {
		for _, n := range widths(p) {
			for seed, shift := range room.Tapes(n) {
				checkMasks(t, p, room.Some(p.L, seed), shift)
			}
		}
	}
}

func TestMasksWithManyPlans(t *testing.T) {
	for seed, p := range room.RightPlans() {
		checkMasks(t, p, room.Some(p.L, seed), room.Some(room.Need(p), seed+1))
	}
}

func TestDealOfADeltaOfAnySize(t *testing.T) {
	for _, p := range room.EdgePlans() {
		shift := room.Some(room.Need(p), 1)
		for _, n := range []int{0, 1, p.L - 1, p.L, p.L + 1, room.Need(p), p.L + 256} {
			for _, delta := range room.Tapes(n) {
				if got := Deal(field, p, delta, shift); !bytes.Equal(got, dealMask(p, delta, shift)) {
					t.Fatalf("Deal with %+v of %d bytes: %v", p, n, got)
				}
			}
		}
	}
}

func TestBlindForAllTargets(t *testing.T) {
	for _, p := range room.EdgePlans() {
		shift := room.Some(room.Need(p), p.L)
		for target := 1; target <= p.N; target++ {
			if got := Blind(field, p, shift, target); !bytes.Equal(got, blindMask(p, shift, target)) {
				t.Fatalf("Blind of %v with %+v for %d: %v", shift, p, target, got)
			}
		}
	}
}

func TestBlindForNoCustodian(t *testing.T) {
	for _, p := range room.EdgePlans() {
		for _, target := range room.WrongCustodians(p) {
			for _, n := range widths(p) {
				if got := Blind(field, p, room.Some(n, 1), target); len(got) != 0 {
					t.Fatalf("Blind with %+v for %d: %v", p, target, got)
				}
			}
		}
	}
}

func TestMasksWithAPlanThatMayNotBe(t *testing.T) {
	for _, p := range room.WrongPlans() {
		for _, n := range []int{0, 1, 2, 3, 127, 300} {
			list := room.Some(n, 1)
			if got := Deal(field, p, list, list); len(got) != 0 {
				t.Errorf("Deal with %+v: %v", p, got)
			}
			if got := Zero(field, p, list); len(got) != 0 {
				t.Errorf("Zero with %+v: %v", p, got)
			}
			for _, target := range append(room.Ends(), 1, 2, 4, 256) {
				if got := Blind(field, p, list, target); len(got) != 0 {
					t.Errorf("Blind with %+v for %d: %v", p, target, got)
				}
			}
		}
	}
}

func TestApplyOfKnownTapes(t *testing.T) {
	for _, test := range []struct {
		tape []byte
		at   int
		mask []byte
		want []byte
	}{
		{[]byte{1, 2, 3, 4}, 0, []byte{7, 8}, []byte{6, 10, 3, 4}},
		{[]byte{1, 2, 3, 4}, 1, []byte{7, 8}, []byte{1, 5, 11, 4}},
		{[]byte{1, 2, 3, 4}, 2, []byte{7, 8}, []byte{1, 2, 4, 12}},
		{[]byte{1, 2, 3, 4}, 3, []byte{7, 8}, []byte{1, 2, 3, 3}},
		{[]byte{1, 2, 3, 4}, 4, []byte{7, 8}, []byte{1, 2, 3, 4}},
		{[]byte{1, 2, 3, 4}, 5, []byte{7, 8}, []byte{1, 2, 3, 4}},
		{[]byte{1, 2, 3, 4}, -1, []byte{7, 8}, []byte{1, 2, 3, 4}},
		{[]byte{1, 2, 3, 4}, -2, []byte{7, 8, 9}, []byte{1, 2, 3, 4}},
		{[]byte{1, 2}, 0, []byte{1, 2, 3, 4}, []byte{0, 0}},
		{[]byte{1, 2}, 1, nil, []byte{1, 2}},
		{nil, 0, []byte{7}, nil}, {nil, 0, nil, nil}, {[]byte{}, 1, []byte{7}, nil},
	} {
		if got := Apply(test.tape, test.at, test.mask); !bytes.Equal(got, test.want) {
			t.Errorf("Apply of %v to %v from %d on: %v, want %v", test.mask, test.tape, test.at, got, test.want)
		}
	}
}

// applied tells what Apply must tell, by the document's words, byte by byte.
func applied(tape []byte, at int, mask []byte) []byte {
	told := slices.Clone(tape)
	for k := range told {
		if at >= 0 && k >= at && k-at < len(mask) {
			told[k] ^= mask[k-at]
		}
	}
	return told
}

func TestApplyByTheWords(t *testing.T) {
	for _, size := range []int{0, 1, 2, 3, 20, 300} {
		for _, n := range []int{0, 1, 2, 3, 19, 20, 21, 300, 400} {
			tape, mask := room.Some(size, n), room.Some(n, size+1)
			for _, at := range append(room.Ends(), 1, 2, 3, size-n, size-n-1, size-n+1, size-2, size-1, size, size+1, 299, 300) {
				if got := Apply(tape, at, mask); !bytes.Equal(got, applied(tape, at, mask)) {
					t.Fatalf("Apply of %v to %v from %d on: %v", mask, tape, at, got)
				}
			}
		}
	}
}

func TestApplyTwiceIsTheTapeAsItWas(t *testing.T) {
	tape, mask := room.Some(30, 1), room.Some(7, 2)
	for at := -9; at < 40; at++ {
		once := Apply(tape, at, mask)
		if moved := 0 <= at && at < 30; moved == bytes.Equal(once, tape) {
			t.Errorf("Apply from %d on: %v", at, once)
		}
		if got := Apply(once, at, mask); !bytes.Equal(got, tape) {
			t.Errorf("Apply twice from %d on: %v, want %v", at, got, tape)
		}
	}
}

// P14.3

// dealt tells the shares of all custodians of a blob.
func dealt(t *testing.T, p api.Plan, blob, tape []byte) [][]byte {
	t.Helper()
	all, e := deal.Deal(field, p, blob, tape)
	if e != api.OK {
		t.Fatal(e)
	}
	return all
}

// turned tells the tape of another blob, so that some custodians' shares stay the same, and each stripe's shift.
func turned(t *testing.T, p api.Plan, a, b, tape []byte, zeros []int) (other []byte, shifts [][]byte) {
	t.Helper()
	other = tape
	for k := range len(a) / p.L {
		delta := zero.Add(a[k*p.L:(k+1)*p.L], b[k*p.L:])
		shift, e := Shift(field, p, delta, zeros)
		if e != api.OK {
			t.Fatal(e)
		}
		other = Apply(other, k*p.T, Deal(field, p, delta, shift))
		shifts = append(shifts, shift)
	}
	return other, shifts
}

// checkTurned checks that two blobs of some whole stripes are dealt to some custodians alike, that all others' shares differ by the shifts, and that the way back leads to the first tape.
func checkTurned(t *testing.T, p api.Plan, a, b, tape []byte, zeros []int) {
	t.Helper()
	other, shifts := turned(t, p, a, b, tape, zeros)
	first, second := dealt(t, p, a, tape), dealt(t, p, b, other)
	same := unmoved(p, zeros)
	for i := range p.N {
		if slices.Contains(same, i+1) && !bytes.Equal(first[i], second[i]) {
			t.Fatalf("with %+v and %v: the shares of %d are %v and %v", p, zeros, i+1, first[i], second[i])
		}
		for k, shift := range shifts {
			if moved := first[i][k] ^ second[i][k]; moved != products.Value(shift, byte(i)) {
				t.Fatalf("with %+v and %v: the shares of %d, stripe %d, differ by %d", p, zeros, i+1, k, moved)
			}
		}
	}
	if back, again := turned(t, p, b, a, other, zeros); !bytes.Equal(back, tape) || !room.Same(again, shifts) {
		t.Fatalf("with %+v and %v: the tape %v leads to %v, and back to %v", p, zeros, tape, other, back)
	}
}

func TestSharesOfAnyFewAreTheSame(t *testing.T) {
	eachFew(func(p api.Plan, zeros []int) {
		const stripes = 3
		a, b := room.Some(stripes*p.L, 1), room.Some(stripes*p.L, 2)
		for _, tape := range room.Tapes(stripes*p.T + 2) { // two bytes more than are drawn
			checkTurned(t, p, a, b, tape, zeros)
			checkTurned(t, p, a, a, tape, zeros)
			checkTurned(t, p, make([]byte, stripes*p.L), b, tape, zeros)
		}
	})
}

func TestSharesOfFewOfManyAreTheSame(t *testing.T) {
	for _, p := range room.EdgePlans() {
		for seed, n := range few(p) {
			checkTurned(t, p, room.Some(p.L, 1), room.Some(p.L, 2), room.Some(p.T, 3), room.Mixed(p, n, seed))
		}
	}
}

func TestAnotherStripeShowsInOthersShares(t *testing.T) {
	for _, p := range room.EdgePlans() {
		if p.N < 2*p.T+p.L { // fewer than Need others may miss it
			continue
		}
		a, b := room.Some(p.L, 1), room.Some(p.L, 2)
		tape := room.Some(p.T, 3)
		other, _ := turned(t, p, a, b, tape, nil)
		first, second := dealt(t, p, a, tape), dealt(t, p, b, other)
		if room.Same(first[p.T:], second[p.T:]) {
			t.Errorf("with %+v: two blobs have the same shares", p)
		}
	}
}

// P14.4

// values tells those of some polynomials at all custodians' points, custodian by custodian.
func values(p api.Plan, polynomials ...[]byte) [][]byte {
	all := make([][]byte, p.N)
	for i := range all {
		for _, one := range polynomials {
			all[i] = append(all[i], products.Value(one, byte(i)))
		}
	}
	return all
}

// sums tells those of two lists of lists.
func sums(a, b [][]byte) [][]byte {
	all := make([][]byte, len(a))
	for i := range all {
		all[i] = zero.Add(a[i], b[i])
	}
	return all
}

// checkZeros checks that masks of two polynomials that are 0 at the points of a stripe's bytes make two stripes' zero shares these polynomials' values more.
func checkZeros(t *testing.T, p api.Plan, first, second []byte) {
	t.Helper()
	tape := room.Some(2*p.T+3, 5)
	other := Apply(Apply(tape, 0, Zero(field, p, first)), p.T, Zero(field, p, second))
	before, _ := zero.Zero(field, p, 2, tape)
	got, e := zero.Zero(field, p, 2, other)
	if e != api.OK || !room.Same(got, sums(before, values(p, first, second))) {
		t.Fatalf("with %+v and %v, %v: the zero shares %v, %d, were %v", p, first, second, got, e, before)
	}
}

func TestZeroSharesAreAPolynomialMore(t *testing.T) {
	for _, p := range append(room.EdgePlans(), room.RightPlans()...) {
		root := poly.Root(field, room.Secrets(p)...)
		checkZeros(t, p, poly.Mul(field, root, room.Some(p.T, 1)), poly.Mul(field, root, room.Some(p.T, 2)))
		checkZeros(t, p, root, make([]byte, room.Need(p)))
		checkZeros(t, p, nil, poly.Mul(field, root, room.Some((p.T+1)/2, 2)))
	}
}

func TestZeroSharesAreTwoShiftsMore(t *testing.T) {
	eachFew(func(p api.Plan, zeros []int) {
		delta := room.Some(p.L, 1)
		one, _ := Shift(field, p, delta, zeros)
		for i := range p.N {
			other, e := Shift(field, p, delta, []int{i + 1})
			if e != api.OK {
				t.Fatal(e)
			}
			checkZeros(t, p, poly.Sum(one, other), poly.Sum(other, other))
		}
	})
}

// checkBlindings checks that masks of two polynomials that are 0 at a target's point make two stripes' blindings these polynomials' values more.
func checkBlindings(t *testing.T, p api.Plan, target int, first, second []byte) {
	t.Helper()
	drawn := room.Need(p) - 1
	tape := room.Some(2*drawn+3, 5)
	other := Apply(Apply(tape, 0, Blind(field, p, first, target)), drawn, Blind(field, p, second, target))
	before, _ := blind.Blind(field, p, 2, target, tape)
	got, e := blind.Blind(field, p, 2, target, other)
	if e != api.OK || !room.Same(got, sums(before, values(p, first, second))) {
		t.Fatalf("with %+v, for %d, and %v, %v: the blindings %v, %d, were %v", p, target, first, second, got, e, before)
	}
}

func TestBlindingsAreAPolynomialMore(t *testing.T) {
	for _, p := range append(room.EdgePlans(), room.SmallPlans(9)...) {
		drawn := room.Need(p) - 1
		for _, target := range room.SomeCustodians(p) {
			root := poly.Root(field, room.Points([]int{target})...)
			checkBlindings(t, p, target, poly.Mul(field, root, room.Some(drawn, 1)), poly.Mul(field, root, room.Some(drawn, 2)))
			checkBlindings(t, p, target, root, make([]byte, room.Need(p)))
			checkBlindings(t, p, target, nil, poly.Mul(field, root, room.Some((drawn+1)/2, 2)))
		}
	}
}

func TestBlindingsAreAShiftMore(t *testing.T) {
	eachFew(func(p api.Plan, zeros []int) {
		one, _ := Shift(field, p, room.Some(p.L, 1), zeros)
		other, e := Shift(field, p, room.Some(p.L, 2), zeros)
		if e != api.OK {
			t.Fatal(e)
		}
		for _, target := range unmoved(p, zeros) {
			checkBlindings(t, p, target, one, other)
		}
	})
}

// The rules that hold everywhere, of each call.

func TestWhatIsHandedInIsNotChanged(t *testing.T) {
	for _, p := range room.EdgePlans() {
		for _, n := range widths(p) {
			delta, sameDelta := room.Of(room.Some(p.L, 1)...)
			shift, sameShift := room.Of(room.Some(n, 2)...)
			zeros, sameZeros := room.Numbers(room.Mixed(p, p.T, 1)...)
			for _, q := range []api.Plan{p, {}} {
				Shift(field, q, delta, zeros)
				Shift(field, q, delta, zeros[:p.T/2])
				Shift(field, q, shift, zeros)
				Deal(field, q, delta, shift)
				Deal(field, q, shift, delta)
				Zero(field, q, shift)
				Blind(field, q, shift, 1)
				Blind(field, q, shift, 0)
			}
			for _, at := range []int{-1, 0, 1, n - 1, n} {
				Apply(shift, at, delta)
				Apply(delta, at, shift)
			}
			if !sameDelta() || !sameShift() || !sameZeros() {
				t.Fatalf("a delta, a shift of %d bytes, or custodians, with %+v, or their spare room, were changed", n, p)
			}
		}
	}
}

func TestSpareRoomIsNotRead(t *testing.T) {
	p := room.Plan(6, 2, 2, 4)
	list, _ := room.Of(9, 8, 7, 6, 5)
	checkShift(t, p, list[:2], []int{3, 3, 7}[:1])
	checkShift(t, p, list[:2], []int{3, 1, 3}[:2])
	noShift(t, p, list[:1], nil, api.ErrForm)
	for n := range 6 {
		delta, shift := list[:n], list[:5-n]
		checkMasks(t, p, delta, shift)
		for at := range 6 {
			if got := Apply(delta, at, shift); !bytes.Equal(got, applied(delta, at, shift)) {
				t.Errorf("Apply of %v to %v from %d on, with spare room: %v", shift, delta, at, got)
			}
		}
	}
}

func TestAnswersShareNoMemory(t *testing.T) {
	for _, p := range room.EdgePlans() {
		for _, n := range widths(p) {
			delta, shift := room.Some(p.L, 1), room.Some(n, 2)
			lists := [][]byte{delta, shift}
			for range 2 {
				told, _ := Shift(field, p, delta, []int{1})
				lists = append(lists, told, Deal(field, p, delta, shift), Zero(field, p, shift), Blind(field, p, shift, 1))
				lists = append(lists, Apply(shift, 0, delta), Apply(shift, -1, delta), Apply(shift, n, delta), Apply(shift, 0, nil), Apply(nil, 0, shift))
			}
			if k := room.Shared(lists...); k >= 0 {
				t.Errorf("with %+v and %d bytes: list %d shares memory with one ahead of it", p, n, k)
			}
		}
	}
}

func TestAnswersHangOnWhatIsHandedInAlone(t *testing.T) {
	for _, p := range room.EdgePlans() {
		delta, shift := room.Some(p.L, 1), room.Some(room.Need(p), 2)
		told, _ := Shift(field, p, delta, nil)
		kept := bytes.Clone(told)
		room.Shared(told, Deal(field, p, delta, shift), Zero(field, p, shift), Blind(field, p, shift, 1), Apply(shift, 0, delta)) // writes over them
		if again, e := Shift(gf.New(), p, delta, nil); e != api.OK || !bytes.Equal(again, kept) {
			t.Errorf("Shift with %+v: an answer hangs on what became of an earlier one", p)
		}
		checkMasks(t, p, delta, shift)
	}
}

func TestNothingPanics(t *testing.T) {
	many := slices.Repeat([]int{1, 2, 3, 255, 256, 257}, 50)
	for _, p := range slices.Concat(room.EdgePlans(), room.WrongPlans()) {
		for _, f := range []*gf.Field{nil, {}, field} {
			for _, list := range [][]byte{nil, {}, {1}, {1, 2}, make([]byte, max(0, min(p.L, 300))), room.Some(600, 1)} {
				for _, zeros := range [][]int{nil, {}, {1}, {1, 1}, {2, 1}, room.Ends(), many} {
					Shift(f, p, list, zeros)
				}
				Deal(f, p, list, nil)
				Deal(f, p, nil, list)
				Deal(f, p, list, list)
				Zero(f, p, list)
				for _, target := range append(room.Ends(), 1, 2, p.N, 256) {
					Blind(f, p, list, target)
					Apply(list, target, list)
					Apply(nil, target, list)
					Apply(list, target, nil)
				}
			}
		}
	}
}
