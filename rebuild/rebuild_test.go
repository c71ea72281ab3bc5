package rebuild

import (
	"bytes"
	"math/rand"
	"slices"
	"testing"

	"sherd/api"
	"sherd/deal"
	"sherd/gf"
	"sherd/room"
)

var (
	field    = gf.New()
	products = room.NewProducts()
)

// stripes tells how many a blob has, by counting.
func stripes(p api.Plan, size int) int {
	n := 0
	for first := 0; first < size; first += p.L {
		n++
	}
	return n
}

// values tell what the stripes' polynomials are at x, by the document's words, point by point.
func values(p api.Plan, who []int, shares [][]byte, x byte) []byte {
	return products.Through(room.Points(who[:room.Need(p)]), shares, x)
}

// blob tells one of shares, by the document's words.
func blob(p api.Plan, size int, who []int, shares [][]byte) []byte {
	whole := make([]byte, stripes(p, size)*p.L)
	for at, x := range room.Secrets(p) {
		for k, b := range values(p, who, shares, x) {
			whole[k*p.L+at] = b
		}
	}
	return whole[:size]
}

// fewPlans tells some of room's plans that may be: of those with many custodians the ones whose stripes have the fewest bytes, the most, and half as many, as all of them are too slow here.
func fewPlans() []api.Plan {
	return slices.DeleteFunc(room.RightPlans(), func(p api.Plan) bool { return p.N > 12 && p.L > 2 && p.L != 64 && p.L != 127 })
}

// refused checks that nothing is told of a blob but an error, and that shares don't agree.
func refused(t *testing.T, p api.Plan, size int, who []int, shares [][]byte, want api.Errno) {
	t.Helper()
	if got, e := Blob(field, p, size, who, shares); e != want || len(got) != 0 {
		t.Fatalf("Blob of %d bytes with %+v, of %d shares of %v: %v, %d, want %d", size, p, len(shares), who, got, e, want)
	}
	if Agree(field, p, size, who, shares) {
		t.Fatalf("Agree of %d bytes with %+v, of %d shares of %v, which Blob refuses: %d", size, p, len(shares), who, want)
	}
}

// P11.1

func TestBlobOfKnownShares(t *testing.T) {
	for _, test := range []struct {
		p      api.Plan
		who    []int
		shares [][]byte
		want   []byte
	}{
		{room.Plan(2, 1, 1, 2), []int{1, 2}, [][]byte{{13}, {8}}, []byte{7}},
		{room.Plan(2, 1, 1, 2), []int{2, 1}, [][]byte{{8}, {13}}, []byte{7}},
		{room.Plan(2, 1, 1, 2), []int{1, 2}, [][]byte{{7}, {7}}, []byte{7}},
		{room.Plan(2, 1, 1, 2), []int{2, 1}, [][]byte{{15}, {10}}, []byte{0}},
		{room.Plan(3, 1, 1, 2), []int{3, 1}, [][]byte{{7, 9 ^ 1}, {7, 9 ^ 3}}, []byte{7, 9}},
		{room.Plan(3, 1, 1, 2), []int{2, 3, 1}, [][]byte{{7, 9 ^ 2}, {7, 9 ^ 1}, {7, 9 ^ 3}}, []byte{7, 9}},
		{room.Plan(3, 1, 1, 2), []int{2, 3, 1}, [][]byte{{7, 9 ^ 2}, {7, 9 ^ 1}, {0, 200}}, []byte{7, 9}},
		{room.Plan(3, 2, 1, 3), []int{1, 2, 3}, [][]byte{{7}, {7 ^ 2}, {7 ^ 2}}, []byte{7}}, // 7 and x (x + 3)
		{room.Plan(3, 1, 2, 3), []int{1, 2, 3}, [][]byte{{0}, {1}, {2}}, []byte{3, 4}},      // x
		{room.Plan(3, 1, 2, 3), []int{1, 2, 3}, [][]byte{{0}, {1}, {2}}, []byte{3}},
		{room.Plan(3, 1, 2, 3), []int{3, 1, 2}, [][]byte{{2 ^ 6}, {12}, {11}}, []byte{3, 4}}, // x and (x + 3) (x + 4)
		{room.Plan(3, 1, 2, 3), []int{1, 3, 2}, [][]byte{{12, 5}, {2 ^ 6, 5}, {11, 5}}, []byte{3, 4, 5}},
	} {
		if got, e := Blob(field, test.p, len(test.want), test.who, test.shares); e != api.OK || !bytes.Equal(got, test.want) {
			t.Errorf("Blob with %+v, of the shares %v of %v: %v, %d, want %v", test.p, test.shares, test.who, got, e, test.want)
		}
	}
}

func TestBlobByTheWords(t *testing.T) {
	for _, p := range room.EdgePlans() {
		for seed, size := range room.Sizes(p.L) {
			for _, n := range room.Counts(p) {
				who, shares := room.Mixed(p, n, seed), room.Lists(n, stripes(p, size), seed)
				if got, e := Blob(field, p, size, who, shares); e != api.OK || !bytes.Equal(got, blob(p, size, who, shares)) {
					t.Fatalf("Blob of %d bytes with %+v, of %v: %v, %d", size, p, who, got, e)
				}
			}
		}
	}
}

func TestBlobOfAllSizes(t *testing.T) {
	for _, p := range []api.Plan{room.Plan(5, 1, 1, 3), room.Plan(5, 1, 3, 5), room.Plan(9, 2, 5, 8), room.Plan(40, 1, 17, 20)} {
		for size := range 241 {
			who, shares := room.Mixed(p, room.Need(p), size), room.Lists(room.Need(p), stripes(p, size), size)
			if got, e := Blob(field, p, size, who, shares); e != api.OK || !bytes.Equal(got, blob(p, size, who, shares)) {
				t.Fatalf("Blob of %d bytes with %+v, of %v: %v, %d", size, p, who, got, e)
			}
		}
	}
}

func TestBlobWithManyPlans(t *testing.T) {
	for seed, p := range fewPlans() {
		size := min(240, p.L+1)
		who, shares := room.Mixed(p, room.Need(p), seed), room.Lists(room.Need(p), stripes(p, size), seed)
		got, e := Blob(field, p, size, who, shares)
		if e != api.OK || len(got) != size {
			t.Fatalf("Blob of %d bytes with %+v: %d bytes, %d", size, p, len(got), e)
		}
		for _, at := range []int{0, p.L / 2, p.L - 1, p.L} {
			if want := values(p, who, shares, byte(p.N+at%p.L))[at/p.L]; got[at] != want {
				t.Fatalf("Blob of %d bytes with %+v: byte %d is %d, want %d", size, p, at, got[at], want)
			}
		}
	}
}

func TestBlobLooksAtTheFirstNeedSharesAlone(t *testing.T) {
	for _, p := range room.EdgePlans() {
		if room.Need(p) == p.N {
			continue
		}
		size := p.L + 1
		who, shares := room.Mixed(p, p.N, 1), room.Lists(p.N, stripes(p, size), 1)
		want := blob(p, size, who, shares)
		for seed := range 5 {
			copy(shares[room.Need(p):], room.Lists(p.N-room.Need(p), stripes(p, size), 2+seed))
			if got, e := Blob(field, p, size, who, shares); e != api.OK || !bytes.Equal(got, want) {
				t.Fatalf("Blob with %+v, with other shares behind: %v, %d, want %v", p, got, e, want)
			}
		}
		shares[room.Need(p)-1] = bytes.Clone(shares[room.Need(p)-1])
		shares[room.Need(p)-1][0]++
		if got, e := Blob(field, p, size, who, shares); e != api.OK || bytes.Equal(got, want) {
			t.Fatalf("Blob with %+v, with another share at place %d: the same", p, room.Need(p)-1)
		}
	}
}

func TestBlobOfNothing(t *testing.T) {
	for _, p := range room.EdgePlans() {
		for _, n := range room.Counts(p) {
			for _, none := range [][]byte{nil, {}, room.Some(9, 1)[:0]} {
				who, shares := room.Mixed(p, n, 1), slices.Repeat([][]byte{none}, n)
				if got, e := Blob(field, p, 0, who, shares); e != api.OK || len(got) != 0 || !Agree(field, p, 0, who, shares) {
					t.Errorf("Blob of no bytes with %+v: %v, %d", p, got, e)
				}
			}
		}
	}
}

func TestBlobWithAPlanThatMayNotBe(t *testing.T) {
	for _, p := range room.WrongPlans() { // ErrArg is told ahead of all others
		for _, size := range append(room.Ends(), 1, 3, 240, 241) {
			for _, who := range [][]int{nil, {}, {1}, {1, 2}, {1, 2, 3}, {1, 2, 3, 4}, {1, 1, 2}, {0, 1, 2}, {1, 2, 257}} {
				for _, shares := range [][][]byte{nil, {nil, nil}, room.Lists(len(who), max(0, min(size, 240)), 1), room.Lists(len(who), 2, 1), room.Lists(len(who), 0, 1)} {
					refused(t, p, size, who, shares, api.ErrArg)
				}
			}
		}
	}
}

func TestBlobOfSizesOutOfRange(t *testing.T) {
	wrong := append(slices.DeleteFunc(room.Ends(), func(n int) bool { return n == 0 }), -240, 241, 242, 256, 257, 480)
	for _, p := range room.EdgePlans() {
		all := room.Mixed(p, p.N, 1)
		for _, size := range wrong {
			for _, n := range []int{0, 1, 240} {
				refused(t, p, size, all, room.Lists(p.N, n, 1), api.ErrRange)
				refused(t, p, size, append(slices.Clone(all), all[0]), room.Lists(p.N+1, n, 1), api.ErrRange) // ahead of ErrTwice
				refused(t, p, size, all[:1], room.Lists(1, n, 1), api.ErrRange)                               // ahead of ErrFew
				refused(t, p, size, nil, nil, api.ErrRange)
				refused(t, p, size, all, nil, api.ErrRange) // ahead of ErrForm
			}
		}
	}
}

func TestBlobOfNoCustodian(t *testing.T) {
	for _, p := range room.EdgePlans() {
		size := p.L + 1
		shares := room.Lists(p.N, stripes(p, size), 1)
		for _, i := range room.WrongCustodians(p) {
			for _, at := range []int{0, 1, room.Need(p) - 1, p.N - 1} {
				who := room.Mixed(p, p.N, 1)
				who[at] = i
				refused(t, p, size, who, shares, api.ErrRange)
				refused(t, p, 0, who, slices.Repeat([][]byte{nil}, p.N), api.ErrRange)
				refused(t, p, size, append(who, who[p.N-1], who[0]), shares, api.ErrRange) // ahead of ErrTwice
				refused(t, p, size, slices.Repeat([]int{i}, 300), shares, api.ErrRange)
				refused(t, p, size, who[at:at+1], shares[:1], api.ErrRange) // ahead of ErrFew
				refused(t, p, size, who, shares[1:], api.ErrRange)          // ahead of ErrForm
				refused(t, p, size, who, room.Lists(p.N, 0, 1), api.ErrRange)
			}
		}
	}
}

func TestBlobOfTheSameCustodianTwice(t *testing.T) {
	for _, p := range room.SmallPlans(6) {
		size := p.L + 1
		for a := range p.N {
			for b := range a {
				who := room.Mixed(p, p.N, 1)
				who[a] = who[b]
				refused(t, p, size, who, room.Lists(p.N, stripes(p, size), 1), api.ErrTwice)
				refused(t, p, 0, who, slices.Repeat([][]byte{nil}, p.N), api.ErrTwice)
			}
		}
	}
	for _, p := range room.EdgePlans() {
		size := p.L + 1
		all, n := room.Mixed(p, p.N, 1), stripes(p, size)
		refused(t, p, size, append(slices.Clone(all), all[p.N-1]), room.Lists(p.N+1, n, 1), api.ErrTwice)
		refused(t, p, size, append([]int{all[p.N-1]}, all...), room.Lists(p.N+1, n, 1), api.ErrTwice)
		refused(t, p, size, slices.Concat(all, all), room.Lists(2*p.N, n, 1), api.ErrTwice)
		refused(t, p, size, slices.Repeat([]int{p.N}, room.Need(p)), room.Lists(room.Need(p), n, 1), api.ErrTwice)
		refused(t, p, size, slices.Repeat([]int{1}, 1000), room.Lists(1000, n, 1), api.ErrTwice)
		refused(t, p, size, slices.Repeat([]int{1}, 1000), nil, api.ErrTwice) // ahead of ErrForm
		refused(t, p, size, []int{2, 2}, room.Lists(2, n+1, 1), api.ErrTwice) // ahead of ErrFew, if that is told too
	}
}

func TestBlobOfTooFewCustodians(t *testing.T) {
	for _, p := range room.EdgePlans() {
		for _, size := range []int{0, 1, p.L, p.L + 1, 240} {
			for _, n := range []int{0, 1, room.Need(p) / 2, room.Need(p) - 2, room.Need(p) - 1} {
				who := room.Mixed(p, n, 1)
				refused(t, p, size, who, room.Lists(n, stripes(p, size), 1), api.ErrFew)
				for _, count := range []int{0, n + 1, room.Need(p), p.N} { // ahead of ErrForm
					refused(t, p, size, who, room.Lists(count, stripes(p, size), 1), api.ErrFew)
				}
				refused(t, p, size, who, room.Lists(n, stripes(p, size)+1, 1), api.ErrFew)
			}
			refused(t, p, size, nil, nil, api.ErrFew)
		}
	}
}

func TestBlobOfNotAsManySharesAsCustodians(t *testing.T) {
	for _, p := range room.EdgePlans() {
		for _, size := range []int{0, 1, p.L, p.L + 1, 240} {
			for _, n := range room.Counts(p) {
				for _, count := range []int{0, 1, room.Need(p) - 1, n - 1, n + 1, n + 2, 2 * n, n + 256} {
					refused(t, p, size, room.Mixed(p, n, 1), room.Lists(count, stripes(p, size), 1), api.ErrForm)
				}
				refused(t, p, size, room.Mixed(p, n, 1), nil, api.ErrForm)
			}
		}
	}
}

func TestBlobOfAShareThatHasNotAsManyBytesAsStripes(t *testing.T) {
	for _, p := range room.EdgePlans() {
		for _, size := range room.Sizes(p.L) {
			right := stripes(p, size)
			for _, count := range room.Counts(p) {
				who, shares := room.Mixed(p, count, 1), room.Lists(count, right, 1)
				for _, at := range []int{0, 1, room.Need(p) - 1, count - 1} {
					kept := shares[at]
					for _, n := range []int{0, 1, right - 1, right + 1, 2*right + 1, size, right + 256} {
						if n < 0 || n == right {
							continue
						}
						shares[at] = room.Some(n, 2)
						refused(t, p, size, who, shares, api.ErrForm)
					}
					shares[at] = kept
				}
				refused(t, p, size, who, room.Lists(count, right+1, 1), api.ErrForm)
				if right > 0 {
					refused(t, p, size, who, room.Lists(count, right-1, 1), api.ErrForm)
					refused(t, p, size, who, make([][]byte, count), api.ErrForm)
				}
			}
		}
	}
}

// P11.2

// agreed tells count shares that agree: the first Need are any, and the others follow, by the document's words.
func agreed(p api.Plan, size int, who []int, seed int) [][]byte {
	shares := room.Lists(len(who), stripes(p, size), seed)
	for at := room.Need(p); at < len(who); at++ {
		shares[at] = values(p, who, shares, byte(who[at]-1))
	}
	return shares
}

func TestAgreeOfKnownShares(t *testing.T) {
	p := room.Plan(3, 1, 1, 2)
	for _, test := range []struct {
		who    []int
		shares [][]byte
		want   bool
	}{
		{[]int{1, 2, 3}, [][]byte{{7, 10}, {7, 11}, {7, 8}}, true},
		{[]int{3, 1, 2}, [][]byte{{7, 8}, {7, 10}, {7, 11}}, true},
		{[]int{1, 2, 3}, [][]byte{{7, 10}, {7, 11}, {7, 9}}, false},
		{[]int{1, 2, 3}, [][]byte{{7, 10}, {7, 11}, {6, 8}}, false},
		{[]int{1, 2, 3}, [][]byte{{7, 10}, {7, 10}, {7, 8}}, false},
		{[]int{1, 3, 2}, [][]byte{{7, 10}, {7, 11}, {7, 8}}, false},
		{[]int{1, 2}, [][]byte{{7, 10}, {7, 11}}, true},
		{[]int{1, 2}, [][]byte{{7, 10}, {200, 0}}, true},
		{[]int{1}, [][]byte{{7, 10}}, false},
		{[]int{1, 2, 3}, [][]byte{{7, 10}, {7, 11}}, false},
		{[]int{1, 2, 3}, [][]byte{{7, 10}, {7, 11}, {7}}, false},
		{[]int{1, 2, 2}, [][]byte{{7, 10}, {7, 11}, {7, 11}}, false},
		{[]int{1, 2, 4}, [][]byte{{7, 10}, {7, 11}, {7, 9}}, false},
		{nil, nil, false},
	} {
		if got := Agree(field, p, 2, test.who, test.shares); got != test.want {
			t.Errorf("Agree of the shares %v of %v: %t", test.shares, test.who, got)
		}
	}
}

func TestAgreeByTheWords(t *testing.T) {
	for _, p := range room.EdgePlans() {
		for seed, size := range room.Sizes(p.L) {
			if p.N > 100 && size > p.L+1 {
				continue // so many values of so many stripes are too slow here
			}
			for _, n := range room.Counts(p) {
				who := room.Mixed(p, n, seed)
				if !Agree(field, p, size, who, agreed(p, size, who, seed)) {
					t.Fatalf("Agree of %d bytes with %+v, of %v: false", size, p, who)
				}
			}
		}
	}
}

func TestAnyNeedSharesAgree(t *testing.T) {
	for _, p := range room.EdgePlans() {
		for seed, size := range room.Sizes(p.L) {
			if !Agree(field, p, size, room.Mixed(p, room.Need(p), seed), room.Lists(room.Need(p), stripes(p, size), seed)) {
				t.Fatalf("Agree of %d bytes with %+v, of Need shares: false", size, p)
			}
		}
	}
}

func TestAgreeSeesEachByteThatIsTurned(t *testing.T) {
	for _, p := range append(room.SmallPlans(5), room.Plan(12, 3, 5, 9), room.Plan(6, 2, 2, 4)) {
		size := 2*p.L + 1
		for n := room.Need(p) + 1; n <= p.N; n++ {
			who := room.Mixed(p, n, n)
			shares := agreed(p, size, who, n)
			for at, s := range shares {
				for k := range s {
					for bit := range 8 {
						s[k] ^= 1 << bit
						if Agree(field, p, size, who, shares) {
							t.Fatalf("Agree with %+v, with the bit %d of byte %d of share %d turned: true", p, bit, k, at)
						}
						s[k] ^= 1 << bit
					}
				}
			}
			if !Agree(field, p, size, who, shares) {
				t.Fatalf("Agree with %+v, turned back: false", p)
			}
		}
	}
}

func TestAgreeSeesASingleByteOfManyShares(t *testing.T) {
	for _, p := range []api.Plan{room.Plan(255, 1, 1, 2), room.Plan(129, 2, 125, 129), room.Plan(192, 100, 64, 192)} {
		who := room.Mixed(p, p.N, 1)
		shares := agreed(p, p.L+1, who, 1)
		for at := range shares {
			shares[at][1]++
			if Agree(field, p, p.L+1, who, shares) {
				t.Fatalf("Agree with %+v, with a byte of share %d turned: true", p, at)
			}
			shares[at][1]--
		}
	}
}

// P11.3

// orders tell some of some custodians.
func orders(who []int) [][]int {
	falling := slices.Clone(who)
	slices.Reverse(falling)
	shuffled := slices.Clone(who)
	rand.New(rand.NewSource(int64(len(who)))).Shuffle(len(who), func(a, b int) { shuffled[a], shuffled[b] = shuffled[b], shuffled[a] })
	return [][]int{who, falling, shuffled}
}

// checkDealt checks that the dealt shares of some custodians tell a blob, in any order, and agree.
func checkDealt(t *testing.T, p api.Plan, b []byte, all [][]byte, some []int) {
	t.Helper()
	for _, who := range orders(some) {
		var shares [][]byte
		for _, i := range who {
			shares = append(shares, all[i-1])
		}
		if got, e := Blob(field, p, len(b), who, shares); e != api.OK || !bytes.Equal(got, b) {
			t.Fatalf("with %+v the dealt shares of %v tell %v, %d, not %v", p, who, got, e, b)
		}
		if !Agree(field, p, len(b), who, shares) {
			t.Fatalf("with %+v the dealt shares of %v don't agree", p, who)
		}
	}
}

// dealt tells all shares of a blob.
func dealt(t *testing.T, p api.Plan, b []byte, seed int) [][]byte {
	all, e := deal.Deal(field, p, b, room.Some(p.T*stripes(p, len(b)), seed))
	if e != api.OK {
		t.Fatal(e)
	}
	return all
}

func TestAnyDealtSharesTellTheBlob(t *testing.T) {
	for _, p := range room.SmallPlans(6) {
		for _, size := range []int{0, 1, p.L, 2*p.L + 1} {
			b := room.Some(size, p.N)
			all := dealt(t, p, b, size)
			for n := room.Need(p); n <= p.N; n++ {
				room.EachChoice(p.N, n, func(who []int) { checkDealt(t, p, b, all, who) })
			}
		}
	}
}

func TestDealtSharesOfAllSizesTellTheBlob(t *testing.T) {
	for _, p := range []api.Plan{room.Plan(5, 1, 1, 3), room.Plan(5, 1, 3, 5), room.Plan(9, 2, 5, 8), room.Plan(40, 1, 17, 20)} {
		for size := range 241 {
			b := room.Some(size, 3*size)
			all := dealt(t, p, b, size)
			for _, n := range room.Counts(p) {
				checkDealt(t, p, b, all, room.Mixed(p, n, size))
			}
		}
	}
}

func TestDealtSharesOfManyCustodiansTellTheBlob(t *testing.T) {
	for seed, p := range fewPlans() {
		b := room.Some(p.L+1, seed)
		all := dealt(t, p, b, seed)
		checkDealt(t, p, b, all, room.Mixed(p, room.Need(p), seed))
		checkDealt(t, p, b, all, room.Mixed(p, (room.Need(p)+p.N+1)/2, seed))
	}
}

func TestDealtSharesOfTwoBlobsDoNotAgree(t *testing.T) {
	for _, p := range room.SmallPlans(6) {
		if room.Need(p) == p.N {
			continue
		}
		size := p.L + 1
		shares, other := dealt(t, p, room.Some(size, 1), 1), dealt(t, p, room.Some(size, 2), 2)
		for at := range shares {
			kept := shares[at]
			shares[at] = other[at]
			if !bytes.Equal(kept, other[at]) && Agree(field, p, size, []int{1, 2, 3, 4, 5, 6}[:p.N], shares) {
				t.Fatalf("Agree with %+v, where share %d is of another blob: true", p, at)
			}
			shares[at] = kept
		}
	}
}

// The rules that hold everywhere, of each call.

func TestWhatIsHandedInIsNotChanged(t *testing.T) {
	for _, p := range room.EdgePlans() {
		for _, size := range room.Sizes(p.L) {
			if p.N > 100 && size > p.L+1 {
				continue
			}
			who, sameWho := room.Numbers(room.Mixed(p, p.N, 1)...)
			shares, sameShares := room.Rows(room.Lists(p.N, stripes(p, size), 1)...)
			for _, n := range []int{size, 0, 241, -1} {
				for _, count := range []int{p.N, room.Need(p), room.Need(p) - 1} {
					Blob(field, p, n, who[:count], shares[:count])
					Agree(field, p, n, who[:count], shares[:count])
				}
			}
			Blob(field, api.Plan{}, size, who, shares)
			Agree(field, api.Plan{}, size, who, shares)
			if !sameWho() || !sameShares() {
				t.Fatalf("custodians or shares of %d bytes with %+v, or their spare room, were changed", size, p)
			}
		}
	}
}

func TestSpareRoomIsNotRead(t *testing.T) {
	p := room.Plan(4, 1, 2, 3)
	b := []byte("abc")
	all := dealt(t, p, b, 1)
	who := []int{3, 1, 4, 2, 2}
	shares := [][]byte{all[2], all[0], all[3], all[1], nil}
	for at, s := range shares {
		shares[at] = append(bytes.Clone(s), 9, 9)[:len(s)]
	}
	checkFirst := func(n int) {
		if got, e := Blob(field, p, 3, who[:n], shares[:n]); e != api.OK || !bytes.Equal(got, b) || !Agree(field, p, 3, who[:n], shares[:n]) {
			t.Errorf("Blob of %d shares with spare room: %q, %d", n, got, e)
		}
	}
	checkFirst(3)
	checkFirst(4)
	refused(t, p, 3, who[:2], shares[:2], api.ErrFew)
	refused(t, p, 3, who[:3], shares[:2], api.ErrForm)
	refused(t, p, 3, who[:3], [][]byte{shares[0], shares[1], shares[2][:1]}, api.ErrForm)
	refused(t, p, 5, who[:3], shares[:3], api.ErrForm)
}

func TestAnswersShareNoMemory(t *testing.T) {
	for _, p := range room.EdgePlans() {
		for _, size := range []int{0, 1, p.L, p.L + 1} {
			who, shares := room.Mixed(p, room.Need(p), 1), room.Lists(room.Need(p), stripes(p, size), 1)
			want := blob(p, size, who, shares)
			first, _ := Blob(field, p, size, who, shares)
			second, _ := Blob(field, p, size, who, shares)
			kept := make([][]byte, len(shares))
			for at, s := range shares {
				kept[at] = bytes.Clone(s)
			}
			if k := room.Shared(append(shares, first, second)...); k >= 0 { // writes over them
				t.Fatalf("with %+v and size %d: list %d shares memory with one ahead of it", p, size, k)
			}
			if again, e := Blob(field, p, size, who, kept); e != api.OK || !bytes.Equal(again, want) {
				t.Fatalf("with %+v and size %d: an answer hangs on what became of an earlier one", p, size)
			}
		}
	}
}

func TestNothingPanics(t *testing.T) {
	many := slices.Repeat([]int{1, 2, 3, 255, 256, 257}, 50)
	for _, p := range slices.Concat(room.EdgePlans(), room.WrongPlans()) {
		for _, f := range []*gf.Field{nil, {}, field} {
			for _, who := range [][]int{nil, {}, {1, 2}, {1, 2, 3, 4}, room.Ends(), many, room.Mixed(room.Plan(255, 1, 1, 2), 255, 1)} {
				for _, size := range []int{-1, 0, 1, 2, 240, 241} {
					for _, shares := range [][][]byte{nil, {}, {nil}, make([][]byte, len(who)), room.Lists(len(who), 1, 1), room.Lists(len(who), max(0, size), 1), room.Lists(300, 2, 1)} {
						Blob(f, p, size, who, shares)
						Agree(f, p, size, who, shares)
					}
				}
			}
		}
		for _, size := range room.Ends() {
			Blob(field, p, size, []int{1, 2}, room.Lists(2, 1, 1))
			Agree(field, p, size, []int{1, 2}, room.Lists(2, 1, 1))
		}
	}
}
