package poly

import (
	"bytes"
	"testing"

	"sherd/gf"
	"sherd/room"
)

// lists are polynomials of all kinds of lengths, with noughts ahead, between and behind.
func lists() [][]byte {
	long := make([]byte, 600)
	for k := range long {
		long[k] = byte(k*k*7 + k*13 + 5)
	}
	return [][]byte{
		nil, {}, {0}, {1}, {255}, {0, 0}, {0, 1}, {1, 0}, {5, 4}, {5, 0, 1}, {0, 0, 7}, {7, 0, 0},
		{1, 2, 3, 4, 5}, {255, 254, 0, 253}, {0, 0, 0, 0}, long[:37], long[:255], long[:256], long[:257], long,
	}
}

// someBytes are the bytes at which the tests look.
func someBytes() []byte {
	return []byte{0, 1, 2, 3, 27, 127, 128, 141, 254, 255}
}

// eachPair calls check with all pairs of lists.
func eachPair(check func(p, q []byte)) {
	for _, p := range lists() {
		for _, q := range lists() {
			check(p, q)
		}
	}
}

// slowEval is the sum of the bytes times the powers of x.
func slowEval(f *gf.Field, p []byte, x byte) byte {
	value, power := byte(0), byte(1)
	for _, b := range p {
		value ^= f.Mul(b, power)
		power = f.Mul(power, x)
	}
	return value
}

// at tells the byte at a place: 0 behind the list's end.
func at(p []byte, k int) byte {
	if k < 0 || k >= len(p) {
		return 0
	}
	return p[k]
}

// slowMul is the product, place by place.
func slowMul(f *gf.Field, p, q []byte) []byte {
	if len(p) == 0 || len(q) == 0 {
		return nil
	}
	product := make([]byte, len(p)+len(q)-1)
	for n := range product {
		for k := range p {
			product[n] ^= f.Mul(p[k], at(q, n-k))
		}
	}
	return product
}

// P2.1

func TestEval(t *testing.T) {
	f := gf.New()
	for _, p := range lists() {
		for x := range 256 {
			if got, want := Eval(f, p, byte(x)), slowEval(f, p, byte(x)); got != want {
				t.Errorf("Eval of %v at %d: %d, want %d", p, x, got, want)
			}
		}
	}
}

func TestEvalByHand(t *testing.T) {
	f := gf.New()
	for _, c := range []struct {
		p    []byte
		x    byte
		want byte
	}{
		{nil, 9, 0}, {[]byte{}, 0, 0}, {[]byte{7}, 0, 7}, {[]byte{7}, 255, 7}, {[]byte{0, 1}, 255, 255},
		{[]byte{5, 0, 1}, 2, 1}, {[]byte{5, 9, 1}, 0, 5}, {[]byte{0, 0, 0, 0, 0, 0, 0, 0, 1}, 2, 27},
		{[]byte{2, 3, 1}, 1, 0}, {[]byte{2, 3, 1}, 2, 0}, {[]byte{2, 3, 1}, 3, 2},
	} {
		if got := Eval(f, c.p, c.x); got != c.want {
			t.Errorf("Eval of %v at %d: %d, want %d", c.p, c.x, got, c.want)
		}
	}
}

func TestDegree(t *testing.T) {
	farBehind := make([]byte, 1000)
	farBehind[0] = 1
	allZero := make([]byte, 1000)
	lastOnly := make([]byte, 1000)
	lastOnly[999] = 255
	for _, c := range []struct {
		p    []byte
		want int
	}{
		{nil, -1}, {[]byte{}, -1}, {[]byte{0}, -1}, {[]byte{0, 0}, -1}, {allZero, -1},
		{[]byte{1}, 0}, {[]byte{255, 0, 0}, 0}, {farBehind, 0},
		{[]byte{0, 128}, 1}, {[]byte{5, 0, 1}, 2}, {[]byte{0, 0, 1, 0}, 2}, {[]byte{1, 0, 3, 0, 0}, 2}, {lastOnly, 999},
	} {
		if got := Degree(c.p); got != c.want {
			t.Errorf("Degree of %v: %d, want %d", c.p, got, c.want)
		}
	}
}

// P2.2

func TestSum(t *testing.T) {
	eachPair(func(p, q []byte) {
		got := Sum(p, q)
		if len(got) != max(len(p), len(q)) {
			t.Fatalf("Sum of %v and %v has %d places", p, q, len(got))
		}
		for k, b := range got {
			if b != at(p, k)^at(q, k) {
				t.Errorf("Sum of %v and %v: %d at place %d", p, q, b, k)
			}
		}
	})
}

func TestSumByHand(t *testing.T) {
	for _, c := range []struct{ p, q, want []byte }{
		{[]byte{5, 0, 1}, []byte{1, 2}, []byte{4, 2, 1}},
		{[]byte{1, 2}, []byte{5, 0, 1}, []byte{4, 2, 1}},
		{[]byte{5, 0, 1}, []byte{5, 0, 1}, []byte{0, 0, 0}}, // noughts behind stay
		{nil, []byte{7, 0}, []byte{7, 0}},
		{[]byte{7, 0}, nil, []byte{7, 0}},
		{nil, nil, nil},
	} {
		if got := Sum(c.p, c.q); !bytes.Equal(got, c.want) {
			t.Errorf("Sum of %v and %v: %v, want %v", c.p, c.q, got, c.want)
		}
	}
}

func TestScale(t *testing.T) {
	f := gf.New()
	for _, p := range lists() {
		for c := range 256 {
			got := Scale(f, p, byte(c))
			if len(got) != len(p) {
				t.Fatalf("Scale of %v by %d has %d places", p, c, len(got))
			}
			for k := range p {
				if got[k] != f.Mul(p[k], byte(c)) {
					t.Errorf("Scale of %v by %d: %d at place %d", p, c, got[k], k)
				}
			}
		}
	}
	if got := Scale(f, []byte{5, 0, 1}, 2); !bytes.Equal(got, []byte{10, 0, 2}) {
		t.Errorf("Scale by 2: %v", got)
	}
	if got := Scale(f, []byte{5, 0, 1}, 0); !bytes.Equal(got, []byte{0, 0, 0}) {
		t.Errorf("Scale by 0: %v", got)
	}
}

func TestMul(t *testing.T) {
	f := gf.New()
	eachPair(func(p, q []byte) {
		if got, want := Mul(f, p, q), slowMul(f, p, q); !bytes.Equal(got, want) {
			t.Errorf("Mul of %v and %v: %v, want %v", p, q, got, want)
		}
	})
}

func TestMulByHand(t *testing.T) {
	f := gf.New()
	for _, c := range []struct{ p, q, want []byte }{
		{[]byte{5, 0, 1}, []byte{1, 2}, []byte{5, 10, 1, 2}},
		{[]byte{1, 1}, []byte{1, 1}, []byte{1, 0, 1}},
		{[]byte{2}, []byte{128}, []byte{27}},
		{[]byte{0, 0}, []byte{7, 0, 0}, []byte{0, 0, 0, 0}}, // noughts behind stay
		{[]byte{1, 2}, []byte{1}, []byte{1, 2}},
		{nil, []byte{1, 2}, nil},
		{[]byte{1, 2}, []byte{}, nil},
		{nil, nil, nil},
	} {
		if got := Mul(f, c.p, c.q); !bytes.Equal(got, c.want) {
			t.Errorf("Mul of %v and %v: %v, want %v", c.p, c.q, got, c.want)
		}
	}
}

func TestRootByHand(t *testing.T) {
	f := gf.New()
	for _, c := range []struct{ xs, want []byte }{
		{nil, []byte{1}},
		{[]byte{}, []byte{1}},
		{[]byte{0}, []byte{0, 1}},
		{[]byte{255}, []byte{255, 1}},
		{[]byte{1, 2}, []byte{2, 3, 1}},
		{[]byte{2, 1}, []byte{2, 3, 1}},
		{[]byte{0, 0, 0}, []byte{0, 0, 0, 1}},
		{[]byte{3, 3}, []byte{5, 0, 1}},
		{[]byte{2, 128}, []byte{27, 130, 1}},
	} {
		if got := Root(f, c.xs...); !bytes.Equal(got, c.want) {
			t.Errorf("Root of %v: %v, want %v", c.xs, got, c.want)
		}
	}
}

func TestRootIsTheProduct(t *testing.T) {
	f := gf.New()
	for _, xs := range lists() {
		want := []byte{1}
		for _, c := range xs {
			want = slowMul(f, want, []byte{c, 1})
		}
		got := Root(f, xs...)
		if !bytes.Equal(got, want) {
			t.Errorf("Root of %v: %v, want %v", xs, got, want)
		}
		if len(got) != len(xs)+1 || Degree(got) != len(xs) {
			t.Errorf("Root of %d bytes has %d places", len(xs), len(got))
		}
	}
}

func TestRootIsZeroThereAndElsewhereNot(t *testing.T) {
	f := gf.New()
	xs := []byte{0, 9, 9, 200, 255}
	root := Root(f, xs...)
	for x := range 256 {
		if got, there := Eval(f, root, byte(x)), bytes.IndexByte(xs, byte(x)) >= 0; there != (got == 0) {
			t.Errorf("Root's value at %d: %d", x, got)
		}
	}
}

func TestRootOfAllBytes(t *testing.T) {
	f := gf.New()
	all := make([]byte, 256)
	for k := range all {
		all[k] = byte(k)
	}
	want := make([]byte, 257) // x to the 256, and x: each byte is its own power 256
	want[1], want[256] = 1, 1
	if got := Root(f, all...); !bytes.Equal(got, want) {
		t.Errorf("Root of all bytes: %v", got)
	}
}

// P2.3

func TestOverByHand(t *testing.T) {
	f := gf.New()
	for _, c := range []struct {
		p    []byte
		c    byte
		want []byte
		rest byte
	}{
		{nil, 0, nil, 0},
		{nil, 9, nil, 0},
		{[]byte{}, 255, nil, 0},
		{[]byte{7}, 1, nil, 7},
		{[]byte{0}, 1, nil, 0},
		{[]byte{2, 3, 1}, 1, []byte{2, 1}, 0},
		{[]byte{2, 3, 1}, 2, []byte{1, 1}, 0},
		{[]byte{2, 3, 1}, 3, []byte{0, 1}, 2},
		{[]byte{9, 8, 7}, 0, []byte{8, 7}, 9},
		{[]byte{1, 2, 0}, 2, []byte{2, 0}, 5}, // a nought behind stays
		{[]byte{0, 0, 0}, 255, []byte{0, 0}, 0},
	} {
		got, rest := Over(f, c.p, c.c)
		if !bytes.Equal(got, c.want) || rest != c.rest {
			t.Errorf("Over of %v by %d: %v, %d, want %v, %d", c.p, c.c, got, rest, c.want, c.rest)
		}
	}
}

func TestOverAndBack(t *testing.T) {
	f := gf.New()
	for _, p := range lists() {
		for c := range 256 {
			quotient, rest := Over(f, p, byte(c))
			if len(quotient) != max(len(p)-1, 0) {
				t.Fatalf("Over of %v by %d has %d places", p, c, len(quotient))
			}
			back := make([]byte, len(p)) // quotient times x, and quotient times c, and the rest
			for k := range back {
				back[k] = at(quotient, k-1) ^ f.Mul(at(quotient, k), byte(c))
			}
			if len(back) > 0 {
				back[0] ^= rest
			}
			if !bytes.Equal(back, p) || len(p) == 0 && rest != 0 {
				t.Errorf("Over of %v by %d: %v, %d", p, c, quotient, rest)
			}
		}
	}
}

func TestOverTakesRootApart(t *testing.T) {
	f := gf.New()
	xs := []byte{4, 0, 255, 4, 17}
	p := Root(f, xs...)
	for k, c := range xs {
		rest := byte(0)
		if p, rest = Over(f, p, c); rest != 0 || !bytes.Equal(p, Root(f, xs[k+1:]...)) {
			t.Errorf("behind %d: %v, %d", c, p, rest)
		}
	}
}

// P2.4

func TestValuesOfSumAndProduct(t *testing.T) {
	f := gf.New()
	eachPair(func(p, q []byte) {
		sum, product := Sum(p, q), Mul(f, p, q)
		for _, x := range someBytes() {
			a, b := Eval(f, p, x), Eval(f, q, x)
			if got := Eval(f, sum, x); got != a^b {
				t.Errorf("the sum of %v and %v at %d: %d", p, q, x, got)
			}
			if got := Eval(f, product, x); got != f.Mul(a, b) {
				t.Errorf("the product of %v and %v at %d: %d", p, q, x, got)
			}
		}
	})
}

func TestValuesOfScale(t *testing.T) {
	f := gf.New()
	for _, p := range lists() {
		for _, c := range someBytes() {
			scaled := Scale(f, p, c)
			for _, x := range someBytes() {
				if got, want := Eval(f, scaled, x), f.Mul(c, Eval(f, p, x)); got != want {
					t.Errorf("%d times %v at %d: %d, want %d", c, p, x, got, want)
				}
			}
		}
	}
}

func TestOverLeavesTheValue(t *testing.T) {
	f := gf.New()
	for _, p := range lists() {
		for c := range 256 {
			if _, rest := Over(f, p, byte(c)); rest != Eval(f, p, byte(c)) {
				t.Errorf("Over of %v by %d leaves %d", p, c, rest)
			}
		}
	}
}

// The rules that hold everywhere, of each call.

func TestListsAreLeftAloneAndNotShared(t *testing.T) {
	f := gf.New()
	p, wholeP := room.Of(5, 4, 3)
	q, wholeQ := room.Of(9, 1)
	none, wholeNone := room.Of()
	answers := [][]byte{
		Sum(p, q), Sum(q, p), Sum(p, none), Sum(none, p), Sum(p, nil), Sum(nil, p), Sum(none, none),
		Scale(f, p, 7), Scale(f, p, 1), Scale(f, p, 0), Scale(f, none, 3),
		Mul(f, p, q), Mul(f, p, []byte{1}), Mul(f, []byte{1}, p), Mul(f, none, p),
		Root(f, p...), Root(f, none...), Root(f),
	}
	for _, c := range []byte{0, 1, 255} {
		quotient, _ := Over(f, p, c)
		alone, _ := Over(f, q[:1], c)
		of, _ := Over(f, none, c)
		answers = append(answers, quotient, alone, of)
	}
	Eval(f, p, 3)
	Degree(p)
	Degree(none)
	if k := room.Shared(answers...); k >= 0 {
		t.Errorf("answer %d shares memory with one ahead of it", k)
	}
	if !wholeP() || !wholeQ() || !wholeNone() {
		t.Error("a list that was handed in, or its spare room, was changed")
	}
}

func TestWhatIsBehindTheEndIsNotLookedAt(t *testing.T) {
	f := gf.New()
	p := []byte{5, 4, 3, 2, 1}[:2]
	sum, q := Sum(p, nil), []byte{1, 1}
	quotient, rest := Over(f, p, 2)
	if Eval(f, p, 2) != 13 || Degree(p) != 1 || !bytes.Equal(sum, []byte{5, 4}) ||
		!bytes.Equal(Scale(f, p, 2), []byte{10, 8}) || !bytes.Equal(Mul(f, p, q), []byte{5, 1, 4}) ||
		!bytes.Equal(quotient, []byte{4}) || rest != 13 || !bytes.Equal(Root(f, p[:1]...), []byte{5, 1}) {
		t.Error("what is behind a list's end was looked at")
	}
}

func TestNoFieldEndsAndDoesNotPanic(t *testing.T) {
	for _, f := range []*gf.Field{nil, {}} {
		eachPair(func(p, q []byte) {
			Mul(f, p, q)
		})
		for _, p := range lists() {
			for _, c := range someBytes() {
				Eval(f, p, c)
				Scale(f, p, c)
				Over(f, p, c)
			}
			Root(f, p...)
		}
	}
}
