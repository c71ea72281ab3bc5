package lagr

import (
	"bytes"
	"testing"

	"sherd/gf"
	"sherd/poly"
	"sherd/room"
)

// allBytes are all 256, in an order of their own.
func allBytes() []byte {
	all := make([]byte, 256)
	for k := range all {
		all[k] = byte(k*77 + 19) // 77 is odd: each byte comes once
	}
	return all
}

// pointLists are lists of points, all unlike, of all kinds of lengths.
func pointLists() [][]byte {
	all := allBytes()
	return [][]byte{
		nil, {}, {0}, {1}, {255}, {0, 1}, {1, 0}, {0, 255}, {254, 255}, {1, 2, 3}, {3, 0, 2, 1}, {7, 0, 255, 128, 27},
		{1, 2, 3, 4, 5, 6, 7, 8, 9}, all[:17], all[:40], all[:255], all,
	}
}

// twiceLists are lists of points two of which are the same: ahead, behind, far apart, and more than there are bytes.
func twiceLists() [][]byte {
	all := allBytes()
	return [][]byte{
		{0, 0}, {255, 255}, {3, 4, 3}, {3, 3, 4}, {4, 3, 3}, {0, 1, 2, 0}, {0, 1, 255, 2, 255}, {5, 5, 5},
		append(bytes.Clone(all[:255]), all[0]), append(bytes.Clone(all[:200]), all[199]),
		append(bytes.Clone(all), all[255]), append(bytes.Clone(all), all...), make([]byte, 1000),
	}
}

// valueLists are lists of n values: noughts, ones, the greatest ones, one alone, and mixed ones.
func valueLists(n int) [][]byte {
	lists := [][]byte{make([]byte, n), bytes.Repeat([]byte{1}, n), bytes.Repeat([]byte{255}, n)}
	if n > 0 {
		first, last := make([]byte, n), make([]byte, n)
		first[0], last[n-1] = 255, 1
		lists = append(lists, first, last)
	}
	return append(lists, room.Some(n, n), room.Some(n, n+1000))
}

// eachThrough calls check with all lists of points, and of values for each.
func eachThrough(check func(xs, ys []byte)) {
	for _, xs := range pointLists() {
		for _, ys := range valueLists(len(xs)) {
			check(xs, ys)
		}
	}
}

// slowWeight is the product of (x + the others) over the product of (the point + the others).
func slowWeight(f *gf.Field, xs []byte, k int, x byte) byte {
	above, below := byte(1), byte(1)
	for i, c := range xs {
		if i != k {
			above = f.Mul(above, x^c)
			below = f.Mul(below, xs[k]^c)
		}
	}
	return f.Div(above, below)
}

// valuesOf are the values of a polynomial at some points.
func valuesOf(f *gf.Field, p, xs []byte) []byte {
	values := make([]byte, len(xs))
	for k, x := range xs {
		values[k] = poly.Eval(f, p, x)
	}
	return values
}

// P3.1

func TestThroughByHand(t *testing.T) {
	f := gf.New()
	for _, c := range []struct{ xs, ys, want []byte }{
		{[]byte{0, 1}, []byte{5, 4}, []byte{5, 1}}, // the document's example
		{[]byte{1, 0}, []byte{4, 5}, []byte{5, 1}},
		{[]byte{0, 1, 2}, []byte{7, 7, 7}, []byte{7, 0, 0}}, // noughts behind stay
		{[]byte{0, 1, 2}, []byte{0, 0, 0}, []byte{0, 0, 0}},
		{[]byte{0}, []byte{255}, []byte{255}},
		{[]byte{255}, []byte{9}, []byte{9}},
		{[]byte{9}, []byte{0}, []byte{0}},
		{[]byte{0, 255}, []byte{0, 255}, []byte{0, 1}},
		{[]byte{1, 2, 3}, []byte{0, 0, 2}, []byte{2, 3, 1}},
		{[]byte{0, 1, 2, 3}, []byte{2, 0, 0, 2}, []byte{2, 3, 1, 0}},
		{nil, nil, nil},
		{[]byte{}, []byte{}, nil},
		{nil, []byte{}, nil},
	} {
		if got, ok := Through(f, c.xs, c.ys); !ok || !bytes.Equal(got, c.want) {
			t.Errorf("Through %v with %v: %v, %v, want %v", c.xs, c.ys, got, ok, c.want)
		}
	}
}

func TestThroughHasItsValuesAndPlaces(t *testing.T) {
	f := gf.New()
	eachThrough(func(xs, ys []byte) {
		p, ok := Through(f, xs, ys)
		if !ok || len(p) != len(xs) {
			t.Fatalf("Through %v with %v: %d places, %v", xs, ys, len(p), ok)
		}
		if got := valuesOf(f, p, xs); !bytes.Equal(got, ys) {
			t.Errorf("Through %v with %v: the values %v", xs, ys, got)
		}
	})
}

func TestThroughAsksForNoOrder(t *testing.T) {
	f := gf.New()
	xs, ys := []byte{7, 0, 255, 128, 27}, []byte{1, 0, 9, 255, 9}
	want, _ := Through(f, xs, ys)
	for turn := range xs {
		turnedXs := append(bytes.Clone(xs[turn:]), xs[:turn]...)
		turnedYs := append(bytes.Clone(ys[turn:]), ys[:turn]...)
		if got, ok := Through(f, turnedXs, turnedYs); !ok || !bytes.Equal(got, want) {
			t.Errorf("turned by %d: %v, %v, want %v", turn, got, ok, want)
		}
	}
}

func TestAtByHand(t *testing.T) {
	f := gf.New()
	for _, c := range []struct {
		xs, ys  []byte
		x, want byte
	}{
		{[]byte{0, 1}, []byte{5, 4}, 0, 5}, // at a point: its own value
		{[]byte{0, 1}, []byte{5, 4}, 1, 4},
		{[]byte{0, 1}, []byte{5, 4}, 9, 12},
		{[]byte{0, 1}, []byte{5, 4}, 255, 250},
		{[]byte{1, 2, 3}, []byte{0, 0, 2}, 0, 2},
		{[]byte{7}, []byte{8}, 0, 8},
		{[]byte{7}, []byte{8}, 255, 8},
		{nil, nil, 0, 0},
		{nil, nil, 255, 0},
		{[]byte{}, nil, 3, 0},
	} {
		if got, ok := At(f, c.xs, c.ys, c.x); !ok || got != c.want {
			t.Errorf("At %v with %v, at %d: %d, %v, want %d", c.xs, c.ys, c.x, got, ok, c.want)
		}
	}
}

func TestAtIsThroughsValue(t *testing.T) {
	f := gf.New()
	eachThrough(func(xs, ys []byte) {
		p, _ := Through(f, xs, ys)
		for x := 0; x < 256; x += 1 + len(xs)/8 {
			want := poly.Eval(f, p, byte(x))
			if got, ok := At(f, xs, ys, byte(x)); !ok || got != want {
				t.Errorf("At %v with %v, at %d: %d, %v, want %d", xs, ys, x, got, ok, want)
			}
		}
	})
}

func TestTwoPointsThatAreTheSame(t *testing.T) {
	f := gf.New()
	for _, xs := range twiceLists() {
		for _, ys := range [][]byte{make([]byte, len(xs)), room.Some(len(xs), 3), bytes.Clone(xs), nil, {1}} {
			if p, ok := Through(f, xs, ys); ok || len(p) != 0 {
				t.Errorf("Through %v with %v: %v, %v", xs, ys, p, ok)
			}
			for _, x := range []byte{0, xs[0], 255} {
				if y, ok := At(f, xs, ys, x); ok || y != 0 {
					t.Errorf("At %v with %v, at %d: %d, %v", xs, ys, x, y, ok)
				}
			}
		}
	}
}

func TestNotAsManyValues(t *testing.T) {
	f := gf.New()
	for _, xs := range pointLists() {
		for _, n := range []int{0, len(xs) - 1, len(xs) + 1, len(xs) + 256, 2 * len(xs)} {
			if n < 0 || n == len(xs) {
				continue
			}
			ys := bytes.Repeat([]byte{7}, n)
			if p, ok := Through(f, xs, ys); ok || len(p) != 0 {
				t.Errorf("Through %d points with %d values: %v, %v", len(xs), n, p, ok)
			}
			for _, x := range []byte{0, 1, 255} {
				if y, ok := At(f, xs, ys, x); ok || y != 0 {
					t.Errorf("At %d points with %d values, at %d: %d, %v", len(xs), n, x, y, ok)
				}
			}
		}
	}
	if p, ok := Through(f, []byte{3}, nil); ok || len(p) != 0 {
		t.Errorf("Through a point without values: %v, %v", p, ok)
	}
	if p, ok := Through(f, nil, []byte{3}); ok || len(p) != 0 {
		t.Errorf("Through no point with a value: %v, %v", p, ok)
	}
}

func TestValuesBehindTheEndAreNoValues(t *testing.T) {
	f := gf.New()
	values := []byte{5, 4, 9}
	if _, ok := Through(f, []byte{0, 1, 2}, values[:2]); ok {
		t.Error("Through looked behind the values' end")
	}
	if _, ok := At(f, []byte{0, 1, 2}, values[:2], 9); ok {
		t.Error("At looked behind the values' end")
	}
	if p, ok := Through(f, []byte{0, 1, 0}[:2], values[:2]); !ok || !bytes.Equal(p, []byte{5, 1}) {
		t.Errorf("Through looked behind the points' end: %v, %v", p, ok)
	}
}

// P3.2

func TestWeightsByHand(t *testing.T) {
	f := gf.New()
	for _, c := range []struct {
		xs   []byte
		x    byte
		want []byte
	}{
		{[]byte{3, 4}, 3, []byte{1, 0}}, // at a point it alone counts
		{[]byte{3, 4}, 4, []byte{0, 1}},
		{[]byte{0, 1}, 0, []byte{1, 0}},
		{[]byte{0, 1}, 9, []byte{8, 9}},
		{[]byte{1, 0}, 9, []byte{9, 8}},
		{[]byte{1, 2}, 0, []byte{247, 246}}, // 2 over 3, and 1 over 3
		{[]byte{0, 255, 7}, 255, []byte{0, 1, 0}},
		{[]byte{1, 2, 3}, 0, []byte{1, 1, 1}},
		{[]byte{0}, 0, []byte{1}},
		{[]byte{0}, 255, []byte{1}},
		{[]byte{255}, 0, []byte{1}},
		{nil, 0, nil}, {nil, 255, nil}, {[]byte{}, 7, nil}, // no point, no weight
	} {
		if got, ok := Weights(f, c.xs, c.x); !ok || !bytes.Equal(got, c.want) {
			t.Errorf("Weights of %v at %d: %v, %v, want %v", c.xs, c.x, got, ok, c.want)
		}
	}
}

func TestWeightsAtAllBytes(t *testing.T) {
	f := gf.New()
	for _, xs := range pointLists() {
		for x := 0; x < 256; x += 1 + len(xs)/16 {
			got, ok := Weights(f, xs, byte(x))
			if !ok || len(got) != len(xs) {
				t.Fatalf("Weights of %v at %d: %v, %v", xs, x, got, ok)
			}
			for k := range xs {
				if want := slowWeight(f, xs, k, byte(x)); got[k] != want {
					t.Errorf("Weights of %v at %d: %d at place %d, want %d", xs, x, got[k], k, want)
				}
			}
		}
	}
}

func TestWeightsTellTheValueOfEachPolynomial(t *testing.T) {
	f := gf.New()
	for _, xs := range pointLists() {
		for _, x := range []byte{0, 1, 2, 100, 254, 255} {
			weights, ok := Weights(f, xs, x)
			if !ok {
				t.Fatalf("Weights of %v at %d: false", xs, x)
			}
			for places := range len(xs) + 1 { // fewer places than points, too
				p := room.Some(places, places+int(x))
				if got, want := f.Dot(weights, valuesOf(f, p, xs)), poly.Eval(f, p, x); got != want {
					t.Errorf("of %v at %d the weights tell of %v: %d, want %d", xs, x, p, got, want)
				}
			}
		}
	}
}

func TestWeightsOfPointsThatAreTheSame(t *testing.T) {
	f := gf.New()
	for _, xs := range twiceLists() {
		for _, x := range []byte{0, xs[0], xs[len(xs)-1], 255} {
			if weights, ok := Weights(f, xs, x); ok || len(weights) != 0 {
				t.Errorf("Weights of %v at %d: %v, %v", xs, x, weights, ok)
			}
		}
	}
}

// P3.3

func TestNoOtherPolynomialHasTheseValues(t *testing.T) {
	f := gf.New()
	for _, c := range []struct{ xs, ys []byte }{
		{[]byte{0, 1}, []byte{5, 4}}, {[]byte{3, 200}, []byte{0, 0}}, {[]byte{255, 254}, []byte{1, 255}},
	} {
		through, _ := Through(f, c.xs, c.ys)
		found := 0
		for a := range 256 {
			for b := range 256 {
				p := []byte{byte(a), byte(b)}
				if bytes.Equal(valuesOf(f, p, c.xs), c.ys) {
					found++
					if !bytes.Equal(p, through) {
						t.Errorf("Through %v with %v is %v, and %v has the values", c.xs, c.ys, through, p)
					}
				}
			}
		}
		if found != 1 {
			t.Errorf("%d polynomials have at %v the values %v", found, c.xs, c.ys)
		}
	}
}

func TestThroughTellsThePolynomialItself(t *testing.T) {
	f := gf.New()
	for _, xs := range pointLists() {
		for _, p := range valueLists(len(xs)) {
			got, ok := Through(f, xs, valuesOf(f, p, xs))
			if !ok || !bytes.Equal(got, p) {
				t.Errorf("Through %v, of %v: %v, %v", xs, p, got, ok)
			}
		}
		if len(xs) > 1 {
			p := room.Some(len(xs)/2, 5) // of fewer places: noughts are behind it
			got, ok := Through(f, xs, valuesOf(f, p, xs))
			if !ok || !bytes.Equal(got, append(p, make([]byte, len(xs)-len(p))...)) {
				t.Errorf("Through %v, of %v: %v, %v", xs, p, got, ok)
			}
		}
	}
}

func TestOneOtherValueIsAnotherPolynomial(t *testing.T) {
	f := gf.New()
	xs, ys := []byte{0, 1, 77, 255}, []byte{9, 0, 255, 1}
	p, _ := Through(f, xs, ys)
	for k := range ys {
		other := bytes.Clone(ys)
		other[k] ^= 1
		if q, ok := Through(f, xs, other); !ok || bytes.Equal(p, q) {
			t.Errorf("with another value at place %d: %v, %v", k, q, ok)
		}
	}
}

// The rules that hold everywhere, of each call.

func TestListsAreLeftAloneAndNotShared(t *testing.T) {
	f := gf.New()
	before := *f
	xs, wholeXs := room.Of(3, 0, 255)
	ys, wholeYs := room.Of(9, 1, 7)
	var answers [][]byte
	for range 2 {
		through, _ := Through(f, xs, ys)
		same, _ := Through(f, xs, xs)
		one, _ := Through(f, xs[:1], ys[:1])
		weights, _ := Weights(f, xs, 0)
		alone, _ := Weights(f, xs[:1], 3)
		answers = append(answers, through, same, one, weights, alone)
		At(f, xs, ys, 8)
		At(f, xs, ys[:2], 8)
	}
	if k := room.Shared(answers...); k >= 0 {
		t.Errorf("answer %d shares memory with one ahead of it", k)
	}
	if !wholeXs() || !wholeYs() {
		t.Error("a list that was handed in, or its spare room, was changed")
	}
	if *f != before {
		t.Error("the field was changed")
	}
}

func TestNoFieldEndsAndDoesNotPanic(t *testing.T) {
	for _, f := range []*gf.Field{nil, {}} {
		eachThrough(func(xs, ys []byte) {
			Through(f, xs, ys)
			for _, x := range []byte{0, 1, 255} {
				At(f, xs, ys, x)
				Weights(f, xs, x)
			}
		})
		for _, xs := range twiceLists() {
			Through(f, xs, xs)
			At(f, xs, xs, xs[0])
			Weights(f, xs, xs[0])
		}
	}
}
