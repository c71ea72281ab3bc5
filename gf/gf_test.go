package gf

import (
	"bytes"
	"math"
	"testing"
)

// slowMul is the product by the document's words: polynomials over 0 and 1, modulo 0x11B.
func slowMul(a, b byte) byte {
	product := 0
	for k := range 8 {
		if b>>k&1 == 1 {
			product ^= int(a) << k
		}
	}
	for k := 14; k >= 8; k-- {
		if product>>k&1 == 1 {
			product ^= 0x11b << (k - 8)
		}
	}
	return byte(product)
}

// slowInv is the byte whose product with a is 1, looked for among all.
func slowInv(a byte) byte {
	for x := range 256 {
		if slowMul(a, byte(x)) == 1 {
			return byte(x)
		}
	}
	return 0
}

// slowPow is n products, one behind the other.
func slowPow(a byte, n int) byte {
	if n < 0 {
		a, n = slowInv(a), -n
	}
	p := byte(1)
	for range n {
		p = slowMul(p, a)
	}
	return p
}

// eachPair calls check with all pairs of bytes.
func eachPair(check func(a, b byte)) {
	for a := range 256 {
		for b := range 256 {
			check(byte(a), byte(b))
		}
	}
}

// P1.1

func TestAddIsBitByBit(t *testing.T) {
	eachPair(func(a, b byte) {
		if got := Add(a, b); got != (a|b)&^(a&b) {
			t.Errorf("Add(%d, %d) = %d", a, b, got)
		}
	})
}

func TestMulOfAllPairs(t *testing.T) {
	f := New()
	eachPair(func(a, b byte) {
		if got, want := f.Mul(a, b), slowMul(a, b); got != want {
			t.Errorf("Mul(%d, %d) = %d, want %d", a, b, got, want)
		}
	})
}

func TestInvOfAllBytes(t *testing.T) {
	f := New()
	for a := range 256 {
		if got, want := f.Inv(byte(a)), slowInv(byte(a)); got != want {
			t.Errorf("Inv(%d) = %d, want %d", a, got, want)
		}
	}
	if got := f.Inv(0); got != 0 {
		t.Errorf("Inv(0) = %d", got)
	}
}

func TestDivOfAllPairs(t *testing.T) {
	f := New()
	var inverse [256]byte
	for a := range 256 {
		inverse[a] = slowInv(byte(a))
	}
	eachPair(func(a, b byte) {
		if got, want := f.Div(a, b), slowMul(a, inverse[b]); got != want {
			t.Errorf("Div(%d, %d) = %d, want %d", a, b, got, want)
		}
	})
}

func TestDivByZeroIsZero(t *testing.T) {
	f := New()
	for a := range 256 {
		if got := f.Div(byte(a), 0); got != 0 {
			t.Errorf("Div(%d, 0) = %d", a, got)
		}
	}
}

func TestExamplesOfTheDocument(t *testing.T) {
	f := New()
	if got := f.Mul(2, 128); got != 27 {
		t.Errorf("Mul(2, 128) = %d", got)
	}
	if got := f.Inv(2); got != 141 {
		t.Errorf("Inv(2) = %d", got)
	}
}

// P1.2

func TestPowOfAllBytes(t *testing.T) {
	f := New()
	for a := range 256 {
		for n := -258; n <= 258; n++ {
			if got, want := f.Pow(byte(a), n), slowPow(byte(a), n); got != want {
				t.Errorf("Pow(%d, %d) = %d, want %d", a, n, got, want)
			}
		}
	}
}

func TestPowOfZero(t *testing.T) {
	f := New()
	for _, c := range []struct {
		n    int
		want byte
	}{
		{0, 1}, {1, 0}, {255, 0}, {510, 0}, {-1, 0}, {-255, 0}, {math.MaxInt, 0}, {math.MinInt, 0},
	} {
		if got := f.Pow(0, c.n); got != c.want {
			t.Errorf("Pow(0, %d) = %d, want %d", c.n, got, c.want)
		}
	}
}

// 256 leaves 1 by 255, so 2^31 and 2^63 both leave 128: the test holds for ints of 32 and of 64 bits.
func TestPowOfLeastAndGreatestInt(t *testing.T) {
	f := New()
	for a := 1; a < 256; a++ {
		if got, want := f.Pow(byte(a), math.MaxInt), slowPow(byte(a), 127); got != want {
			t.Errorf("Pow(%d, MaxInt) = %d, want %d", a, got, want)
		}
		if got, want := f.Pow(byte(a), math.MaxInt-1), slowPow(byte(a), 126); got != want {
			t.Errorf("Pow(%d, MaxInt-1) = %d, want %d", a, got, want)
		}
		if got, want := f.Pow(byte(a), math.MinInt), slowPow(byte(a), -128); got != want {
			t.Errorf("Pow(%d, MinInt) = %d, want %d", a, got, want)
		}
		if got, want := f.Pow(byte(a), math.MinInt+1), slowPow(byte(a), -127); got != want {
			t.Errorf("Pow(%d, MinInt+1) = %d, want %d", a, got, want)
		}
	}
}

func TestDot(t *testing.T) {
	f := New()
	all := make([]byte, 256)
	back := make([]byte, 256)
	sum := byte(0)
	for k := range 256 {
		all[k], back[k] = byte(k), byte(255-k)
		sum ^= slowMul(byte(k), byte(255-k))
	}
	for _, c := range []struct {
		name string
		a, b []byte
		want byte
	}{
		{"one", []byte{2}, []byte{128}, 27},
		{"two", []byte{1, 2}, []byte{4, 128}, 31},
		{"the first is longer", []byte{1, 2, 3}, []byte{4, 128}, 31},
		{"the second is longer", []byte{4, 128}, []byte{1, 2, 3}, 31},
		{"noughts", []byte{0, 7, 0}, []byte{9, 0, 0}, 0},
		{"the same twice", []byte{5, 5}, []byte{6, 6}, 0},
		{"empty and full", []byte{}, []byte{1, 2}, 0},
		{"full and empty", []byte{1, 2}, []byte{}, 0},
		{"empty", []byte{}, []byte{}, 0},
		{"nil and full", nil, []byte{1, 2}, 0},
		{"full and nil", []byte{1, 2}, nil, 0},
		{"nil", nil, nil, 0},
		{"long", all, back, sum},
	} {
		if got := f.Dot(c.a, c.b); got != c.want {
			t.Errorf("Dot, %s: %d, want %d", c.name, got, c.want)
		}
	}
}

func TestDotLeavesItsListsAlone(t *testing.T) {
	f := New()
	a, b := []byte{1, 2, 3, 4}, []byte{5, 6, 7, 8}
	f.Dot(a[:2], b[:3])
	if !bytes.Equal(a, []byte{1, 2, 3, 4}) || !bytes.Equal(b, []byte{5, 6, 7, 8}) {
		t.Errorf("the lists are %v and %v", a, b)
	}
	if got := f.Dot(a[:2], b[:3]); got != slowMul(1, 5)^slowMul(2, 6) {
		t.Errorf("what is behind a list's end was looked at: %d", got)
	}
}

func TestFieldsAreAlikeAndStaySo(t *testing.T) {
	f, g := New(), New()
	if f == g {
		t.Error("New told the same field twice")
	}
	f.Mul(3, 4)
	f.Pow(7, -9)
	f.Dot([]byte{1, 2}, []byte{3, 4})
	if *f != *g {
		t.Error("two fields differ")
	}
}

// P1.3

func TestNilField(t *testing.T) {
	var f *Field
	eachPair(func(a, b byte) {
		if f.Mul(a, b) != 0 || f.Div(a, b) != 0 {
			t.Errorf("Mul, Div of nil: %d, %d", a, b)
		}
	})
	for a := range 256 {
		if f.Inv(byte(a)) != 0 {
			t.Errorf("Inv of nil: %d", a)
		}
		for _, n := range []int{0, 1, -1, 2, 255, -255, math.MaxInt, math.MinInt} {
			if f.Pow(byte(a), n) != 0 {
				t.Errorf("Pow of nil: %d, %d", a, n)
			}
		}
	}
	if f.Dot([]byte{1, 2}, []byte{3, 4}) != 0 || f.Dot([]byte{1}, []byte{1}) != 0 || f.Dot(nil, nil) != 0 {
		t.Error("Dot of nil")
	}
	if Add(5, 3) != 6 {
		t.Error("Add hangs on no field")
	}
}
