package matrix

import (
	"bytes"
	"math"
	"slices"
	"testing"

	"sherd/gf"
	"sherd/lagr"
	"sherd/poly"
	"sherd/room"
)

// someMatrix is a matrix of some rows of a width, which hangs on seed.
func someMatrix(rows, wide, seed int) [][]byte {
	a := make([][]byte, rows)
	for i := range a {
		a[i] = room.Some(wide, seed*1000+i)
	}
	return a
}

// ones is the unit matrix of n rows, by its word.
func ones(n int) [][]byte {
	a := make([][]byte, n)
	for i := range a {
		a[i] = make([]byte, n)
		a[i][i] = 1
	}
	return a
}

// slowApply is the sum of the products, row by row.
func slowApply(f *gf.Field, a [][]byte, v []byte) []byte {
	sums := make([]byte, len(a))
	for i := range a {
		for k := range v {
			sums[i] ^= f.Mul(a[i][k], v[k])
		}
	}
	return sums
}

// slowMul is the product, place by place, of rows of a width.
func slowMul(f *gf.Field, a, b [][]byte, wide int) [][]byte {
	product := make([][]byte, len(a))
	for i := range a {
		product[i] = make([]byte, wide)
		for k := range wide {
			for j := range b {
				product[i][k] ^= f.Mul(a[i][j], b[j][k])
			}
		}
	}
	return product
}

// allBytes are all 256, in an order of their own.
func allBytes() []byte {
	all := make([]byte, 256)
	for k := range all {
		all[k] = byte(k*77 + 19) // 77 is odd: each byte comes once
	}
	return all
}

// ragged are lists of rows that are no matrix, whichever row is off, by however much.
func ragged() [][][]byte {
	return [][][]byte{
		{{1}, {}}, {{}, {1}}, {nil, {1}}, {{1, 2}, {3}}, {{1}, {2, 3}}, {{1, 2}, {3, 4}, {5}}, {{1, 2}, {3, 4}, {5, 6, 7}},
		{{1, 2}, {3}, {4, 5}}, {{1, 0, 0}, {0, 1}, {0, 0, 1}}, {{1, 0, 0}, {0, 1, 0, 0}, {0, 1}}, {{1, 0, 0}, {0, 1, 0}, nil},
		{{1, 0}, []byte{0, 1}[:1]}, {{}, {}, {}, {0}},
	}
}

// P4.1

func TestUnit(t *testing.T) {
	for _, c := range []struct{ n, rows int }{
		{0, 0}, {1, 1}, {2, 2}, {3, 3}, {17, 17}, {255, 255}, {256, 256}, // and the ends
		{257, 256}, {1000, 256}, {math.MaxInt32, 256}, {math.MaxInt, 256},
		{-1, 0}, {-256, 0}, {math.MinInt32, 0}, {math.MinInt, 0},
	} {
		if got := Unit(c.n); !room.Same(got, ones(c.rows)) {
			t.Errorf("Unit of %d: %d rows, %v", c.n, len(got), got)
		}
	}
	if got := Unit(3); !room.Same(got, [][]byte{{1, 0, 0}, {0, 1, 0}, {0, 0, 1}}) {
		t.Errorf("Unit of 3: %v", got)
	}
}

func TestApplyByHand(t *testing.T) {
	f := gf.New()
	for _, c := range []struct {
		name string
		a    [][]byte
		v    []byte
		want []byte
	}{
		{"one", [][]byte{{2}}, []byte{128}, []byte{27}},
		{"two by two", [][]byte{{0, 2}, {1, 0}}, []byte{3, 4}, []byte{8, 3}},
		{"more rows than places", [][]byte{{1, 2}, {0, 0}, {255, 1}}, []byte{4, 128}, []byte{31, 0, 128 ^ f.Mul(255, 4)}},
		{"more places than rows", [][]byte{{1, 1, 1, 1}}, []byte{1, 2, 4, 8}, []byte{15}},
		{"the same twice", [][]byte{{7, 7}, {7, 7}}, []byte{9, 9}, []byte{0, 0}},
		{"no row", nil, []byte{1, 2}, nil},
		{"an empty list of rows", [][]byte{}, []byte{1, 2}, nil},
		{"no row, no byte", nil, nil, nil},
		{"rows of no byte", [][]byte{{}, nil, {}}, nil, []byte{0, 0, 0}},
		{"rows of no byte, an empty list", [][]byte{nil, {}}, []byte{}, []byte{0, 0}},
	} {
		if got, ok := Apply(f, c.a, c.v); !ok || !bytes.Equal(got, c.want) {
			t.Errorf("Apply, %s: %v, %v, want %v", c.name, got, ok, c.want)
		}
	}
}

func TestApplyOfAllSizes(t *testing.T) {
	f := gf.New()
	for _, rows := range []int{0, 1, 2, 5, 40, 300} {
		for _, wide := range []int{0, 1, 3, 40, 300} {
			a, v := someMatrix(rows, wide, 1), room.Some(wide, 2)
			if got, ok := Apply(f, a, v); !ok || !bytes.Equal(got, slowApply(f, a, v)) {
				t.Errorf("Apply of %d rows of %d: %v, %v", rows, wide, got, ok)
			}
		}
	}
}

func TestApplyOfRowsThatDoNotFit(t *testing.T) {
	f := gf.New()
	for _, c := range []struct {
		a [][]byte
		v []byte
	}{
		{[][]byte{{1}}, nil}, {[][]byte{{1}}, []byte{}}, {[][]byte{{}}, []byte{0}}, {[][]byte{nil}, []byte{0}},
		{[][]byte{{1, 2}}, []byte{3}}, {[][]byte{{1}}, []byte{3, 4}}, {someMatrix(3, 257, 1), []byte{1}},
		{[][]byte{{1, 2}, {3, 4}}, []byte{1, 2, 0}}, {[][]byte{{1, 2}, {3, 4}}, []byte{1, 2, 3}[:1]},
	} {
		if got, ok := Apply(f, c.a, c.v); ok || len(got) != 0 {
			t.Errorf("Apply of %v to %v: %v, %v", c.a, c.v, got, ok)
		}
	}
	for _, a := range ragged() {
		for n := range 5 {
			if got, ok := Apply(f, a, make([]byte, n)); ok || len(got) != 0 {
				t.Errorf("Apply of %v to %d bytes: %v, %v", a, n, got, ok)
			}
		}
	}
}

// P4.2

func TestMulByHand(t *testing.T) {
	f := gf.New()
	for _, c := range []struct {
		name       string
		a, b, want [][]byte
	}{
		{"one", [][]byte{{2}}, [][]byte{{128}}, [][]byte{{27}}},
		{"two by two", [][]byte{{0, 2}, {1, 0}}, [][]byte{{3, 4}, {5, 6}}, [][]byte{{10, 12}, {3, 4}}},
		{"the other order", [][]byte{{3, 4}, {5, 6}}, [][]byte{{0, 2}, {1, 0}}, [][]byte{{4, 6}, {6, 10}}},
		{"a row and a column", [][]byte{{1, 2}}, [][]byte{{4}, {128}}, [][]byte{{31}}},
		{"a column and a row", [][]byte{{4}, {128}}, [][]byte{{1, 2}}, [][]byte{{4, 8}, {128, 27}}},
		{"more columns", [][]byte{{1, 1}, {0, 1}, {2, 0}}, [][]byte{{1, 2, 3, 4}, {5, 6, 7, 8}}, [][]byte{{4, 4, 4, 12}, {5, 6, 7, 8}, {2, 4, 6, 8}}},
		{"no row ahead", nil, [][]byte{{1, 2}}, nil},
		{"no row ahead, rows of no byte behind", nil, [][]byte{{}, {}}, nil},
		{"no row behind", [][]byte{{}, nil, {}}, nil, [][]byte{{}, {}, {}}},
		{"an empty list behind", [][]byte{{}}, [][]byte{}, [][]byte{{}}},
		{"no row at all", nil, nil, nil},
		{"rows of no byte behind", [][]byte{{1, 2, 3}, {4, 5, 6}}, [][]byte{{}, nil, {}}, [][]byte{{}, {}}},
	} {
		if got, ok := Mul(f, c.a, c.b); !ok || !room.Same(got, c.want) {
			t.Errorf("Mul, %s: %v, %v, want %v", c.name, got, ok, c.want)
		}
	}
}

func TestMulOfAllSizes(t *testing.T) {
	f := gf.New()
	for _, rows := range []int{0, 1, 2, 7, 40, 257} {
		for _, inner := range []int{0, 1, 3, 40, 257} {
			for _, wide := range []int{0, 1, 2, 9, 40} {
				a, b := someMatrix(rows, inner, 3), someMatrix(inner, wide, 4)
				if inner == 0 { // of no row nobody knows how wide it is
					wide = 0
				}
				if got, ok := Mul(f, a, b); !ok || !room.Same(got, slowMul(f, a, b, wide)) {
					t.Errorf("Mul of %d rows of %d and rows of %d: %v", rows, inner, wide, ok)
				}
			}
		}
	}
}

func TestMulIsApplyTwice(t *testing.T) {
	f := gf.New()
	a, b, v := someMatrix(4, 6, 5), someMatrix(6, 5, 6), room.Some(5, 7)
	product, ok := Mul(f, a, b)
	inner, _ := Apply(f, b, v)
	want, _ := Apply(f, a, inner)
	if got, _ := Apply(f, product, v); !ok || !bytes.Equal(got, want) {
		t.Errorf("the product tells %v, and one behind the other %v", got, want)
	}
}

func TestMulWithUnit(t *testing.T) {
	f := gf.New()
	for _, c := range []struct{ rows, wide int }{{1, 1}, {1, 5}, {5, 1}, {4, 6}, {256, 3}, {3, 256}} {
		a := someMatrix(c.rows, c.wide, 8)
		if got, ok := Mul(f, Unit(c.rows), a); !ok || !room.Same(got, a) {
			t.Errorf("Unit times %d rows of %d: %v, %v", c.rows, c.wide, got, ok)
		}
		if got, ok := Mul(f, a, Unit(c.wide)); !ok || !room.Same(got, a) {
			t.Errorf("%d rows of %d times Unit: %v, %v", c.rows, c.wide, got, ok)
		}
	}
}

func TestMulOfRowsThatDoNotFit(t *testing.T) {
	f := gf.New()
	for _, c := range []struct{ a, b [][]byte }{
		{[][]byte{{1}}, nil}, {[][]byte{{1}}, [][]byte{{1}, {2}}}, {[][]byte{{1, 2}}, [][]byte{{1}}},
		{[][]byte{{}}, [][]byte{{1}}}, {[][]byte{nil}, [][]byte{{1, 2}}},
		{[][]byte{{1}}, [][]byte{{}, {}}}, {[][]byte{{}}, [][]byte{{}}}, {[][]byte{{1}, {2}}, [][]byte{}},
		{[][]byte{{1, 2}, {3}}, [][]byte{{1, 2}, {3, 4}}}, {[][]byte{{1}, {2, 3}}, [][]byte{{1, 2}, {3, 4}}},
		{[][]byte{{1, 2}, {3, 4, 5}}, [][]byte{{}, {}}}, {[][]byte{{}, {1}}, nil},
		{[][]byte{{1, 2, 3}, {4, 5, 6}}, [][]byte{{1, 2, 3}, {4, 5, 6}}},
	} {
		if got, ok := Mul(f, c.a, c.b); ok || len(got) != 0 {
			t.Errorf("Mul of %v and %v: %v, %v", c.a, c.b, got, ok)
		}
	}
}

func TestMulOfNoMatrix(t *testing.T) {
	f := gf.New()
	for _, b := range ragged() {
		for _, a := range [][][]byte{nil, {}, ones(len(b)), someMatrix(1, len(b), 9), b} { // of no row ahead, too
			if got, ok := Mul(f, a, b); ok || len(got) != 0 {
				t.Errorf("Mul of %v and %v: %v, %v", a, b, got, ok)
			}
		}
		for wide := range 5 {
			if got, ok := Mul(f, b, someMatrix(wide, 2, 9)); ok || len(got) != 0 {
				t.Errorf("Mul of %v and %d rows: %v, %v", b, wide, got, ok)
			}
		}
	}
}

// P4.3

func TestInverseByHand(t *testing.T) {
	f := gf.New()
	for _, c := range []struct {
		name    string
		a, want [][]byte
	}{
		{"the document's example", [][]byte{{1, 1}, {0, 1}}, [][]byte{{1, 1}, {0, 1}}},
		{"one", [][]byte{{2}}, [][]byte{{141}}},
		{"a nought ahead", [][]byte{{0, 2}, {1, 0}}, [][]byte{{0, 1}, {141, 0}}},
		{"rows turned", [][]byte{{0, 1, 0}, {0, 0, 1}, {1, 0, 0}}, [][]byte{{0, 0, 1}, {1, 0, 0}, {0, 1, 0}}},
		{"below", [][]byte{{1, 0}, {9, 1}}, [][]byte{{1, 0}, {9, 1}}},
		{"alone by alone", [][]byte{{2, 0}, {0, 3}}, [][]byte{{141, 0}, {0, f.Inv(3)}}},
		{"a nought that comes on the way", [][]byte{{1, 1, 0}, {1, 1, 1}, {0, 1, 0}}, [][]byte{{1, 0, 1}, {0, 0, 1}, {1, 1, 0}}},
		{"no row", nil, nil},
		{"an empty list of rows", [][]byte{}, nil},
	} {
		if got, ok := Inverse(f, c.a); !ok || !room.Same(got, c.want) {
			t.Errorf("Inverse, %s: %v, %v, want %v", c.name, got, ok, c.want)
		}
	}
}

// isInverse tells whether both products are the unit.
func isInverse(f *gf.Field, a, b [][]byte) bool {
	unit := ones(len(a))
	return len(b) == len(a) && room.Same(slowMul(f, a, b, len(a)), unit) && room.Same(slowMul(f, b, a, len(a)), unit)
}

// below3 is the matrix of some rows whose numbers of base 3 tell n.
func below3(rows, n int) [][]byte {
	a := make([][]byte, rows)
	for i := range a {
		a[i] = make([]byte, rows)
		for k := range a[i] {
			a[i][k] = byte(n % 3)
			n /= 3
		}
	}
	return a
}

// determinant is the sum of the products of one byte of each row and column.
func determinant(f *gf.Field, a [][]byte) byte {
	if len(a) == 0 {
		return 1
	}
	sum := byte(0)
	for c, first := range a[0] {
		var rest [][]byte
		for _, row := range a[1:] {
			rest = append(rest, slices.Concat(row[:c], row[c+1:]))
		}
		sum ^= f.Mul(first, determinant(f, rest))
	}
	return sum
}

func TestInverseOfAllSmallOnes(t *testing.T) {
	f := gf.New()
	for rows, most := range []int{1, 3, 81, 19683} { // 3 to the rows times rows
		for n := range most {
			a := below3(rows, n)
			got, ok := Inverse(f, a)
			if want := determinant(f, a) != 0; ok != want {
				t.Fatalf("Inverse of %v: %v, want %v", a, ok, want)
			}
			if ok && !isInverse(f, a, got) || !ok && len(got) != 0 {
				t.Errorf("Inverse of %v: %v", a, got)
			}
		}
	}
}

func TestInverseOfOneByte(t *testing.T) {
	f := gf.New()
	for b := range 256 {
		got, ok := Inverse(f, [][]byte{{byte(b)}})
		if b == 0 && (ok || len(got) != 0) {
			t.Errorf("Inverse of 0: %v, %v", got, ok)
		}
		if b != 0 && (!ok || !room.Same(got, [][]byte{{f.Inv(byte(b))}})) {
			t.Errorf("Inverse of %d: %v, %v", b, got, ok)
		}
	}
}

// solid is a matrix that has an inverse: what is on and below the middle times what is on and above it, its rows turned.
func solid(f *gf.Field, rows, seed int) [][]byte {
	lower, upper := someMatrix(rows, rows, seed), someMatrix(rows, rows, seed+1)
	for i := range rows {
		lower[i][i], upper[i][i] = 1, byte(1+(i*7+seed)%255)
		clear(lower[i][i+1:])
		clear(upper[i][:i])
	}
	a := slowMul(f, lower, upper, rows)
	slices.Reverse(a)
	return a
}

func TestInverseOfGreaterOnes(t *testing.T) {
	f := gf.New()
	for _, rows := range []int{4, 5, 16, 31, 100, 255, 256, 257, 300} { // above 256 too, where Unit ends
		a := solid(f, rows, rows)
		got, ok := Inverse(f, a)
		if !ok || !isInverse(f, a, got) {
			t.Fatalf("Inverse of %d rows: %v", rows, ok)
		}
		if back, ok := Inverse(f, got); !ok || !room.Same(back, a) {
			t.Errorf("Inverse of the Inverse of %d rows: %v", rows, ok)
		}
	}
}

func TestInverseOfUnitIsItself(t *testing.T) {
	f := gf.New()
	for _, n := range []int{0, 1, 2, 9, 255, 256, 257} {
		if got, ok := Inverse(f, ones(n)); !ok || !room.Same(got, ones(n)) {
			t.Errorf("Inverse of Unit of %d: %v", n, ok)
		}
	}
}

func TestThereIsNoInverse(t *testing.T) {
	f := gf.New()
	for _, rows := range []int{2, 3, 8, 40, 257} {
		for _, k := range []int{0, rows / 2, rows - 1} {
			noughts, twice, multiple, sum, column := solid(f, rows, 1), solid(f, rows, 2), solid(f, rows, 3), solid(f, rows, 4), solid(f, rows, 5)
			other := (k + 1) % rows
			clear(noughts[k])
			twice[k] = twice[other]
			multiple[k] = poly.Scale(f, multiple[other], 7)
			sum[k] = make([]byte, rows)
			for i := range rows {
				if i != k {
					sum[k] = poly.Sum(sum[k], poly.Scale(f, sum[i], byte(i+2)))
				}
				column[i][k] = 0
			}
			for name, a := range map[string][][]byte{"noughts": noughts, "twice": twice, "multiple": multiple, "sum": sum, "column": column} {
				if got, ok := Inverse(f, a); ok || len(got) != 0 {
					t.Errorf("Inverse of %d rows, %s at %d: %v, %v", rows, name, k, got, ok)
				}
			}
		}
	}
}

func TestInverseOfWhatIsNotSquare(t *testing.T) {
	f := gf.New()
	for _, a := range append(ragged(), [][][]byte{
		{{}}, {nil}, {{}, {}}, {{1, 2}}, {{1}, {2}}, {{1, 0, 0}, {0, 1, 0}}, {{1, 0}, {0, 1}, {1, 1}},
		{{1, 0, 0}, {0, 1}, {0, 0, 1, 0}}, {{1, 0}, {0, 1, 0}}, {{1, 0, 0}, {0, 1}}, ones(300)[:299], ones(300)[1:],
		someMatrix(2, 257, 1), someMatrix(257, 256, 1),
	}...) {
		if got, ok := Inverse(f, a); ok || len(got) != 0 {
			t.Errorf("Inverse of %d rows, %v: %v, %v", len(a), a, got, ok)
		}
	}
}

// P4.4

func TestPowersByHand(t *testing.T) {
	f := gf.New()
	for _, c := range []struct {
		xs   []byte
		n    int
		want [][]byte
	}{
		{[]byte{2, 0}, 3, [][]byte{{1, 2, 4}, {1, 0, 0}}},
		{[]byte{2}, 9, [][]byte{{1, 2, 4, 8, 16, 32, 64, 128, 27}}},
		{[]byte{0, 1, 0}, 1, [][]byte{{1}, {1}, {1}}},
		{[]byte{1, 1}, 4, [][]byte{{1, 1, 1, 1}, {1, 1, 1, 1}}},
		{[]byte{255, 3}, 2, [][]byte{{1, 255}, {1, 3}}},
		{[]byte{5, 6, 7}, 0, [][]byte{{}, {}, {}}}, // a row for each byte, of no power
		{[]byte{5, 6, 7}, -1, [][]byte{{}, {}, {}}},
		{[]byte{5, 6}, math.MinInt, [][]byte{{}, {}}},
		{nil, 3, nil}, {[]byte{}, 3, nil}, {nil, 0, nil}, {nil, -1, nil}, {nil, math.MaxInt, nil},
	} {
		if got := Powers(f, c.xs, c.n); !room.Same(got, c.want) {
			t.Errorf("Powers of %v, %d: %v, want %v", c.xs, c.n, got, c.want)
		}
	}
}

func TestPowersOfAllBytes(t *testing.T) {
	f := gf.New()
	all := append(allBytes(), 0, 0, 255) // more than there are, and some twice
	for _, c := range []struct{ n, wide int }{
		{1, 1}, {2, 2}, {17, 17}, {255, 255}, {256, 256}, {257, 256}, {1000, 256}, {math.MaxInt32, 256}, {math.MaxInt, 256},
	} {
		got := Powers(f, all, c.n)
		if len(got) != len(all) {
			t.Fatalf("Powers of %d bytes: %d rows", len(all), len(got))
		}
		for i, x := range all {
			power := byte(1)
			if len(got[i]) != c.wide {
				t.Fatalf("Powers of %d, %d: %d places", x, c.n, len(got[i]))
			}
			for k := range c.wide {
				if got[i][k] != power {
					t.Errorf("Powers of %d: %d at place %d, want %d", x, got[i][k], k, power)
				}
				power = f.Mul(power, x)
			}
		}
	}
}

func TestPowersApplyTellsValues(t *testing.T) {
	f := gf.New()
	xs, p := allBytes(), room.Some(40, 11)
	values, ok := Apply(f, Powers(f, xs, len(p)), p)
	for i, x := range xs {
		if !ok || values[i] != poly.Eval(f, p, x) {
			t.Errorf("at %d the powers tell %d, %v", x, values[i], ok)
		}
	}
}

func TestInverseOfPowersTellsThePolynomial(t *testing.T) {
	f := gf.New()
	all := allBytes()
	for _, xs := range [][]byte{
		nil, {0}, {1}, {255}, {0, 1}, {1, 0}, {1, 2, 3}, {7, 0, 255, 128, 27}, {254, 255}, all[:17], all[:40], all[:255], all,
	} {
		inverse, ok := Inverse(f, Powers(f, xs, len(xs)))
		if !ok {
			t.Fatalf("Powers of %v have no Inverse", xs)
		}
		for _, ys := range [][]byte{make([]byte, len(xs)), room.Some(len(xs), 12), bytes.Repeat([]byte{255}, len(xs))} {
			want, _ := lagr.Through(f, xs, ys)
			if got, ok := Apply(f, inverse, ys); !ok || !bytes.Equal(got, want) {
				t.Errorf("through %v with %v: %v, %v, want %v", xs, ys, got, ok, want)
			}
		}
	}
}

func TestPowersOfTheSameTwiceHaveNoInverse(t *testing.T) {
	f := gf.New()
	all := allBytes()
	for _, xs := range [][]byte{
		{0, 0}, {255, 255}, {3, 4, 3}, {3, 3, 4}, {4, 3, 3}, {0, 1, 2, 0}, append(slices.Clone(all[:200]), all[77]),
		append(slices.Clone(all[:255]), all[254]), append(slices.Clone(all), all[0]), make([]byte, 300), // above 256 bytes two are the same
	} {
		if got, ok := Inverse(f, Powers(f, xs, len(xs))); ok || len(got) != 0 {
			t.Errorf("Inverse of Powers of %v: %v, %v", xs, got, ok)
		}
	}
}

// The rules that hold everywhere, of each call.

func TestMatricesAreLeftAlone(t *testing.T) {
	f := gf.New()
	before := *f
	a, wholeA := room.Rows([]byte{0, 2, 3}, []byte{4, 0, 6}, []byte{7, 8, 9})
	b, wholeB := room.Rows([]byte{1, 2}, []byte{3, 4}, []byte{5, 6})
	flat, wholeFlat := room.Rows([]byte{1, 2}, []byte{2, 4})
	rough, wholeRough := room.Rows([]byte{1, 2}, []byte{3})
	v, wholeV := room.Of(9, 1, 7)
	Apply(f, a, v)
	Apply(f, b, v)
	Mul(f, a, b)
	Mul(f, b, a)
	Mul(f, a, a)
	Mul(f, flat, rough)
	Inverse(f, flat)
	Inverse(f, rough)
	Inverse(f, b)
	if _, ok := Inverse(f, a); !ok {
		t.Error("no Inverse")
	}
	Powers(f, v, 3)
	if !wholeA() || !wholeB() || !wholeFlat() || !wholeRough() || !wholeV() {
		t.Error("a list that was handed in, or its spare room, was changed")
	}
	if *f != before {
		t.Error("the field was changed")
	}
}

func TestAnswersShareNoMemory(t *testing.T) {
	f := gf.New()
	a, b, v := [][]byte{{0, 2}, {3, 4}}, [][]byte{{1, 0}, {0, 1}}, []byte{5, 6}
	rows := slices.Concat(a, b, [][]byte{v})
	for range 2 {
		product, _ := Mul(f, a, b)
		other, _ := Mul(f, b, a)
		inverse, _ := Inverse(f, a)
		itself, _ := Inverse(f, b)
		sums, _ := Apply(f, b, v)
		alone, _ := Apply(f, a[:1], v)
		rows = slices.Concat(rows, product, other, inverse, itself, Unit(2), Unit(3), Powers(f, v, 2), Powers(f, v, 1), [][]byte{sums, alone})
	}
	if k := room.Shared(rows...); k >= 0 {
		t.Errorf("row %d shares memory with one ahead of it", k)
	}
}

func TestListsOfRowsAreNotShared(t *testing.T) {
	f := gf.New()
	a := [][]byte{{1, 0}, {0, 1}}
	unit, powers := Unit(2), Powers(f, []byte{1, 0}, 2)
	product, _ := Mul(f, a, a)
	inverse, _ := Inverse(f, a)
	for _, rows := range [][][]byte{unit, powers, product, inverse} {
		clear(rows[:cap(rows)])
	}
	again, _ := Mul(f, a, a)
	back, _ := Inverse(f, a)
	if !room.Same(a, ones(2)) || !room.Same(again, ones(2)) || !room.Same(back, ones(2)) || !room.Same(Unit(2), ones(2)) {
		t.Error("a list of rows that was handed out is another one's too")
	}
	if !room.Same(Powers(f, []byte{1, 0}, 2), [][]byte{{1, 1}, {1, 0}}) {
		t.Error("Powers hands out what it keeps")
	}
}

func TestOneRowHandedInTwice(t *testing.T) {
	f := gf.New()
	row := []byte{1, 2}
	a := [][]byte{row, row}
	if got, ok := Mul(f, a, a); !ok || !room.Same(got, slowMul(f, a, a, 2)) {
		t.Errorf("Mul: %v, %v", got, ok)
	}
	if got, ok := Apply(f, a, row); !ok || !bytes.Equal(got, slowApply(f, a, row)) {
		t.Errorf("Apply: %v, %v", got, ok)
	}
	if got, ok := Inverse(f, a); ok || len(got) != 0 || !bytes.Equal(row, []byte{1, 2}) {
		t.Errorf("Inverse: %v, %v, of %v", got, ok, row)
	}
}

func TestNoFieldEndsAndDoesNotPanic(t *testing.T) {
	for _, f := range []*gf.Field{nil, {}} {
		for _, a := range append(ragged(), nil, ones(3), someMatrix(4, 4, 13), someMatrix(2, 5, 14), [][]byte{{}, nil}) {
			Apply(f, a, nil)
			Apply(f, a, []byte{1, 2, 3})
			Mul(f, a, a)
			Mul(f, a, nil)
			Mul(f, nil, a)
			Inverse(f, a)
		}
		Powers(f, []byte{0, 1, 255}, 300)
		Powers(f, nil, math.MinInt)
	}
}
