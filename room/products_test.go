package room

import (
	"bytes"
	"testing"

	"sherd/gf"
	"sherd/lagr"
	"sherd/poly"
)

func TestProducts(t *testing.T) {
	f, all := gf.New(), NewProducts()
	for a := range 256 {
		for b := range 256 {
			a, b := byte(a), byte(b)
			if all[a][b] != f.Mul(a, b) {
				t.Fatalf("%d times %d: %d, want %d", a, b, all[a][b], f.Mul(a, b))
			}
			if all.Over(a, b) != f.Div(a, b) {
				t.Fatalf("%d over %d: %d, want %d", a, b, all.Over(a, b), f.Div(a, b))
			}
		}
	}
}

func TestDot(t *testing.T) {
	f, all := gf.New(), NewProducts()
	for n := range 20 {
		for m := range 20 {
			a, b := Some(n, n), Some(m, m+100)
			if got := all.Dot(a, b); got != f.Dot(a, b) {
				t.Errorf("Dot of %v and %v: %d, want %d", a, b, got, f.Dot(a, b))
			}
		}
	}
}

func TestWeights(t *testing.T) {
	f, all := gf.New(), NewProducts()
	for _, points := range [][]byte{nil, {0}, {9}, {0, 1}, {1, 0}, {7, 0, 255, 128, 27}, {1, 2, 3, 4, 5, 6, 7, 8, 9}} {
		for x := range 256 {
			want, _ := lagr.Weights(f, points, byte(x))
			if got := all.Weights(points, byte(x)); !bytes.Equal(got, want) {
				t.Fatalf("Weights of %v at %d: %v, want %v", points, x, got, want)
			}
		}
	}
}

func TestThrough(t *testing.T) {
	f, all := gf.New(), NewProducts()
	for _, points := range [][]byte{{0}, {9}, {1, 0}, {7, 0, 255, 128, 27}} {
		for size := range 4 {
			lists := Lists(len(points), size, 1)
			for x := range 256 {
				var want []byte
				for place := range size {
					var ys []byte
					for k := range points {
						ys = append(ys, lists[k][place])
					}
					value, _ := lagr.At(f, points, ys, byte(x))
					want = append(want, value)
				}
				if got := all.Through(points, lists, byte(x)); !bytes.Equal(got, want) {
					t.Fatalf("Through %v and %v at %d: %v, want %v", points, lists, x, got, want)
				}
			}
		}
	}
}

func TestRootAndValue(t *testing.T) {
	f, all := gf.New(), NewProducts()
	for n := range 20 {
		list := Some(n, n)
		root := poly.Root(f, list...)
		for x := range 256 {
			x := byte(x)
			if got := all.Root(list, x); got != poly.Eval(f, root, x) {
				t.Fatalf("Root of %v at %d: %d, want %d", list, x, got, poly.Eval(f, root, x))
			}
			if got := all.Value(list, x); got != poly.Eval(f, list, x) {
				t.Fatalf("Value of %v at %d: %d, want %d", list, x, got, poly.Eval(f, list, x))
			}
		}
	}
}
