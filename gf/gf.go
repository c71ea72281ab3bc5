// Package gf is layer 1, arithmetic of bytes: see shared/doc/01-gf.md.
package gf

// order is how many bytes there are but 0, which are all powers of the root.
const order = 255

// modulus is x^8 + x^4 + x^3 + x + 1, less x^8, which falls out of a byte by itself.
const modulus = 0x1b

// Field is the powers of the root, twice around, and of which power each byte is.
type Field struct {
	pow [2 * order]byte // twice, so that the sum of two logarithms is a place of it
	log [256]byte
}

// New makes a field.
func New() *Field {
	f := &Field{}
	p := byte(1)
	for k := range order {
		f.pow[k], f.pow[k+order] = p, p
		f.log[p] = byte(k)
		p = Add(p, timesX(p)) // the root is 3, which is x + 1
	}
	return f
}

// timesX tells the product with x, without tables, as they are made with it.
func timesX(a byte) byte {
	if a&0x80 != 0 {
		return a<<1 ^ modulus
	}
	return a << 1
}

// Add tells a sum.
func Add(a, b byte) byte {
	return a ^ b
}

// Mul tells a product.
func (f *Field) Mul(a, b byte) byte {
	if f == nil || a == 0 || b == 0 {
		return 0
	}
	return f.pow[int(f.log[a])+int(f.log[b])]
}

// Inv tells the inverse.
func (f *Field) Inv(a byte) byte {
	if f == nil || a == 0 {
		return 0
	}
	return f.pow[order-int(f.log[a])]
}

// Div tells a quotient.
func (f *Field) Div(a, b byte) byte {
	return f.Mul(a, f.Inv(b))
}

// Pow tells a power.
func (f *Field) Pow(a byte, n int) byte {
	switch {
	case f == nil:
		return 0
	case n == 0: // ahead of the next case: no byte 0 is taken
		return 1
	case a == 0:
		return 0
	}
	// n is cut down ahead of the product, which else could leave int's range.
	k := int(f.log[a]) * (n % order) % order
	if k < 0 {
		k += order
	}
	return f.pow[k]
}

// Dot tells the sum of products.
func (f *Field) Dot(a, b []byte) byte {
	return sumOf(f.Mul, a, b)
}

// sumOf tells the sum of what is told of the bytes at the same places, as far as both lists go.
func sumOf(tell func(a, b byte) byte, a, b []byte) byte {
	sum := byte(0)
	for k := range min(len(a), len(b)) {
		sum = Add(sum, tell(a[k], b[k]))
	}
	return sum
}
