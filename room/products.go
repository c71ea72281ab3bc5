package room

// Products is arithmetic of bytes by its words, without tables of logarithms: the product of a and b stands at [a][b].
type Products [256][256]byte

// NewProducts tells all products of two bytes: sums of one byte's multiples with x to some powers, less multiples of the modulus.
func NewProducts() *Products {
	all := &Products{}
	for a := range 256 {
		for b := range 256 {
			product := 0
			for k := range 8 {
				if b>>k&1 == 1 {
					product ^= a << k
				}
			}
			for k := 14; k >= 8; k-- {
				if product>>k&1 == 1 {
					product ^= 0x11b << (k - 8)
				}
			}
			all[a][b] = byte(product)
		}
	}
	return all
}

// Over tells a quotient, by trying all bytes; over 0: 0.
func (all *Products) Over(a, b byte) byte {
	for c, product := range all[b] {
		if product == a && b != 0 {
			return byte(c)
		}
	}
	return 0
}

// Dot tells the sum of the products of the bytes at the same places, as far as both lists go.
func (all *Products) Dot(a, b []byte) byte {
	sum := byte(0)
	for k := range min(len(a), len(b)) {
		sum ^= all[a[k]][b[k]]
	}
	return sum
}

// Weights tells what the values at some points, all unlike, count at another byte, by a quotient of two products.
func (all *Products) Weights(points []byte, x byte) []byte {
	list := make([]byte, len(points))
	for k, a := range points {
		up, down := byte(1), byte(1)
		for j, b := range points {
			if j != k {
				up, down = all[up][x^b], all[down][a^b]
			}
		}
		list[k] = all.Over(up, down)
	}
	return list
}

// Through tells the values at x of the polynomials through some points, all unlike: of each place the one with the lists' bytes at that place.
func (all *Products) Through(points []byte, lists [][]byte, x byte) []byte {
	weights := all.Weights(points, x)
	var values []byte
	for place := range lists[0] {
		var ys []byte
		for k := range points {
			ys = append(ys, lists[k][place])
		}
		values = append(values, all.Dot(weights, ys))
	}
	return values
}

// Root tells the value at x of the product of (x + c) for each c of some points.
func (all *Products) Root(points []byte, x byte) byte {
	root := byte(1)
	for _, c := range points {
		root = all[root][x^c]
	}
	return root
}

// Value tells that of a polynomial at x, by x's powers.
func (all *Products) Value(p []byte, x byte) byte {
	value, power := byte(0), byte(1)
	for _, c := range p {
		value, power = value^all[c][power], all[power][x]
	}
	return value
}
