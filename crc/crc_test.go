package crc

import (
	"bytes"
	"hash/crc32"
	"slices"
	"testing"

	"sherd/room"
)

// lists are bytes of all kinds of lengths, with noughts and full bytes ahead, between and behind.
func lists() [][]byte {
	all := [][]byte{
		nil, {}, {0}, {1}, {127}, {128}, {255}, {0, 0}, {0, 1}, {1, 0}, {0, 0, 0}, {0, 0, 0, 0}, {255, 255, 255, 255},
		{0, 0, 0, 0, 0}, {7, 0, 0, 0, 0, 9}, []byte("123456789"), make([]byte, 300), bytes.Repeat([]byte{255}, 300),
	}
	for _, n := range []int{3, 4, 5, 7, 8, 9, 48, 59, 60, 61, 64, 240, 255, 256, 257, 600, 5000} {
		all = append(all, room.Some(n, n))
	}
	return all
}

// behind is a list with some bytes more.
func behind(list []byte, more ...byte) []byte {
	return slices.Concat(list, more)
}

// P5.1

func TestSumOfKnownTexts(t *testing.T) {
	c := New()
	rising := make([]byte, 256)
	for k := range rising {
		rising[k] = byte(k)
	}
	for _, test := range []struct {
		b    []byte
		want uint32
	}{
		{[]byte("123456789"), 3421780262}, {nil, 0}, {[]byte{}, 0}, {[]byte("a"), 0xE8B7BE43}, {[]byte("abc"), 0x352441C2},
		{[]byte("The quick brown fox jumps over the lazy dog"), 0x414FA339}, {[]byte{0}, 0xD202EF8D}, {[]byte{255}, 0xFF000000},
		{make([]byte, 4), 0x2144DF1C}, {bytes.Repeat([]byte{255}, 4), 0xFFFFFFFF}, {make([]byte, 32), 0x190A55AD},
		{bytes.Repeat([]byte{255}, 32), 0xFF6CAB0B}, {rising, 0x29058C73},
	} {
		if got := c.Sum(test.b); got != test.want {
			t.Errorf("Sum of %q: %#x, want %#x", test.b, got, test.want)
		}
	}
}

func TestSumOfAllBytesAndPairs(t *testing.T) {
	c := New()
	for a := range 256 {
		if got, want := c.Sum([]byte{byte(a)}), room.Sum([]byte{byte(a)}); got != want {
			t.Errorf("Sum of %d: %#x, want %#x", a, got, want)
		}
		for b := range 256 {
			two := []byte{byte(a), byte(b)}
			if got, want := c.Sum(two), room.Sum(two); got != want {
				t.Errorf("Sum of %v: %#x, want %#x", two, got, want)
			}
		}
	}
}

func TestSumOfAllLengths(t *testing.T) {
	c := New()
	for n := range 700 {
		for seed := range 3 {
			b := room.Some(n, seed*1000+n)
			if got, want := c.Sum(b), room.Sum(b); got != want || got != crc32.ChecksumIEEE(b) {
				t.Errorf("Sum of %d bytes: %#x, want %#x", n, got, want)
			}
		}
	}
	long := room.Some(1<<20+3, 9)
	if got, want := c.Sum(long), crc32.ChecksumIEEE(long); got != want {
		t.Errorf("Sum of a long list: %#x, want %#x", got, want)
	}
}

func TestSumOfParts(t *testing.T) {
	c := New()
	for _, b := range [][]byte{nil, {7}, {0, 0, 0}, []byte("123456789"), room.Some(40, 1)} {
		want := room.Sum(b)
		for i := range len(b) + 1 {
			for k := i; k <= len(b); k++ {
				if got := c.Sum(b[:i], b[i:k], b[k:]); got != want {
					t.Errorf("Sum of %v in parts of %d, %d and %d: %#x, want %#x", b, i, k-i, len(b)-k, got, want)
				}
				if got := c.Sum(nil, b[:i], []byte{}, nil, b[i:k], nil, b[k:], []byte{}); got != want {
					t.Errorf("Sum of %v in parts of %d, %d and %d, and empty ones: %#x, want %#x", b, i, k-i, len(b)-k, got, want)
				}
			}
		}
	}
}

func TestSumOfAnyNumberOfParts(t *testing.T) {
	c := New()
	b := room.Some(3000, 2)
	for n := range 3001 {
		var parts [][]byte
		for k := range n {
			parts = append(parts, b[k:k+1])
		}
		if n > 40 && n%97 != 0 && n != 3000 {
			continue
		}
		if got, want := c.Sum(parts...), room.Sum(b[:n]); got != want {
			t.Errorf("Sum of %d parts: %#x, want %#x", n, got, want)
		}
	}
}

func TestSumOfNoPart(t *testing.T) {
	c := New()
	var none [][]byte
	for k, got := range []uint32{c.Sum(), c.Sum(nil), c.Sum(none...), c.Sum([]byte{}), c.Sum(nil, nil, []byte{}), c.Sum(make([][]byte, 50)...)} {
		if got != 0 {
			t.Errorf("Sum %d of nothing: %#x", k, got)
		}
	}
}

func TestSumOfOnePartTwiceAndOfOrders(t *testing.T) {
	c := New()
	a, b := []byte("sherd"), []byte("of a pot")
	for _, test := range []struct{ got, want uint32 }{
		{c.Sum(a, a), room.Sum([]byte("sherdsherd"))}, {c.Sum(a, b), room.Sum([]byte("sherdof a pot"))},
		{c.Sum(b, a), room.Sum([]byte("of a potsherd"))}, {c.Sum(a[:3], a[1:]), room.Sum([]byte("sheherd"))},
	} {
		if test.got != test.want {
			t.Errorf("Sum: %#x, want %#x", test.got, test.want)
		}
	}
}

func TestSeal(t *testing.T) {
	c := New()
	for _, b := range lists() {
		sum := room.Sum(b)
		want := behind(b, byte(sum), byte(sum>>8), byte(sum>>16), byte(sum>>24))
		if got := c.Seal(b); !bytes.Equal(got, want) {
			t.Errorf("Seal of %v: %v, want %v", b, got, want)
		}
	}
	for _, test := range []struct{ b, want []byte }{
		{nil, []byte{0, 0, 0, 0}}, {[]byte{}, []byte{0, 0, 0, 0}}, {[]byte{'a'}, []byte{'a', 0x43, 0xBE, 0xB7, 0xE8}},
		{[]byte("123456789"), []byte("123456789\x26\x39\xf4\xcb")},
	} {
		if got := c.Seal(test.b); !bytes.Equal(got, test.want) {
			t.Errorf("Seal of %v: %v, want %v", test.b, got, test.want)
		}
	}
}

func TestGoodOfTheSumLowestFirst(t *testing.T) {
	c := New()
	for _, b := range lists() {
		sum := room.Sum(b)
		if !c.Good(behind(b, byte(sum), byte(sum>>8), byte(sum>>16), byte(sum>>24))) {
			t.Errorf("Good of %v and its sum: false", b)
		}
		highestFirst := behind(b, byte(sum>>24), byte(sum>>16), byte(sum>>8), byte(sum))
		if lowest := c.Seal(b); c.Good(highestFirst) != bytes.Equal(highestFirst, lowest) {
			t.Errorf("Good of %v and its sum, the highest first", b)
		}
		for k := range 4 {
			for _, change := range []byte{1, 2, 16, 128, 255} {
				other := c.Seal(b)
				other[len(b)+k] ^= change
				if c.Good(other) {
					t.Errorf("Good of %v and another sum, %v", b, other[len(b):])
				}
			}
		}
	}
}

func TestGoodOfFewerThanFourBytes(t *testing.T) {
	c := New()
	for _, b := range [][]byte{nil, {}, {0}, {255}, {0, 0}, {255, 255}, {0, 0, 0}, {255, 255, 255}, {1, 2, 3}} {
		if c.Good(b) {
			t.Errorf("Good of %v", b)
		}
	}
	noughts := make([]byte, 8)
	if c.Good(noughts[:3]) || c.Good(noughts[:0]) || c.Good(noughts[5:]) { // whatever lies in the spare room, or ahead
		t.Error("Good of fewer than four bytes of a longer list")
	}
}

func TestGoodOfFourBytes(t *testing.T) {
	c := New()
	if !c.Good([]byte{0, 0, 0, 0}) {
		t.Error("Good of four bytes 0: false")
	}
	for k := range 4 {
		for b := 1; b < 256; b++ {
			four := make([]byte, 4)
			four[k] = byte(b)
			if c.Good(four) {
				t.Errorf("Good of %v", four)
			}
		}
	}
	if c.Good([]byte{255, 255, 255, 255}) {
		t.Error("Good of four full bytes")
	}
}

func TestGoodOfOtherLengths(t *testing.T) {
	c := New()
	for _, b := range lists() {
		sealed := c.Seal(b)
		for _, other := range [][]byte{sealed[1:], sealed[:len(sealed)-1], behind(sealed, 0), behind(sealed, 255), behind([]byte{0}, sealed...)} {
			if got, want := c.Good(other), len(other) >= 4 && bytes.Equal(other, c.Seal(other[:len(other)-4])); got != want {
				t.Errorf("Good of %v: %v", other, got)
			}
		}
	}
	if c.Good(make([]byte, 5)) || c.Good(make([]byte, 8)) || c.Good([]byte("123456789")) || c.Good([]byte("\x26\x39\xf4\xcb123456789")) {
		t.Error("Good of what nobody sealed")
	}
}

func TestNilTable(t *testing.T) {
	var none *Table
	if none.Sum() != 0 || none.Sum(nil) != 0 || none.Sum([]byte{}, nil) != 0 {
		t.Error("Sum of nothing, of no table, is not 0")
	}
	for _, b := range lists() {
		sealed := New().Seal(b)
		if got := none.Sum(b, sealed); got != 0 {
			t.Errorf("Sum of %v, of no table: %#x", b, got)
		}
		if got := none.Seal(b); !bytes.Equal(got, b) {
			t.Errorf("Seal of %v, of no table: %v", b, got)
		}
		if none.Good(b) || none.Good(sealed) || none.Good(behind(b, 0, 0, 0, 0)) || none.Good(behind(b, 255, 255, 255, 255)) {
			t.Errorf("Good of %v and a sum, of no table", b)
		}
	}
}

// P5.2

func TestWhatIsSealedIsGood(t *testing.T) {
	c := New()
	for _, b := range lists() {
		sealed := c.Seal(b)
		twice := c.Seal(sealed)
		if !c.Good(sealed) || !c.Good(twice) || !c.Good(c.Seal(twice)) {
			t.Errorf("Good of Seal of %v: false", b)
		}
	}
	for n := range 700 {
		if !c.Good(c.Seal(room.Some(n, n))) {
			t.Errorf("Good of Seal of %d bytes: false", n)
		}
	}
}

// places calls check with bits of what was sealed from which on some turn: all of a short list, the ends and the border of a long one.
func places(c *Table, check func(sealed []byte, bit int)) {
	for _, n := range []int{0, 1, 3, 4, 60, 300} {
		sealed := c.Seal(room.Some(n, n+1))
		for bit := range 8 * len(sealed) {
			if n < 60 || bit < 70 || bit > 8*n-70 || bit%61 == 0 {
				check(sealed, bit)
			}
		}
	}
}

func TestTurnedBits(t *testing.T) {
	c := New()
	places(c, func(sealed []byte, bit int) {
		for wide := 1; wide <= min(32, 8*len(sealed)-bit); wide++ {
			for _, mask := range room.Masks(wide, bit+len(sealed)) {
				if c.Good(room.Turned(sealed, bit, mask)) {
					t.Errorf("Good of %d bytes with the bits %b from %d on turned", len(sealed), mask, bit)
				}
			}
		}
	})
}

// Which masks of 32 bits are Good is all told by those of one bit: what it does to the sum, and whether one is the sum of others.
func TestTurnedBitsInNoMask(t *testing.T) {
	c := New()
	for _, n := range []int{0, 1, 4, 60, 300} {
		sealed := c.Seal(room.Some(n, n+2))
		for bit := range 8*len(sealed) - 31 {
			var least [32]uint32 // by its highest bit: what some mask does
			for k := range 32 {
				does := whatTurns(c, room.Turned(sealed, bit+k, 1))
				for high := 31; high >= 0; high-- {
					if does>>high&1 == 1 {
						does ^= least[high]
						if does>>high&1 == 1 {
							least[high], does = does, 0
						}
					}
				}
			}
			if slices.Contains(least[:], 0) {
				t.Fatalf("of %d bytes some bits of the 32 from %d on turn, and the sum is good", len(sealed), bit)
			}
		}
	}
}

// whatTurns tells which bits of the sum are not as they would be.
func whatTurns(c *Table, list []byte) uint32 {
	n := len(list) - 4
	return c.Sum(list[:n]) ^ uint32(list[n]) ^ uint32(list[n+1])<<8 ^ uint32(list[n+2])<<16 ^ uint32(list[n+3])<<24
}

// That 33 bits may turn, and it is Good, tells the polynomial, and that bits in order are those of the sum.
func TestThePolynomialTurns33Bits(t *testing.T) {
	c := New()
	for _, n := range []int{1, 2, 60} {
		sealed := c.Seal(room.Some(n, n+3))
		for bit := range 8*len(sealed) - 32 {
			if !c.Good(room.Turned(sealed, bit, 1|0xEDB88320<<1)) {
				t.Errorf("of %d bytes the polynomial's bits from %d on turn, and it is not Good", len(sealed), bit)
			}
		}
	}
}

// The rules that hold everywhere, of each call.

func TestListsAndTheTableAreLeftAlone(t *testing.T) {
	c := New()
	before := *c
	for _, table := range []*Table{c, nil} {
		for _, b := range lists() {
			list, listWhole := room.Of(b...)
			rows, rowsWhole := room.Rows(b, nil, b)
			table.Sum(rows...)
			table.Seal(list)
			table.Good(list)
			sealed, sealedWhole := room.Of(c.Seal(b)...)
			table.Good(sealed)
			if !listWhole() || !rowsWhole() || !sealedWhole() {
				t.Errorf("%v, or its spare room, was changed", b)
			}
		}
	}
	if *c != before {
		t.Error("the table was changed")
	}
}

func TestAnswersShareNoMemory(t *testing.T) {
	c := New()
	var none *Table
	for _, b := range lists() {
		list, _ := room.Of(b...)
		if k := room.Shared(list, c.Seal(list), c.Seal(list), none.Seal(list), none.Seal(list)); k >= 0 {
			t.Errorf("of %v: list %d shares memory with one ahead of it", b, k)
		}
	}
}

func TestTablesAreAlikeAndApart(t *testing.T) {
	a, b := New(), New()
	if a == b || *a != *b {
		t.Fatal("two tables are one, or unlike")
	}
	*a = Table{}
	if *b != *New() || b.Sum([]byte("123456789")) != 3421780262 {
		t.Error("a table hangs on another one")
	}
}

func TestNoCallPanicsWithATableThatNewDidNotMake(t *testing.T) {
	table := &Table{}
	for _, b := range lists() {
		table.Sum(b, nil, b)
		table.Good(table.Seal(b))
		table.Good(b)
	}
}
