package sector

import (
	"bytes"
	"math"
	"slices"
	"testing"

	"sherd/api"
	"sherd/crc"
	"sherd/room"
)

var table = crc.New()

// payloads are bytes of all lengths that a payload may have, with noughts and full bytes ahead, between and behind.
func payloads() [][]byte {
	all := [][]byte{nil, {}, {0}, {255}, {0, 1}, {1, 0}, {7, 0, 0, 0, 0, 9}, []byte("abc")}
	for n := range 61 {
		all = append(all, room.Tapes(n)...)
		all = append(all, room.Lists(4, n, n)...)
	}
	return all
}

// P15.1

func TestSealOfKnownPayloads(t *testing.T) {
	rising := make([]byte, 60)
	for k := range rising {
		rising[k] = byte(k)
	}
	for _, test := range []struct{ payload, sum []byte }{
		{nil, []byte{8, 137, 18, 4}}, {[]byte{}, []byte{8, 137, 18, 4}}, {[]byte{0}, []byte{8, 137, 18, 4}}, {make([]byte, 60), []byte{8, 137, 18, 4}},
		{[]byte("abc"), []byte{65, 16, 96, 188}}, {[]byte("abc\x00"), []byte{65, 16, 96, 188}},
		{bytes.Repeat([]byte{255}, 60), []byte{77, 241, 140, 244}}, {rising, []byte{238, 127, 236, 176}},
	} {
		want := slices.Concat(test.payload, make([]byte, 60-len(test.payload)), test.sum)
		if got := Seal(table, test.payload); !bytes.Equal(got, want) {
			t.Errorf("Seal of %v: %v, want %v", test.payload, got, want)
		}
	}
}

func TestSealOfAllLengths(t *testing.T) {
	for _, payload := range payloads() {
		if got, want := Seal(table, payload), room.Sealed(payload); len(got) != 64 || !bytes.Equal(got, want) {
			t.Errorf("Seal of %v: %v, want %v", payload, got, want)
		}
	}
}

func TestSealOfAPayloadThatIsTooLong(t *testing.T) {
	for _, n := range []int{61, 62, 63, 64, 65, 120, 128, 255, 256, 256 + 3, 1 << 16, 1<<16 + 60, 1 << 20} {
		for _, payload := range [][]byte{make([]byte, n), room.Some(n, n), bytes.Repeat([]byte{255}, n)} {
			if got := Seal(table, payload); len(got) != 0 {
				t.Errorf("Seal of %d bytes: %v", n, got)
			}
		}
	}
	if got := Seal(table, Seal(table, []byte("abc"))); len(got) != 0 {
		t.Errorf("Seal of a sealed sector: %v", got)
	}
}

func TestSealReadsNoSpareRoom(t *testing.T) {
	whole := bytes.Repeat([]byte{255}, 64)
	for n := range 61 {
		if got, want := Seal(table, whole[:n]), room.Sealed(whole[:n:n]); !bytes.Equal(got, want) {
			t.Errorf("Seal of %d bytes with spare room: %v, want %v", n, got, want)
		}
	}
}

func TestOpenOfWhatIsSealed(t *testing.T) {
	for _, payload := range payloads() {
		b := room.Sealed(payload)
		if got, ok := Open(table, b); !ok || !bytes.Equal(got, b[:60]) {
			t.Errorf("Open of %v and its sum: %v, %t", b[:60], got, ok)
		}
	}
}

// opensNot tells whether Open tells nothing, false.
func opensNot(b []byte) bool {
	got, ok := Open(table, b)
	return !ok && len(got) == 0
}

func TestOpenOfAnotherSum(t *testing.T) {
	for _, payload := range payloads() {
		b := room.Sealed(payload)
		for k := 60; k < 64; k++ {
			for _, change := range []byte{1, 2, 16, 128, 255} {
				b[k] ^= change
				if !opensNot(b) {
					t.Errorf("Open of %v and another sum, %v", b[:60], b[60:])
				}
				b[k] ^= change
			}
		}
	}
}

func TestOpenOfWhatIsNotSealedSo(t *testing.T) {
	sum := room.Sealed([]byte("abc"))[60:]
	highestFirst := room.Sealed([]byte("abc"))
	slices.Reverse(highestFirst[60:])
	for _, test := range []struct {
		name string
		b    []byte
	}{
		{"a clear one", make([]byte, 64)}, {"full bytes", bytes.Repeat([]byte{255}, 64)}, {"mixed bytes", room.Some(64, 1)}, {"the sum, the highest byte first", highestFirst},
		{"the sum ahead", slices.Concat(sum, []byte("abc"), make([]byte, 57))}, {"the sum of fewer bytes", slices.Concat(make([]byte, 57), []byte("abc"), table.Seal([]byte("abc"))[3:])},
		{"the sum of four bytes more", slices.Concat(make([]byte, 60), table.Seal(make([]byte, 64))[64:])}, {"no sum", slices.Concat([]byte("abc"), make([]byte, 61))},
		{"the sum of all bits turned", slices.Concat(make([]byte, 60), []byte{^byte(8), ^byte(137), ^byte(18), ^byte(4)})},
	} {
		if len(test.b) != 64 || !opensNot(test.b) {
			t.Errorf("Open of %s, of %d bytes, tells something", test.name, len(test.b))
		}
	}
}

func TestOpenOfOtherLengths(t *testing.T) {
	if !opensNot(nil) || !opensNot([]byte{}) {
		t.Error("Open of no bytes tells something")
	}
	for _, n := range []int{0, 1, 3, 4, 30, 56, 58, 59, 61, 62, 63, 64, 124, 124 + 64, 252, 256 + 60, 1<<16 + 60} {
		for _, ahead := range [][]byte{make([]byte, n), room.Some(n, n)} {
			b := table.Seal(ahead) // Good, but no sector
			if !table.Good(b) || !opensNot(b) || !opensNot(b[:len(b)-1]) || !opensNot(b[1:]) {
				t.Errorf("Open of %d bytes, and their sum, tells something", n)
			}
		}
	}
	s := room.Sealed([]byte("abc"))
	for _, b := range [][]byte{s[:63], s[1:], append(s[:64:64], 0), append([]byte{0}, s...), slices.Concat(s, s), slices.Concat(s, make([]byte, 64)), s[:60], s[:0], s[60:]} {
		if !opensNot(b) {
			t.Errorf("Open of %d bytes of a sealed sector, and others, tells something", len(b))
		}
	}
}

func TestOpenAndClearReadNoSpareRoom(t *testing.T) {
	for _, whole := range [][]byte{room.Sealed([]byte("abc")), make([]byte, 64)} {
		for n := range 64 {
			if !opensNot(whole[:n]) || Clear(whole[:n]) {
				t.Errorf("of %d bytes, with those that lack as spare room: a sector", n)
			}
		}
	}
}

func TestClear(t *testing.T) {
	if Clear(nil) || Clear([]byte{}) {
		t.Error("no bytes are clear")
	}
	for n := range 300 {
		if got := Clear(make([]byte, n)); got != (n == 64) {
			t.Errorf("Clear of %d bytes 0: %t", n, got)
		}
	}
	for _, n := range []int{1 << 16, 1<<16 + 64, 1 << 20} {
		if Clear(make([]byte, n)) {
			t.Errorf("Clear of %d bytes 0", n)
		}
	}
}

func TestClearOfAnyByteThatIsNot0(t *testing.T) {
	for k := range 64 {
		for b := 1; b < 256; b++ {
			s := make([]byte, 64)
			s[k] = byte(b)
			if Clear(s) {
				t.Errorf("Clear with %d at place %d", b, k)
			}
			s[63-k] ^= byte(b)
			if Clear(s) {
				t.Errorf("Clear with %d at the places %d and %d", b, k, 63-k)
			}
		}
	}
	if Clear(room.Some(64, 1)) || Clear(bytes.Repeat([]byte{255}, 64)) {
		t.Error("Clear of a sector of other bytes")
	}
}

func TestZero(t *testing.T) {
	if got := Zero(); !bytes.Equal(got, make([]byte, 64)) || !Clear(got) || !opensNot(got) {
		t.Errorf("Zero: %v", got)
	}
}

// P15.2

func TestOpenOfSealIsThePayload(t *testing.T) {
	for _, payload := range payloads() {
		got, ok := Open(table, Seal(table, payload))
		if want := slices.Concat(payload, make([]byte, 60-len(payload))); !ok || len(got) != 60 || !bytes.Equal(got, want) {
			t.Errorf("Open of Seal of %v: %v, %t", payload, got, ok)
		}
	}
}

func TestWhatIsSealedIsNotClear(t *testing.T) {
	for _, payload := range payloads() {
		if Clear(Seal(table, payload)) {
			t.Errorf("Seal of %v is clear", payload)
		}
	}
	for k := range 480 { // one bit alone, and all behind it
		for _, mask := range []uint64{1, math.MaxUint64} {
			if payload := room.Turned(make([]byte, 60), k, mask); Clear(Seal(table, payload)) {
				t.Errorf("Seal of %v is clear", payload)
			}
		}
	}
}

func TestBitsThatTurn(t *testing.T) {
	for _, payload := range [][]byte{nil, bytes.Repeat([]byte{255}, 60), []byte("abc"), room.Some(60, 1)} {
		room.EachTurn(Seal(table, payload), func(turned []byte, bit int, mask uint64) {
			if !opensNot(turned) {
				t.Fatalf("Seal of %v with the bits %b from %d on turned: %v is sealed", payload, mask, bit, turned)
			}
		})
	}
}

func TestBitsThatTurnBack(t *testing.T) {
	s := Seal(table, room.Some(60, 2))
	for bit := range 512 {
		for _, mask := range room.Masks(32, bit) {
			if got, ok := Open(table, room.Turned(room.Turned(s, bit, mask), bit, mask)); !ok || !bytes.Equal(got, room.Some(60, 2)) {
				t.Fatalf("the bits %b from %d on turned, and turned back: %v, %t", mask, bit, got, ok)
			}
		}
	}
}

// The rules that hold everywhere, of each call.

func TestWhatIsHandedInIsNotChanged(t *testing.T) {
	before := *table
	for _, b := range append(payloads(), make([]byte, 64), room.Some(64, 1), room.Sealed(nil), room.Sealed([]byte("abc")), make([]byte, 61), make([]byte, 500)) {
		list, unchanged := room.Of(b...)
		Seal(table, list)
		Open(table, list)
		Clear(list)
		if !unchanged() {
			t.Errorf("%v, or its spare room, was changed", b)
		}
	}
	if *table != before {
		t.Error("the table was changed")
	}
}

func TestAnswersShareNoMemory(t *testing.T) {
	for _, n := range []int{0, 1, 59, 60} {
		payload := room.Some(n, n)
		s := room.Sealed(payload)
		first, _ := Open(table, s)
		second, _ := Open(table, s)
		if k := room.Shared(payload, Seal(table, payload), Seal(table, payload), s, first, second, Zero(), Zero()); k >= 0 {
			t.Errorf("of %d bytes: list %d shares memory with one ahead of it", n, k)
		}
	}
	if got := Zero(); !Clear(got) {
		t.Errorf("Zero, when those of before were written over: %v", got)
	}
}

func TestAnswersHangOnArgumentsAlone(t *testing.T) {
	other := crc.New()
	for _, payload := range payloads() {
		s := Seal(table, payload)
		got, ok := Open(other, s)
		again, same := Open(table, s)
		if !bytes.Equal(s, Seal(other, payload)) || !ok || !same || !bytes.Equal(got, again) {
			t.Errorf("Seal of %v, or Open of it, is another with another table, or the second time", payload)
		}
	}
}

func TestNothingIsSealedWithoutATable(t *testing.T) {
	for _, b := range append(payloads(), make([]byte, 61), make([]byte, 64), room.Sealed([]byte("abc")), slices.Concat([]byte("abc"), make([]byte, 61))) {
		if got := Seal(nil, b); len(got) != 0 {
			t.Errorf("Seal of %v without a table: %v", b, got)
		}
		if got, ok := Open(nil, b); ok || len(got) != 0 {
			t.Errorf("Open of %v without a table: %v", b, got)
		}
	}
}

func TestNoCallPanicsWithATableThatNewDidNotMake(t *testing.T) {
	for _, b := range append(payloads(), nil, make([]byte, 61), make([]byte, 64), room.Sealed(nil)) {
		Seal(&crc.Table{}, b)
		Open(&crc.Table{}, b)
	}
}

func TestASectorIsAPayloadAndItsSum(t *testing.T) {
	if api.Sector != 64 || api.Payload != 60 || len(Seal(table, nil)) != api.Sector || len(Zero()) != api.Sector {
		t.Error("a sector has other than 64 bytes, or a payload other than 60")
	}
}
