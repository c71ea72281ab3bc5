package room

import (
	"bytes"
	"math/bits"
	"slices"
	"testing"
)

func TestTurnedOfKnownLists(t *testing.T) {
	for _, test := range []struct {
		list []byte
		bit  int
		mask uint64
		want []byte
	}{
		{nil, 0, 1, nil}, {[]byte{0}, 0, 1, []byte{1}}, {[]byte{0}, 7, 1, []byte{128}}, {[]byte{0, 0}, 8, 1, []byte{0, 1}}, {[]byte{0, 0}, 6, 7, []byte{192, 1}},
		{[]byte{255, 3}, 4, 0x10f, []byte{15, 19}}, {[]byte{5, 6}, 3, 0, []byte{5, 6}}, {[]byte{5, 6}, 16, 255, []byte{5, 6}}, {[]byte{5, 6}, 1000, 255, []byte{5, 6}},
		{[]byte{0, 0}, 15, 3, []byte{0, 128}}, {make([]byte, 9), 0, 1 << 63, []byte{0, 0, 0, 0, 0, 0, 0, 128, 0}}, {make([]byte, 9), 8, 1 << 63, []byte{0, 0, 0, 0, 0, 0, 0, 0, 128}},
	} {
		list, unchanged := Of(test.list...)
		got := Turned(list, test.bit, test.mask)
		if !bytes.Equal(got, test.want) || !unchanged() || Shared(list, got) != -1 {
			t.Errorf("Turned of %v from %d on by %b: %v, want %v, and a copy", test.list, test.bit, test.mask, got, test.want)
		}
	}
}

func TestMasksReachFromTheFirstBitToTheLast(t *testing.T) {
	for wide := 1; wide <= 64; wide++ {
		all := Masks(wide, wide)
		if !slices.Equal(all, Masks(wide, wide)) {
			t.Errorf("Masks %d wide: others the second time", wide)
		}
		for _, mask := range all {
			if mask&1 != 1 || bits.Len64(mask) != wide {
				t.Errorf("Masks %d wide: %b", wide, mask)
			}
		}
		last := uint64(1) << (wide - 1)
		for _, mask := range []uint64{1 | last, last | (last - 1)} { // the ends alone, and all bits
			if !slices.Contains(all, mask) {
				t.Errorf("Masks %d wide: no %b", wide, mask)
			}
		}
	}
}

func TestMasksOfFewBitsAreAll(t *testing.T) {
	for wide := 2; wide <= 9; wide++ {
		all := Masks(wide, 1)
		slices.Sort(all)
		if len(slices.Compact(all)) != 1<<(wide-2) {
			t.Errorf("Masks %d wide: %d", wide, len(all))
		}
	}
	if all := Masks(1, 1); !slices.Equal(all, []uint64{1}) {
		t.Errorf("Masks 1 wide: %v", all)
	}
	if slices.Equal(Masks(32, 1), Masks(32, 2)) {
		t.Error("Masks of two seeds: the same")
	}
}

func TestEachTurnTurnsBitsThatAreNear(t *testing.T) {
	for _, n := range []int{0, 1, 2, 4, 5, 9} {
		list, unchanged := Of(Some(n, n)...)
		met := map[[2]int]int{} // by the first bit that is turned, and how many in order there are up to the last one
		EachTurn(list, func(turned []byte, bit int, mask uint64) {
			if !bytes.Equal(turned, Turned(list, bit, mask)) || bytes.Equal(turned, list) {
				t.Fatalf("EachTurn of %v from %d on by %b: %v", list, bit, mask, turned)
			}
			clear(turned) // a copy of the list, which stays
			met[[2]int{bit, bits.Len64(mask)}]++
		})
		if !unchanged() {
			t.Errorf("EachTurn has changed %d bytes", n)
		}
		for bit := range 8*n + 1 {
			for wide := range 66 {
				got := met[[2]int{bit, wide}]
				if may := 1 <= wide && wide <= 32 && bit+wide <= 8*n; may && got != len(Masks(wide, bit)) || !may && got != 0 {
					t.Errorf("EachTurn of %d bytes from %d on, %d wide: %d masks", n, bit, wide, got)
				}
			}
		}
	}
}
