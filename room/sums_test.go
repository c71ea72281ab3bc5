package room

import (
	"bytes"
	"hash/crc32"
	"slices"
	"testing"
)

func TestSum(t *testing.T) {
	for n := range 300 {
		for _, b := range Tapes(n) {
			if got, want := Sum(b), crc32.ChecksumIEEE(b); got != want {
				t.Errorf("Sum of %v: %#x, want %#x", b, got, want)
			}
		}
	}
	if got := Sum([]byte("123456789")); got != 3421780262 {
		t.Errorf("Sum of 123456789: %d", got)
	}
}

func TestWithSum(t *testing.T) {
	for n := range 300 {
		for _, b := range Tapes(n) {
			list, unchanged := Of(b...)
			got := WithSum(list)
			sum := crc32.ChecksumIEEE(b)
			want := slices.Concat(b, []byte{byte(sum), byte(sum >> 8), byte(sum >> 16), byte(sum >> 24)})
			if !bytes.Equal(got, want) || !unchanged() || Shared(list, got) != -1 {
				t.Errorf("WithSum of %v: %v, want %v, and one of its own", b, got, want)
			}
		}
	}
}

func TestSealed(t *testing.T) {
	for n := range 61 {
		for _, b := range Tapes(n) {
			payload, unchanged := Of(b...)
			got := Sealed(payload)
			sum := crc32.ChecksumIEEE(slices.Concat(b, make([]byte, 60-n)))
			want := slices.Concat(b, make([]byte, 60-n), []byte{byte(sum), byte(sum >> 8), byte(sum >> 16), byte(sum >> 24)})
			if !bytes.Equal(got, want) || !unchanged() || Shared(payload, got) != -1 {
				t.Errorf("Sealed of %v: %v, want %v, and one of its own", b, got, want)
			}
		}
	}
}

func TestFilled(t *testing.T) {
	for n := range 61 {
		for _, sum := range [][]byte{nil, {1, 2, 3, 4}} {
			payload, unchanged := Of(Some(n, n)...)
			got := Filled(payload, sum...)
			if !bytes.Equal(got, slices.Concat(Some(n, n), make([]byte, 60-n), sum)) || !unchanged() || Shared(payload, got) != -1 {
				t.Errorf("Filled of %d bytes, and the sum %v: %v, or not one of its own", n, sum, got)
			}
		}
	}
}

func TestNoSectors(t *testing.T) {
	met := map[int]int{}
	for _, b := range NoSectors() {
		met[len(b)]++
		if len(b) == 64 && bytes.Equal(b, Sealed(b[:60])) && (!bytes.Equal(b, Filled(b[:2], b[60:]...))) {
			t.Errorf("NoSectors: %v is sealed, and says something", b)
		}
	}
	for _, n := range []int{0, 1, 63, 64, 65} {
		if met[n] == 0 {
			t.Errorf("NoSectors: none of %d bytes", n)
		}
	}
	if met[64] < 5 {
		t.Errorf("NoSectors: %d of 64 bytes", met[64])
	}
}
