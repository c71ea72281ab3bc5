package room

import (
	"bytes"
	"hash/crc32"
	"slices"
	"testing"
)

func TestSum(t *testing.T) {
	for n := range 300 {
		for _, b := range Tapes(n) {
			if got, want := Sum(b), crc32.ChecksumIEEE(b); got != want {
				t.Errorf("Sum of %v: %#x, want %#x", b, got, want)
			}
		}
	}
	if got := Sum([]byte("123456789")); got != 3421780262 {
		t.Errorf("Sum of 123456789: %d", got)
	}
}

func TestSealed(t *testing.T) {
	for n := range 61 {
		for _, b := range Tapes(n) {
			payload, unchanged := Of(b...)
			got := Sealed(payload)
			sum := crc32.ChecksumIEEE(slices.Concat(b, make([]byte, 60-n)))
			want := slices.Concat(b, make([]byte, 60-n), []byte{byte(sum), byte(sum >> 8), byte(sum >> 16), byte(sum >> 24)})
			if !bytes.Equal(got, want) || !unchanged() || Shared(payload, got) != -1 {
				t.Errorf("Sealed of %v: %v, want %v, and one of its own", b, got, want)
			}
		}
	}
}
