package room

import (
	"slices"
	"strings"
	"testing"

	"sherd/label"
)

func TestNames(t *testing.T) {
	lengths, met := map[int]int{}, strings.Join(Names(), "")
	for _, s := range Names() {
		lengths[len(s)]++
		if !label.Right(s) {
			t.Errorf("Names: %q", s)
		}
	}
	for n := range 18 {
		if some := n >= 1 && n <= 16; lengths[n] < 3 && some || lengths[n] != 0 && !some {
			t.Errorf("Names: %d of %d bytes", lengths[n], n)
		}
	}
	for b := range 256 {
		if s := string([]byte{byte(b)}); strings.Contains(met, s) != label.Right("a"+s) {
			t.Errorf("Names: with %q, which may not stand in one, or without it, which may", s)
		}
	}
}

func TestWrongNames(t *testing.T) {
	all := WrongNames()
	for _, s := range all {
		if label.Right(s) {
			t.Errorf("WrongNames: %q", s)
		}
	}
	for _, s := range []string{"", "-", "A", "a\x00", "abcdefghijklmnopq"} {
		if !slices.Contains(all, s) {
			t.Errorf("WrongNames: no %q", s)
		}
	}
}
