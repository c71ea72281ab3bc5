package room

import (
	"math"
	"slices"
	"testing"
)

func TestBallots(t *testing.T) {
	all, wrong := Ballots(), WrongBallots()
	if all[0] != 0 || !slices.IsSorted(all) || len(slices.Compact(slices.Clone(all))) != len(all) {
		t.Errorf("Ballots: %v", all)
	}
	for _, n := range []int{0, 1, 255, 256, math.MaxUint16, math.MaxInt32, math.MaxInt32 + 1, math.MaxUint32} {
		if !slices.Contains(all, n) {
			t.Errorf("Ballots: no %d", n)
		}
	}
	for _, n := range []int{math.MinInt, -1, math.MaxUint32 + 1, math.MaxUint32 + 2, math.MaxInt} {
		if !slices.Contains(wrong, n) {
			t.Errorf("WrongBallots: no %d", n)
		}
	}
	for _, n := range slices.Concat(all, wrong) {
		if slices.Contains(all, n) != (0 <= n && n <= math.MaxUint32) || slices.Contains(wrong, n) != (n < 0 || n > math.MaxUint32) {
			t.Errorf("Ballots, or WrongBallots: %d", n)
		}
	}
}
