package room

import (
	"bytes"
	"slices"
	"testing"
)

// someSectors tells so many, all unlike.
func someSectors(count int) [][]byte {
	return AllSealed(Lists(count, 20, 1))
}

func TestEachShort(t *testing.T) {
	for count := range 5 {
		all, unchanged := Rows(someSectors(count)...)
		met := map[string]int{}
		EachShort(all, func(short [][]byte) {
			met[string(bytes.Join(short, nil))]++
			if len(short) >= count {
				t.Errorf("EachShort of %d: %d", count, len(short))
			}
		})
		for n := range count {
			for _, want := range [][][]byte{all[:n], all[n+1:], slices.Delete(slices.Clone(all), n, n+1)} {
				if met[string(bytes.Join(want, nil))] == 0 {
					t.Errorf("EachShort of %d: not without those from %d on, up to it, or it", count, n)
				}
			}
		}
		if !unchanged() {
			t.Errorf("EachShort of %d has changed them", count)
		}
	}
}

func TestEachSpoilt(t *testing.T) {
	for count := 1; count < 5; count++ {
		all, unchanged := Rows(someSectors(count)...)
		met := map[string]int{}
		EachSpoilt(all, func(spoilt [][]byte, how string) {
			met[how]++
			if len(spoilt) >= count && Same(spoilt[:count], all) {
				t.Errorf("EachSpoilt of %d: %s, and they are as they were", count, how)
			}
		})
		if !unchanged() {
			t.Errorf("EachSpoilt of %d has changed them", count)
		}
		none := len(NoSectors())
		for how, want := range map[string]int{"another list in one's place": count * (none + 7 + count - 1), "two have changed places": count * (count - 1) / 2, "one is there twice": count - 1, "a list is ahead": none} {
			if met[how] != want {
				t.Errorf("EachSpoilt of %d: %d times %s, want %d", count, met[how], how, want)
			}
		}
		if count > 1 && len(met) != 4 {
			t.Errorf("EachSpoilt of %d: %v", count, met)
		}
	}
	EachSpoilt([][]byte{Sealed(nil)}, func(spoilt [][]byte, how string) { // NoSectors has it too
		if bytes.Equal(spoilt[0], Sealed(nil)) && len(spoilt) == 1 {
			t.Errorf("EachSpoilt of one that says nothing: %s, and it is as it was", how)
		}
	})
}
