package space

import (
	"math"
	"slices"
	"strings"
	"testing"

	"sherd/api"
	"sherd/room"
)

// free and used are how a slot is drawn that is free, and one that is not.
const (
	free = "."
	used = "#"
)

// sizes are numbers of slots that a space may have.
var sizes = []int{1, 2, 3, 7, 8, 9, 31, 32, 33, 63, 64, 65, 127, 128, 129, 254, 255, 256}

// drawings calls check with all drawings of at most most slots.
func drawings(most int, check func(drawing string)) {
	for size := 1; size <= most; size++ {
		for set := range 1 << size {
			check(ofSet(size, set))
		}
	}
}

// ofSet draws slots, those that are used by the bits of a set.
func ofSet(size, set int) string {
	var b strings.Builder
	for i := range size {
		b.WriteString([]string{free, used}[set>>i&1])
	}
	return b.String()
}

// some draws slots in many runs, which hang on seed alone.
func some(size, seed int) string {
	var b strings.Builder
	for k, long := range room.Some(size, seed) {
		b.WriteString(strings.Repeat([]string{free, used}[k%2], int(long)%7))
	}
	return (b.String() + strings.Repeat(free, size))[:size]
}

// wide tells drawings of many slots.
func wide() []string {
	var all []string
	for _, size := range sizes {
		all = append(all, strings.Repeat(free, size), strings.Repeat(used, size), strings.Repeat(free, size-1)+used, used+strings.Repeat(free, size-1))
		for seed := range 6 {
			all = append(all, some(size, seed))
		}
	}
	return all
}

// drawn makes a space by a drawing.
func drawn(t *testing.T, drawing string) *Space {
	s := New(len(drawing))
	for i := range drawing {
		if drawing[i:i+1] == used && !s.Use(i, 1) {
			t.Fatalf("Use of slot %d of %d, which is free: false", i, len(drawing))
		}
	}
	return s
}

// part tells how n slots from at on are drawn, and whether they are there, and n is not below 1.
func part(drawing string, at, n int) (string, bool) {
	if at < 0 || at >= len(drawing) || n < 1 || n > len(drawing)-at {
		return "", false
	}
	return drawing[at : at+n], true
}

// with draws n slots from at on as one kind.
func with(drawing string, at, n int, kind string) string {
	return drawing[:at] + strings.Repeat(kind, n) + drawing[at+n:]
}

// changed tells what Use (from free to used), or Give (from used to free), should, and the drawing behind it.
func changed(drawing string, at, n int, from, to string) (string, bool) {
	if own, ok := part(drawing, at, n); !ok || strings.Trim(own, from) != "" {
		return drawing, false
	}
	return with(drawing, at, n, to), true
}

// taken tells what Take should, and the drawing behind it: the first slot at which a free run begins that has as many.
func taken(drawing string, n int) (string, int, bool) {
	for at := range drawing {
		begins := at == 0 || drawing[at-1:at] == used
		if own, ok := part(drawing, at, n); begins && ok && strings.Trim(own, free) == "" {
			return with(drawing, at, n, used), at, true
		}
	}
	return drawing, 0, false
}

// longest tells how long the longest free run of a drawing is.
func longest(drawing string) int {
	most := 0
	for _, run := range strings.Split(drawing, used) {
		most = max(most, len(run))
	}
	return most
}

// isDrawn tells whether a space is as it is drawn, by all that it tells.
func isDrawn(s *Space, drawing string) bool {
	for i := range drawing {
		if s.Is(i) != (drawing[i:i+1] == free) {
			return false
		}
	}
	for _, i := range []int{-1, len(drawing), len(drawing) + 1, api.MaxSlots, math.MinInt, math.MaxInt} {
		if s.Is(i) {
			return false
		}
	}
	return s.Free() == strings.Count(drawing, free) && s.Longest() == longest(drawing)
}

// numbers tells numbers of slots, and how many: those about the ones of a space of so many, and those at the ends of int's range.
func numbers(size int) []int {
	all := append(room.Ends(), 1, 2, 3, size/2, size-2, size-1, size, size+1, size+2, 2*size, -size, 255, 256, 257, 511, 512, math.MaxInt-size, math.MaxInt-size+1, math.MinInt+size)
	slices.Sort(all)
	return slices.Compact(all)
}

// P21.1

func TestNewHasFrom1To256SlotsAllFree(t *testing.T) {
	check := func(n, want int) {
		if s := New(n); !isDrawn(s, strings.Repeat(free, want)) {
			t.Errorf("New of %d slots: %d free, the longest run %d, want %d", n, s.Free(), s.Longest(), want)
		}
	}
	for n := -600; n <= 1300; n++ {
		check(n, min(max(n, 1), 256))
	}
	for _, n := range room.Ends() {
		if n < 1 {
			check(n, 1)
		} else {
			check(n, 256)
		}
	}
}

func TestTakeOfAllSmallSpaces(t *testing.T) {
	drawings(9, func(drawing string) {
		for n := -2; n <= len(drawing)+2; n++ {
			s := drawn(t, drawing)
			want, first, fits := taken(drawing, n)
			if at, ok := s.Take(n); at != first || ok != fits || !isDrawn(s, want) {
				t.Errorf("Take of %d of %s: %d, %t, want %d, %t and %s", n, drawing, at, ok, first, fits, want)
			}
		}
	})
}

func TestTakeOfWideSpaces(t *testing.T) {
	for _, drawing := range wide() {
		for n := 1; n <= len(drawing)+1; n++ {
			s := drawn(t, drawing)
			want, first, fits := taken(drawing, n)
			if at, ok := s.Take(n); at != first || ok != fits || !isDrawn(s, want) {
				t.Errorf("Take of %d of %s: %d, %t, want %d, %t and %s", n, drawing, at, ok, first, fits, want)
			}
		}
	}
}

func TestTakeOfKnownSpaces(t *testing.T) {
	for _, test := range []struct {
		drawing string
		n       int
		at      int
		ok      bool
		behind  string
	}{
		{".#..", 2, 2, true, ".###"}, {".#..", 1, 0, true, "##.."}, {".#..", 3, 0, false, ".#.."}, {"....", 4, 0, true, "####"}, {"....", 5, 0, false, "...."},
		{"....#.", 1, 0, true, "#...#."}, {"#...#.", 1, 1, true, "##..#."}, {"#...#..", 2, 1, true, "###.#.."}, // not the one that fits best
		{"..#...", 3, 3, true, "..####"}, {"..#...", 2, 0, true, "###..."}, {"#.#.#.", 1, 1, true, "###.#."}, {"#.#.#.", 2, 0, false, "#.#.#."},
		{"#", 1, 0, false, "#"}, {".", 1, 0, true, "#"}, {".", 2, 0, false, "."}, {".", 0, 0, false, "."}, {".", -1, 0, false, "."}, {"#.", 0, 0, false, "#."}, {"#..", -2, 0, false, "#.."},
	} {
		s := drawn(t, test.drawing)
		if at, ok := s.Take(test.n); at != test.at || ok != test.ok || !isDrawn(s, test.behind) {
			t.Errorf("Take of %d of %s: %d, %t, want %d, %t and %s", test.n, test.drawing, at, ok, test.at, test.ok, test.behind)
		}
	}
}

func TestTakeOfNumbersAtTheEnds(t *testing.T) {
	for _, drawing := range wide() {
		s := drawn(t, drawing)
		for _, n := range numbers(len(drawing)) {
			if n >= 1 && n <= len(drawing) {
				continue
			}
			if at, ok := s.Take(n); at != 0 || ok || !isDrawn(s, drawing) {
				t.Errorf("Take of %d of %d slots: %d, %t, or other slots are free", n, len(drawing), at, ok)
			}
		}
	}
}

func TestTakeTillNoneIsFree(t *testing.T) {
	for _, size := range sizes {
		for _, n := range []int{1, 2, 3, 7, size} {
			s, drawing := New(size), strings.Repeat(free, size)
			for first := 0; first+n <= size; first += n {
				drawing = with(drawing, first, n, used)
				if at, ok := s.Take(n); at != first || !ok || !isDrawn(s, drawing) {
					t.Fatalf("Take of %d of %d slots, %d of which are taken: %d, %t", n, size, first, at, ok)
				}
			}
			if at, ok := s.Take(n); at != 0 || ok || !isDrawn(s, drawing) {
				t.Errorf("Take of %d of %d slots, when fewer are free: %d, %t", n, size, at, ok)
			}
			for k := range size % n {
				if at, ok := s.Take(1); at != size-size%n+k || !ok {
					t.Errorf("Take of 1 of what is left of %d slots: %d, %t", size, at, ok)
				}
			}
			if at, ok := s.Take(1); at != 0 || ok || !isDrawn(s, strings.Repeat(used, size)) {
				t.Errorf("Take of 1 of %d slots, when none is free: %d, %t", size, at, ok)
			}
		}
	}
}

func TestTakeOfARunPutTogether(t *testing.T) {
	for _, parts := range [][][2]int{{{2, 2}, {4, 3}}, {{4, 3}, {2, 2}}, {{2, 2}, {5, 2}, {4, 1}}, {{2, 1}, {6, 1}, {4, 1}, {3, 1}, {5, 1}}} {
		s := drawn(t, "..........")
		s.Use(0, 10)
		for _, p := range parts {
			if _, ok := s.Take(5); ok || !s.Give(p[0], p[1]) {
				t.Fatalf("runs %v: Take of 5 ahead of the last one, or Give", parts)
			}
		}
		if at, ok := s.Take(5); at != 2 || !ok || !isDrawn(s, "##########") {
			t.Errorf("runs %v, given free: Take of 5: %d, %t", parts, at, ok)
		}
	}
}

// P21.2

// call is Use or Give, with its words.
type call struct {
	name     string
	do       func(s *Space, at, n int) bool
	from, to string
}

// calls tells both.
func calls() []call {
	return []call{{"Use", (*Space).Use, free, used}, {"Give", (*Space).Give, used, free}}
}

// checkCall holds a call against its words.
func checkCall(t *testing.T, c call, drawing string, at, n int) {
	s := drawn(t, drawing)
	want, right := changed(drawing, at, n, c.from, c.to)
	if ok := c.do(s, at, n); ok != right || !isDrawn(s, want) {
		t.Errorf("%s of %d slots from %d on of %s: %t, want %t and %s", c.name, n, at, drawing, ok, right, want)
	}
}

func TestUseAndGiveOfAllSmallSpaces(t *testing.T) {
	for _, c := range calls() {
		drawings(7, func(drawing string) {
			for at := -2; at <= len(drawing)+1; at++ {
				for n := -1; n <= len(drawing)+2; n++ {
					checkCall(t, c, drawing, at, n)
				}
			}
		})
	}
}

func TestUseAndGiveOfWideSpaces(t *testing.T) {
	for _, c := range calls() {
		for _, drawing := range wide() {
			size := len(drawing)
			for k, b := range room.Some(120, size) {
				at := (int(b) + k) % size
				checkCall(t, c, drawing, at, 1+k%9)
				checkCall(t, c, drawing, at, size-at)
				checkCall(t, c, drawing, at, size-at+1)
			}
		}
	}
}

func TestUseAndGiveOfWholeRuns(t *testing.T) {
	for _, c := range calls() {
		for _, drawing := range wide() {
			for at := range drawing {
				n := len(drawing[at:]) - len(strings.TrimLeft(drawing[at:], c.from))
				checkCall(t, c, drawing, at, n)
				checkCall(t, c, drawing, at, n+1)
				checkCall(t, c, drawing, at-1, n+1)
			}
		}
	}
}

func TestUseAndGiveOfNumbersAtTheEnds(t *testing.T) {
	for _, c := range calls() {
		for _, size := range []int{1, 2, 4, 200, 255, 256} {
			for _, kind := range []string{free, used} {
				drawing := strings.Repeat(kind, size)
				for _, at := range numbers(size) {
					for _, n := range numbers(size) {
						checkCall(t, c, drawing, at, n)
					}
				}
			}
		}
	}
}

func TestUseAndGiveOfSlotsOneOfWhichIsNotAsTheOthers(t *testing.T) {
	for _, c := range calls() {
		for size := 1; size <= api.MaxSlots; size += 51 {
			for other := range size {
				drawing := with(strings.Repeat(c.from, size), other, 1, c.to)
				checkCall(t, c, drawing, 0, size)
				checkCall(t, c, drawing, 0, other)
				checkCall(t, c, drawing, 0, other+1)
				checkCall(t, c, drawing, other, 1)
				checkCall(t, c, drawing, other, size-other)
				checkCall(t, c, drawing, other+1, size-other-1)
			}
		}
	}
}

func TestUseAndGiveOfSlotsThatAreNotThere(t *testing.T) {
	for size := 1; size <= api.MaxSlots; size++ {
		s := New(size)
		for at := size; at <= api.MaxSlots+1; at++ {
			if s.Use(at, 1) || s.Give(at, 1) || s.Is(at) {
				t.Fatalf("slot %d of %d is there", at, size)
			}
		}
		if s.Use(size-1, 2) || s.Use(-1, 2) || !isDrawn(s, strings.Repeat(free, size)) {
			t.Errorf("Use of a slot behind, or ahead of, %d: true, or other slots are free", size)
		}
		s.Use(0, size)
		if s.Give(size-1, 2) || s.Give(-1, 2) || s.Give(size, 1) || !isDrawn(s, strings.Repeat(used, size)) {
			t.Errorf("Give of a slot behind, or ahead of, %d: true, or slots are free", size)
		}
	}
}

func TestGiveOfWhatWasTaken(t *testing.T) {
	drawings(8, func(drawing string) {
		for n := 1; n <= len(drawing); n++ {
			s := drawn(t, drawing)
			at, ok := s.Take(n)
			if !ok {
				continue
			}
			if s.Use(at, n) || !s.Give(at, n) || s.Give(at, n) || !isDrawn(s, drawing) {
				t.Errorf("Take of %d of %s, and Give of these: other slots are free", n, drawing)
			}
			if again, ok := s.Take(n); again != at || !ok {
				t.Errorf("Take of %d of %s, Give of these, and Take again: %d, %t, want %d", n, drawing, again, ok, at)
			}
		}
	})
}

// P21.3

func TestFreeLongestAndIsOfAllSmallSpaces(t *testing.T) {
	drawings(11, func(drawing string) {
		if s := drawn(t, drawing); !isDrawn(s, drawing) {
			t.Errorf("%s: %d free, the longest run %d, or others are free", drawing, s.Free(), s.Longest())
		}
	})
}

func TestFreeLongestAndIsOfWideSpaces(t *testing.T) {
	for _, drawing := range wide() {
		if s := drawn(t, drawing); !isDrawn(s, drawing) {
			t.Errorf("%s: %d free, the longest run %d, or others are free", drawing, s.Free(), s.Longest())
		}
	}
}

func TestFreeAndLongestOfKnownSpaces(t *testing.T) {
	for _, test := range []struct {
		drawing       string
		free, longest int
	}{
		{".", 1, 1}, {"#", 0, 0}, {".#..", 3, 2}, {"..#.", 3, 2}, {"#..#", 2, 2}, {".#.#.", 3, 1}, {"..#...#..", 7, 3}, {"...#.", 4, 3}, {"#####", 0, 0}, {".....", 5, 5},
	} {
		s := drawn(t, test.drawing)
		if s.Free() != test.free || s.Longest() != test.longest {
			t.Errorf("%s: %d free, the longest run %d, want %d and %d", test.drawing, s.Free(), s.Longest(), test.free, test.longest)
		}
	}
}

func TestIsOfNumbersAtTheEnds(t *testing.T) {
	for _, drawing := range wide() {
		s := drawn(t, drawing)
		for _, i := range numbers(len(drawing)) {
			own, there := part(drawing, i, 1)
			if s.Is(i) != (there && own == free) {
				t.Errorf("Is of %d of %s: %t", i, drawing, s.Is(i))
			}
		}
	}
}

func TestWhatIsToldChangesNothing(t *testing.T) {
	for _, drawing := range wide() {
		s := drawn(t, drawing)
		for range 3 {
			s.Free()
			s.Longest()
			s.Is(0)
			s.Copy()
			s.Take(len(drawing) + 1)
		}
		if !isDrawn(s, drawing) {
			t.Errorf("%s: other slots are free behind what is told", drawing)
		}
	}
}

func TestCopyIsOneOfItsOwn(t *testing.T) {
	for _, drawing := range wide() {
		for name, do := range map[string]func(s *Space){
			"Take": func(s *Space) { s.Take(1) }, "Give": func(s *Space) { s.Give(strings.Index(drawing, used), 1) }, "Use": func(s *Space) { s.Use(strings.LastIndex(drawing, free), 1) },
			"Take of all": func(s *Space) {
				for range drawing {
					s.Take(1)
				}
			},
		} {
			s := drawn(t, drawing)
			c := s.Copy()
			if c == s || !isDrawn(c, drawing) || !isDrawn(s, drawing) {
				t.Fatalf("Copy of %s is itself, or has other slots free", drawing)
			}
			if do(c); !isDrawn(s, drawing) {
				t.Errorf("%s of a copy changed the space %s", name, drawing)
			}
			c = s.Copy()
			if do(s); !isDrawn(c, drawing) {
				t.Errorf("%s of a space %s changed the copy", name, drawing)
			}
		}
	}
}

func TestCopyAnswersTheSame(t *testing.T) {
	drawings(8, func(drawing string) {
		s := drawn(t, drawing)
		c := s.Copy().Copy()
		for n := 3; n > 0; n-- {
			at, ok := c.Take(n)
			if first, fits := s.Take(n); at != first || ok != fits {
				t.Errorf("Take of %d of a copy of %s: %d, %t, and of the space %d, %t", n, drawing, at, ok, first, fits)
			}
			if c.Use(n, 1) != s.Use(n, 1) || c.Give(n, 1) != s.Give(n, 1) || c.Free() != s.Free() {
				t.Errorf("Use or Give of slot %d of a copy of %s: another answer", n, drawing)
			}
		}
	})
}

// checkNothing holds that a space has no slot.
func checkNothing(t *testing.T, name string, s *Space) {
	for _, n := range numbers(4) {
		if at, ok := s.Take(n); at != 0 || ok || s.Is(n) || s.Free() != 0 || s.Longest() != 0 {
			t.Errorf("%s has slots: Take of %d: %d, %t", name, n, at, ok)
		}
		for _, at := range numbers(4) {
			if s.Use(at, n) || s.Give(at, n) {
				t.Errorf("%s: Use or Give of %d slots from %d on: true", name, n, at)
			}
		}
	}
}

func TestNilSpaceAndOneThatNobodyMade(t *testing.T) {
	var s *Space
	checkNothing(t, "a nil space", s)
	checkNothing(t, "a copy of a nil space", s.Copy())
	if s.Copy() != nil {
		t.Error("Copy of a nil space is something")
	}
	for range 2 {
		checkNothing(t, "a space that nobody made", &Space{})
		checkNothing(t, "a copy of a space that nobody made", (&Space{}).Copy().Copy())
	}
}

// All of it, by its words.

// step does one thing to a space, and to its drawing; which one hangs on the bytes; it tells whether their answers are alike, and the drawing behind it.
func step(s *Space, drawing string, b []byte) (bool, string) {
	size := len(drawing)
	at, n := int(b[1])%(size+2)-1, int(b[2])%(min(size, 9)+2)-1
	switch b[0] % 4 {
	case 0:
		want, first, fits := taken(drawing, n)
		got, ok := s.Take(n)
		return got == first && ok == fits, want
	case 1:
		*s = *s.Copy()
		return true, drawing
	case 2:
		want, right := changed(drawing, at, n, free, used)
		return s.Use(at, n) == right, want
	default:
		want, right := changed(drawing, at, n, used, free)
		return s.Give(at, n) == right, want
	}
}

func TestManySteps(t *testing.T) {
	for _, size := range append([]int{4, 5, 6, 12, 20}, sizes...) {
		for seed := range 12 {
			s, drawing := New(size), strings.Repeat(free, size)
			for k := range 300 {
				kept, before := s.Copy(), drawing
				b := room.Some(3, 1000*seed+k)
				ok, behind := step(s, drawing, b)
				if !ok || !isDrawn(s, behind) {
					t.Fatalf("size %d, seed %d, step %d, %v of %s: another answer, or other slots are free", size, seed, k, b, drawing)
				}
				if drawing = behind; !isDrawn(kept, before) {
					t.Fatalf("size %d, seed %d, step %d, %v of %s: what was copied ahead has changed", size, seed, k, b, before)
				}
			}
		}
	}
}

// The rules that hold everywhere, of each call.

func TestAnswersHangOnWhichSlotsAreFreeAlone(t *testing.T) {
	for _, drawing := range wide() {
		size := len(drawing)
		for n := 1; n <= min(size, 8); n++ {
			s := drawn(t, drawing)
			other := New(size) // all of it is used, and what is free is given free from the last one on
			other.Use(0, size)
			for i := size - 1; i >= 0; i-- {
				if drawing[i:i+1] == free && !other.Give(i, 1) {
					t.Fatalf("Give of slot %d of %d, which is used: false", i, size)
				}
			}
			for range 4 {
				at, ok := s.Take(n)
				if again, fits := other.Take(n); again != at || fits != ok {
					t.Errorf("Take of %d of %s, made in two ways: %d, %t, and %d, %t", n, drawing, at, ok, again, fits)
				}
			}
		}
	}
}

func TestTwoSpacesAreApart(t *testing.T) {
	s, other := New(8), New(8)
	if s.Use(2, 3); !isDrawn(other, "........") {
		t.Error("a new space has another one's slots")
	}
	if other.Take(8); !isDrawn(s, "..###...") || !isDrawn(New(8), "........") {
		t.Error("a space hangs on another one")
	}
}
