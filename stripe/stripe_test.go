package stripe

import (
	"bytes"
	"math"
	"slices"
	"testing"

	"sherd/api"
	"sherd/room"
)

// ofL is a plan whose stripes have l bytes.
func ofL(l int) api.Plan {
	return room.Plan(129, 1, l, 129)
}

// most is how many bytes a stripe may have.
const most = 127

// cut tells a blob's stripes, by the document's words, byte by byte.
func cut(l int, b []byte) [][]byte {
	var all [][]byte
	for k, c := range b {
		if k%l == 0 {
			all = append(all, make([]byte, l))
		}
		all[k/l][k%l] = c
	}
	return all
}

// zeros tells a list of some stripes of l bytes 0.
func zeros(count, l int) [][]byte {
	list := make([][]byte, count)
	for k := range list {
		list[k] = make([]byte, l)
	}
	return list
}

// P9.1

func TestCutOfKnownBlobs(t *testing.T) {
	for _, test := range []struct {
		l    int
		blob string
		want []string
	}{
		{2, "abc", []string{"ab", "c\x00"}}, {2, "abcd", []string{"ab", "cd"}}, {2, "ab", []string{"ab"}}, {2, "a", []string{"a\x00"}}, {2, "", nil},
		{1, "abc", []string{"a", "b", "c"}}, {1, "a", []string{"a"}}, {1, "\x00", []string{"\x00"}}, {1, "", nil},
		{3, "abcdefg", []string{"abc", "def", "g\x00\x00"}}, {3, "abcdefgh", []string{"abc", "def", "gh\x00"}}, {3, "abcdefghi", []string{"abc", "def", "ghi"}},
		{5, "ab", []string{"ab\x00\x00\x00"}}, {5, "\x00\x00", []string{"\x00\x00\x00\x00\x00"}}, {5, "\xff\x00\xff\x00\xff\x00", []string{"\xff\x00\xff\x00\xff", "\x00\x00\x00\x00\x00"}},
		{2, "aaaa", []string{"aa", "aa"}}, {2, "aa\x00\x00", []string{"aa", "\x00\x00"}}, {2, "aa\x00", []string{"aa", "\x00\x00"}},
	} {
		got, e := Cut(ofL(test.l), []byte(test.blob))
		if e != api.OK || len(got) != len(test.want) {
			t.Errorf("Cut of %q with L %d: %q, %d, want %q", test.blob, test.l, got, e, test.want)
			continue
		}
		for k, want := range test.want {
			if string(got[k]) != want {
				t.Errorf("Cut of %q with L %d: %q, want %q", test.blob, test.l, got, test.want)
			}
		}
	}
}

func TestCutOfAllSizes(t *testing.T) {
	for l := 1; l <= most; l++ {
		for size := range 241 {
			b := room.Some(size, 300*l+size)
			if got, e := Cut(ofL(l), b); e != api.OK || !room.Same(got, cut(l, b)) {
				t.Fatalf("Cut of %v with L %d: %v, %d", b, l, got, e)
			}
		}
	}
}

func TestCutOfNothing(t *testing.T) {
	for l := 1; l <= most; l++ {
		for _, b := range [][]byte{nil, {}, room.Some(9, 1)[:0]} {
			if got, e := Cut(ofL(l), b); e != api.OK || len(got) != 0 {
				t.Errorf("Cut of no bytes with L %d: %v, %d", l, got, e)
			}
		}
	}
}

func TestCutHangsOnLAlone(t *testing.T) {
	for _, p := range room.RightPlans() {
		for _, size := range room.Sizes(p.L) {
			b := room.Some(size, size)
			if got, e := Cut(p, b); e != api.OK || !room.Same(got, cut(p.L, b)) {
				t.Fatalf("Cut of %d bytes with %+v: %v, %d", size, p, got, e)
			}
		}
		if got, e := Cut(p, make([]byte, 241)); e != api.ErrBig || len(got) != 0 {
			t.Fatalf("Cut of 241 bytes with %+v: %v, %d", p, got, e)
		}
	}
}

func TestCutOfTooManyBytes(t *testing.T) {
	for _, size := range []int{241, 242, 255, 256, 257, 480, 496, 65535, 65536, 65536 + 240, 1 << 20} {
		for _, l := range []int{1, 2, 3, 64, most} {
			if got, e := Cut(ofL(l), room.Some(size, 1)); e != api.ErrBig || len(got) != 0 {
				t.Errorf("Cut of %d bytes with L %d: %v, %d", size, l, got, e)
			}
		}
	}
}

func TestCutWithAPlanThatMayNotBe(t *testing.T) {
	for _, p := range room.WrongPlans() {
		for _, size := range []int{0, 1, 3, 240, 241, 1000} { // ErrArg is told ahead of ErrBig
			if got, e := Cut(p, make([]byte, size)); e != api.ErrArg || len(got) != 0 {
				t.Errorf("Cut of %d bytes with %+v: %v, %d", size, p, got, e)
			}
		}
	}
}

// P9.2

func TestJoinOfKnownStripes(t *testing.T) {
	for _, test := range []struct {
		l       int
		stripes []string
		size    int
		want    string
		e       api.Errno
	}{
		{2, []string{"ab", "c\x00"}, 3, "abc", api.OK}, {2, []string{"ab", "cd"}, 3, "abc", api.OK}, {2, []string{"ab", "cd"}, 4, "abcd", api.OK}, {2, []string{"ab"}, 1, "a", api.OK},
		{2, []string{"ab", "cd"}, 2, "", api.ErrForm}, {2, []string{"ab", "cd"}, 5, "", api.ErrForm}, {2, []string{"ab", "cd"}, 1, "", api.ErrForm}, {2, []string{"ab", "cd"}, 0, "", api.ErrForm},
		{2, nil, 0, "", api.OK}, {2, []string{}, 0, "", api.OK}, {2, nil, 1, "", api.ErrForm}, {2, []string{""}, 0, "", api.ErrForm}, {2, []string{"ab"}, 0, "", api.ErrForm},
		{2, []string{"ab", "c"}, 3, "", api.ErrForm}, {2, []string{"a", "bc"}, 3, "", api.ErrForm}, {2, []string{"abc", "d"}, 4, "", api.ErrForm}, {2, []string{"abcd"}, 4, "", api.ErrForm}, {2, []string{"abcd", ""}, 4, "", api.ErrForm},
		{2, []string{"ab", "cd", ""}, 4, "", api.ErrForm}, {2, []string{"ab", "cde"}, 4, "", api.ErrForm}, {2, []string{"ab", "cde"}, 3, "", api.ErrForm}, {2, []string{"ab", ""}, 3, "", api.ErrForm},
		{1, []string{"a", "b", "c"}, 3, "abc", api.OK}, {1, []string{"a", "b", "c"}, 2, "", api.ErrForm}, {1, []string{"a", "b", ""}, 3, "", api.ErrForm}, {1, []string{"a", "b", ""}, 2, "", api.ErrForm},
		{3, []string{"abc", "def", "ghi"}, 7, "abcdefg", api.OK}, {3, []string{"abc", "def", "ghi"}, 9, "abcdefghi", api.OK}, {3, []string{"abc", "def", "ghi"}, 6, "", api.ErrForm}, {3, []string{"abc", "def", "ghi"}, 10, "", api.ErrForm},
		{5, []string{"\x00\x00\x00\x00\x00"}, 2, "\x00\x00", api.OK}, {5, []string{"\xff\xff\xff\xff\xff"}, 4, "\xff\xff\xff\xff", api.OK},
	} {
		var list [][]byte
		for _, s := range test.stripes {
			list = append(list, []byte(s))
		}
		if got, e := Join(ofL(test.l), list, test.size); string(got) != test.want || e != test.e {
			t.Errorf("Join of %q with L %d and size %d: %q, %d, want %q, %d", test.stripes, test.l, test.size, got, e, test.want, test.e)
		}
	}
}

// full are as many stripes as a blob of that size has, none of them filled up.
func full(l, size int) [][]byte {
	return cut(l, room.Some((size+l-1)/l*l, size+l))
}

func TestJoinOfAllSizes(t *testing.T) {
	for l := 1; l <= most; l++ {
		for size := range 241 {
			list := full(l, size)
			want := slices.Concat(list...)[:size]
			if got, e := Join(ofL(l), list, size); e != api.OK || !bytes.Equal(got, want) {
				t.Fatalf("Join of %v with L %d and size %d: %v, %d", list, l, size, got, e)
			}
		}
	}
}

func TestJoinHangsOnLAlone(t *testing.T) {
	for _, p := range room.RightPlans() {
		for _, size := range room.Sizes(p.L) {
			list := full(p.L, size)
			want := slices.Concat(list...)[:size]
			if got, e := Join(p, list, size); e != api.OK || !bytes.Equal(got, want) {
				t.Fatalf("Join of %v with %+v and size %d: %v, %d", list, p, size, got, e)
			}
		}
	}
}

func TestJoinOfNotAsManyStripes(t *testing.T) {
	for l := 1; l <= most; l++ {
		for _, size := range room.Sizes(l) {
			right := (size + l - 1) / l
			for _, count := range []int{0, 1, 2, right - 2, right - 1, right, right + 1, right + 2, 2 * right, 240, 241, right + 256} {
				if count < 0 {
					continue
				}
				want := api.ErrForm
				if count == right {
					want = api.OK
				}
				if got, e := Join(ofL(l), zeros(count, l), size); e != want || e != api.OK && len(got) != 0 {
					t.Fatalf("Join of %d stripes with L %d and size %d: %v, %d, want %d", count, l, size, got, e, want)
				}
			}
		}
	}
}

func TestJoinOfAStripeThatHasNotLBytes(t *testing.T) {
	for _, l := range []int{1, 2, 3, 7, 64, 120, most} {
		for _, size := range room.Sizes(l) {
			list := full(l, size)
			for k, s := range list {
				for _, other := range [][]byte{nil, {}, s[:l-1], append(slices.Clone(s), 0), append(slices.Clone(s), s...), make([]byte, l+256)} {
					list[k] = other
					if got, e := Join(ofL(l), list, size); e != api.ErrForm || len(got) != 0 {
						t.Fatalf("Join with a stripe %d of %d bytes, with L %d and size %d: %v, %d", k, len(other), l, size, got, e)
					}
				}
				list[k] = s
			}
			if len(list) > 1 { // as many bytes in all, but not in each stripe
				list[0], list[1] = slices.Concat(list[0], list[1][:1]), list[1][1:]
				if got, e := Join(ofL(l), list, size); e != api.ErrForm || len(got) != 0 {
					t.Fatalf("Join of stripes of %d, %d and more bytes, with L %d and size %d: %v, %d", l+1, l-1, l, size, got, e)
				}
			}
		}
	}
}

func TestJoinOfSizesOutOfRange(t *testing.T) {
	wrong := []int{-240, 241, 242, 254, 257, 480, 512, 1<<32 + 3, math.MinInt + 3, math.MinInt + 240}
	for _, size := range append(wrong, room.Ends()...) {
		if size == 0 {
			continue
		}
		for l := 1; l <= most; l++ {
			for _, list := range [][][]byte{nil, zeros(1, l), zeros(2, l), zeros((241+l-1)/l, l), zeros(1, l+1), {nil}} { // ErrRange is told ahead of ErrForm
				if got, e := Join(ofL(l), list, size); e != api.ErrRange || len(got) != 0 {
					t.Fatalf("Join of %d stripes with L %d and size %d: %v, %d", len(list), l, size, got, e)
				}
			}
		}
	}
}

func TestJoinWithAPlanThatMayNotBe(t *testing.T) {
	lists := [][][]byte{nil, zeros(1, 0), zeros(1, 1), zeros(2, 2), zeros(3, 1), zeros(3, 2), zeros(240, 1), {nil}}
	for _, p := range room.WrongPlans() {
		for _, list := range lists {
			for _, size := range append(room.Ends(), 1, 2, 3, 239, 240, 241) { // ErrArg is told ahead of ErrRange and ErrForm
				if got, e := Join(p, list, size); e != api.ErrArg || len(got) != 0 {
					t.Errorf("Join of %d stripes with %+v and size %d: %v, %d", len(list), p, size, got, e)
				}
			}
		}
	}
}

// P9.3

func TestJoinOfCutIsTheBlob(t *testing.T) {
	for l := 1; l <= most; l++ {
		for size := range 241 {
			b := room.Some(size, 7*size+l)
			list, e := Cut(ofL(l), b)
			if e != api.OK {
				t.Fatalf("Cut of %d bytes with L %d: %d", size, l, e)
			}
			if got, e := Join(ofL(l), list, size); e != api.OK || !bytes.Equal(got, b) {
				t.Fatalf("Join of Cut of %v with L %d: %v, %d", b, l, got, e)
			}
		}
	}
}

func TestJoinOfCutIsTheBlobWithManyPlans(t *testing.T) {
	for _, p := range room.RightPlans() {
		for _, size := range room.Sizes(p.L) {
			for _, b := range [][]byte{make([]byte, size), bytes.Repeat([]byte{255}, size), room.Some(size, p.L)} {
				list, _ := Cut(p, b)
				if got, e := Join(p, list, size); e != api.OK || !bytes.Equal(got, b) {
					t.Fatalf("Join of Cut of %v with %+v: %v, %d", b, p, got, e)
				}
			}
		}
	}
}

// The rules that hold everywhere, of each call.

func TestWhatIsHandedInIsNotChanged(t *testing.T) {
	for _, l := range []int{1, 2, 3, 64, most} {
		for _, size := range append(room.Sizes(l), 241) {
			b, sameBlob := room.Of(room.Some(size, l)...)
			Cut(ofL(l), b)
			Cut(api.Plan{}, b)
			if !sameBlob() {
				t.Fatalf("Cut with L %d changed a blob of %d bytes, or its spare room", l, size)
			}
			list, sameList := room.Rows(full(l, size)...)
			for _, n := range []int{size, size - 1, size + l, -1, 241} {
				Join(ofL(l), list, n)
				Join(api.Plan{}, list, n)
			}
			if !sameList() {
				t.Fatalf("Join with L %d changed the stripes of %d bytes, or their spare room", l, size)
			}
		}
	}
}

func TestSpareRoomIsNotRead(t *testing.T) {
	b, _ := room.Of([]byte("abc")...)
	if got, e := Cut(ofL(2), b); e != api.OK || !room.Same(got, [][]byte{[]byte("ab"), {'c', 0}}) {
		t.Errorf("Cut of 3 bytes with spare room: %v, %d", got, e)
	}
	whole := []byte("abcdef")
	if got, e := Cut(ofL(4), whole[1:2]); e != api.OK || !room.Same(got, [][]byte{{'b', 0, 0, 0}}) {
		t.Errorf("Cut of a byte with spare room: %v, %d", got, e)
	}
	list := [][]byte{whole[0:2], whole[2:3], whole[4:6]}
	if got, e := Join(ofL(2), list, 5); e != api.ErrForm || len(got) != 0 {
		t.Errorf("Join of a stripe that lacks a byte, with spare room: %v, %d", got, e)
	}
	if got, e := Join(ofL(2), list[:1], 3); e != api.ErrForm || len(got) != 0 {
		t.Errorf("Join of a list that lacks a stripe, with spare room: %v, %d", got, e)
	}
}

func TestAnswersShareNoMemory(t *testing.T) {
	for _, l := range []int{1, 2, 3, 64, most} {
		for _, size := range room.Sizes(l) {
			b := room.Some(size, 1)
			first, _ := Cut(ofL(l), b)
			second, _ := Cut(ofL(l), b)
			joined, _ := Join(ofL(l), first, size)
			again, _ := Join(ofL(l), first, size)
			if k := room.Shared(slices.Concat([][]byte{b, joined, again}, first, second)...); k >= 0 {
				t.Errorf("with L %d and size %d: list %d shares memory with one ahead of it", l, size, k)
			}
			if whole := second[:cap(second)]; len(whole) > 0 {
				kept := slices.Clone(first)
				clear(whole)
				if !room.Same(first, kept) {
					t.Errorf("with L %d and size %d: the lists of two answers share memory", l, size)
				}
			}
		}
	}
}

func TestPartsEndWhereTheyAreLeft(t *testing.T) {
	met := 0
	for k := range parts(ofL(2), make([]byte, 9)) {
		met++
		if k == 1 {
			break
		}
	}
	if met != 2 {
		t.Errorf("left at part 1: %d parts", met)
	}
}
