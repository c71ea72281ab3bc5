package room

import (
	"bytes"
	"math"
	"slices"
	"testing"
)

func TestSomeHangsOnSeedAlone(t *testing.T) {
	for _, n := range []int{0, 1, 2, 60, 5000} {
		for _, seed := range []int{-1, 0, 1, 1000} {
			list, again := Some(n, seed), Some(n, seed)
			if len(list) != n || !bytes.Equal(list, again) || Shared(list, again) != -1 {
				t.Errorf("Some of %d bytes, seed %d: %d bytes, and then others, or the same list", n, seed, len(list))
			}
		}
	}
	if bytes.Equal(Some(60, 1), Some(60, 2)) {
		t.Error("Some of two seeds: the same bytes")
	}
}

func TestSomeTellsAllBytes(t *testing.T) {
	list := Some(5000, 1)
	for b := range 256 {
		if !bytes.Contains(list, []byte{byte(b)}) {
			t.Errorf("Some of 5000 bytes: no %d", b)
		}
	}
}

func TestLists(t *testing.T) {
	for _, n := range []int{0, 1, 3} {
		for _, size := range []int{0, 1, 60} {
			all, again := Lists(n, size, 1), Lists(n, size, 1)
			if len(all) != n || !Same(all, again) || Shared(append(all, again...)...) != -1 {
				t.Errorf("Lists, %d of %d bytes: %d, and then others, or the same lists", n, size, len(all))
			}
			for _, list := range again {
				if len(list) != size {
					t.Errorf("Lists of %d bytes: one of %d", size, len(list))
				}
			}
		}
	}
	if all := append(Lists(2, 60, 1), Lists(1, 60, 2)...); bytes.Equal(all[0], all[1]) || bytes.Equal(all[0], all[2]) {
		t.Error("Lists of two places, or of two seeds: the same bytes")
	}
}

func TestTapes(t *testing.T) {
	for _, n := range []int{0, 1, 2, 300} {
		all := Tapes(n)
		for _, want := range [][]byte{make([]byte, n), bytes.Repeat([]byte{255}, n)} {
			if !slices.ContainsFunc(all, func(tape []byte) bool { return bytes.Equal(tape, want) }) {
				t.Errorf("Tapes of %d bytes: %v, without %v", n, all, want)
			}
		}
		for _, tape := range all {
			if len(tape) != n {
				t.Errorf("Tapes of %d bytes: one of %d", n, len(tape))
			}
		}
	}
}

func TestSame(t *testing.T) {
	lists := [][][]byte{nil, {nil}, {{0}}, {{1}}, {{0}, nil}, {nil, {0}}, {{0, 0}}, {{0}, {0}}, {{0}, {1}}}
	for a := range lists {
		for b := range lists {
			if got := Same(lists[a], lists[b]); got != (a == b) {
				t.Errorf("Same of %v and %v: %t", lists[a], lists[b], got)
			}
		}
	}
	if !Same(nil, [][]byte{}) || !Same([][]byte{nil}, [][]byte{{}}) {
		t.Error("Same of lists that are nil, and empty ones: false")
	}
}

func TestOfSeesChanges(t *testing.T) {
	for _, p := range [][]byte{nil, {7}, {1, 2, 3}} {
		list, unchanged := Of(p...)
		if !bytes.Equal(list, p) || cap(list) <= len(list) || !unchanged() {
			t.Fatalf("Of %v: %v", p, list)
		}
		for k := range whole(list)[:len(p)+4] {
			whole(list)[k] ^= 1
			if unchanged() {
				t.Errorf("Of %v: a change at place %d is not seen", p, k)
			}
			whole(list)[k] ^= 1
		}
		if !unchanged() {
			t.Errorf("Of %v: changed back", p)
		}
	}
}

func TestTextsSeesChanges(t *testing.T) {
	for _, p := range [][]string{nil, {""}, {"a", "b", "a"}} {
		list, unchanged := Texts(p...)
		if !slices.Equal(list, p) || cap(list) <= len(list) || !unchanged() {
			t.Fatalf("Texts of %q: %q", p, list)
		}
		all := list[:len(p)+4]
		for k, s := range all {
			for _, other := range []string{"", s + "x", "other"} {
				all[k] = other
				if other != s && unchanged() {
					t.Errorf("Texts of %q: %q at place %d is not seen", p, other, k)
				}
			}
			all[k] = s
		}
		if !unchanged() {
			t.Errorf("Texts of %q: changed back", p)
		}
	}
}

func TestTextsIsACopy(t *testing.T) {
	p := []string{"a", "b", "c", "d", "e", "f"}
	list, unchanged := Texts(p[:2]...)
	p[0], p[2] = "x", "y"
	if !unchanged() || !slices.Equal(list, []string{"a", "b"}) {
		t.Error("Texts shares memory with what it was given")
	}
	list[1] = "z"
	if p[1] != "b" {
		t.Error("what was given shares memory with Texts")
	}
}

func TestNumbersSeesChanges(t *testing.T) {
	for _, p := range [][]int{nil, {0}, {1, 2, 1}, {math.MinInt, math.MaxInt}} {
		list, unchanged := Numbers(p...)
		if !slices.Equal(list, p) || cap(list) <= len(list) || !unchanged() {
			t.Fatalf("Numbers of %v: %v", p, list)
		}
		all := list[:len(p)+4]
		for k, n := range all {
			for _, other := range []int{0, n + 1, -n, math.MaxInt32} {
				all[k] = other
				if other != n && unchanged() {
					t.Errorf("Numbers of %v: %d at place %d is not seen", p, other, k)
				}
			}
			all[k] = n
		}
		if !unchanged() {
			t.Errorf("Numbers of %v: changed back", p)
		}
	}
}

func TestNumbersIsACopy(t *testing.T) {
	p := []int{1, 2, 3, 4, 5, 6}
	list, unchanged := Numbers(p[:2]...)
	p[0], p[2] = 7, 8
	if !unchanged() || !slices.Equal(list, []int{1, 2}) {
		t.Error("Numbers shares memory with what it was given")
	}
	list[1] = 9
	if p[1] != 2 {
		t.Error("what was given shares memory with Numbers")
	}
}

// pair is a thing of two fields.
type pair struct{ a, b int }

func TestMarkedSeesChanges(t *testing.T) {
	marks := []pair{{170, 1}, {171, 2}}
	for _, p := range [][]pair{nil, {{0, 0}}, {{1, 2}, {2, 1}, {1, 2}}} {
		list, unchanged := Marked(p, marks...)
		if !slices.Equal(list, p) || cap(list) < len(p)+len(marks) || !unchanged() {
			t.Fatalf("Marked of %v: %v", p, list)
		}
		all := list[:len(p)+len(marks)]
		if !slices.Equal(all[len(p):], marks) {
			t.Errorf("Marked of %v: behind it %v, want %v", p, all[len(p):], marks)
		}
		for k, was := range all {
			for _, other := range []pair{{was.a + 1, was.b}, {was.a, was.b - 1}, {-1, -1}} {
				if all[k] = other; unchanged() {
					t.Errorf("Marked of %v: %v at place %d is not seen", p, other, k)
				}
			}
			all[k] = was
		}
		if !unchanged() {
			t.Errorf("Marked of %v: changed back", p)
		}
	}
}

func TestMarkedIsACopy(t *testing.T) {
	p := []pair{{1, 1}, {2, 2}, {3, 3}, {4, 4}}
	list, unchanged := Marked(p[:1], p[1:2]...)
	if p[0], p[1], p[2] = (pair{7, 7}), (pair{8, 8}), (pair{9, 9}); !unchanged() || list[0] != (pair{1, 1}) {
		t.Error("Marked shares memory with what it was given")
	}
}

func TestOfIsACopy(t *testing.T) {
	p := []byte{1, 2, 3, 4, 5, 6, 7, 8}
	list, unchanged := Of(p[:3]...)
	p[0] = 9
	if !unchanged() || Shared(p, list) != -1 {
		t.Error("Of shares memory with what it was given")
	}
}

func TestRowsSeesChanges(t *testing.T) {
	for _, rows := range [][][]byte{nil, {nil}, {{7}}, {{1, 2}, {}, {1, 2}}} {
		list, unchanged := Rows(rows...)
		if !slices.EqualFunc(list, rows, bytes.Equal) || cap(list) < len(list)+2 || !unchanged() {
			t.Fatalf("Rows of %v: %v", rows, list)
		}
		all := list[:len(list)+2]
		for k, row := range all {
			whole(row)[len(row)]++
			if unchanged() {
				t.Errorf("Rows of %v: a change behind list %d is not seen", rows, k)
			}
			whole(row)[len(row)]--
			for _, other := range [][]byte{nil, bytes.Clone(row), row[:0:0], whole(row)} {
				all[k] = other
				if unchanged() {
					t.Errorf("Rows of %v: another list at place %d is not seen", rows, k)
				}
			}
			all[k] = row
		}
		if !unchanged() {
			t.Errorf("Rows of %v: changed back", rows)
		}
	}
}

func TestRowsSeesTwoListsChangePlaces(t *testing.T) {
	list, unchanged := Rows([]byte{1, 2}, []byte{1, 2})
	list[0], list[1] = list[1], list[0]
	if unchanged() {
		t.Error("two lists that have changed places are not seen")
	}
}

func TestRowsIsACopy(t *testing.T) {
	rows := [][]byte{{1, 2}, {3}}
	list, unchanged := Rows(rows...)
	rows[0][0], rows[1] = 9, nil
	if !unchanged() || Shared(append(list, rows...)...) != -1 {
		t.Error("Rows shares memory with what it was given")
	}
}

func TestShared(t *testing.T) {
	buffer := func() []byte { return []byte{1, 2, 3, 4, 5, 6} }
	a, b, c, d := buffer(), buffer(), buffer(), buffer()
	for _, test := range []struct {
		name  string
		lists [][]byte
		want  int
	}{
		{"none", nil, -1},
		{"nil and empty ones", [][]byte{nil, {}, nil, {}}, -1},
		{"apart", [][]byte{{1, 2}, {1, 2}, {}, {3}}, -1},
		{"the same twice", [][]byte{{1}, a, {2}, a}, 3},
		{"a spare room ahead", [][]byte{b[:2], b[2:4:4]}, 1},
		{"a spare room behind", [][]byte{c[2:4:4], {1}, c[:2]}, 2},
		{"pieces apart", [][]byte{d[:2:2], d[2:4:4], d[4:]}, -1},
	} {
		if got := Shared(test.lists...); got != test.want {
			t.Errorf("%s: %d, want %d", test.name, got, test.want)
		}
	}
}
