package label

import (
	"bytes"
	"math"
	"regexp"
	"slices"
	"strings"
	"testing"

	"sherd/pack"
	"sherd/room"
)

// longest is a name that has as many bytes as a name may have.
const longest = "abcdefghijklmnop"

// isName tells whether a text is a name, by the document's words.
var isName = regexp.MustCompile(`\A[a-z0-9][a-z0-9-]{0,15}\z`).MatchString

// P7.1

func TestRightOfKnownTexts(t *testing.T) {
	for _, s := range room.Names() {
		if !Right(s) {
			t.Errorf("Right of the name %q", s)
		}
	}
	for _, s := range room.WrongNames() {
		if Right(s) {
			t.Errorf("Right of %q, which is no name", s)
		}
	}
}

func TestRightOfEachByteAtEachPlace(t *testing.T) {
	for n := 1; n <= 18; n++ {
		for place := range n {
			for b := range 256 {
				text := bytes.Repeat([]byte{'m'}, n)
				text[place] = byte(b)
				if s := string(text); Right(s) != isName(s) {
					t.Errorf("Right of %q: %v", s, Right(s))
				}
			}
		}
	}
}

func TestRightOfTwoBytes(t *testing.T) {
	for a := range 256 {
		for b := range 256 {
			if s := string([]byte{byte(a), byte(b)}); Right(s) != isName(s) {
				t.Errorf("Right of %q: %v", s, Right(s))
			}
		}
	}
}

// less tells whether a text is less than another one, byte by byte, by the document's words.
func less(a, b string) bool {
	for k := range len(b) {
		if k == len(a) {
			return true // b begins with a
		}
		if a[k] != b[k] {
			return a[k] < b[k]
		}
	}
	return false
}

func TestLessOfKnownTexts(t *testing.T) {
	rising := []string{"", "\x00", "\x00\x00", "\x00\x01", "\x01", " ", "-", "-a", "0", "00", "9", "A", "Z", "a", "a\x00", "a-", "a--", "a-a", "a0", "aa", "ab", "b", "ba", "z", "zz", "{", "\x7f", "\x80", "\xc3", "\xc3\xa4", "\xc3\xa5", "\xe2\x82\xac", "\xfe\xff", "\xff", "\xff\x00", "\xff\xff"}
	for i, a := range rising {
		for j, b := range rising {
			if got := Less(a, b); got != (i < j) {
				t.Errorf("Less of %q and %q: %v", a, b, got)
			}
		}
	}
}

func TestLessOfManyTexts(t *testing.T) {
	var all []string
	for n := range 40 {
		all = append(all, string(room.Some(n%5, n)), strings.Repeat("a", n), strings.Repeat("a", n)+"\xff", strings.Repeat("a", n)+"-")
	}
	all = append(all, room.Names()...)
	all = append(all, room.WrongNames()...)
	for _, a := range all {
		for _, b := range all {
			if got := Less(a, b); got != less(a, b) || got != (bytes.Compare([]byte(a), []byte(b)) < 0) {
				t.Errorf("Less of %q and %q: %v", a, b, got)
			}
		}
	}
}

// P7.2

func TestMergeOfKnownLists(t *testing.T) {
	for _, test := range []struct {
		lists [][]string
		want  []string
	}{
		{nil, nil}, {[][]string{}, nil}, {[][]string{nil}, nil}, {[][]string{nil, {}, nil}, nil},
		{[][]string{{"a"}}, []string{"a"}},
		{[][]string{{"a", "a", "a"}}, []string{"a"}},
		{[][]string{{"c", "b", "a"}}, []string{"a", "b", "c"}},
		{[][]string{{"c", "a"}, nil, {"b", "c", "c"}}, []string{"a", "b", "c"}},
		{[][]string{{"a"}, {"a"}, {"a"}}, []string{"a"}},
		{[][]string{{"a", "b"}, {"c", "d"}, {}}, []string{"a", "b", "c", "d"}},
		{[][]string{{"a0", "a-", "a", "aa"}, {"0", "9", "a-"}}, []string{"0", "9", "a", "a-", "a0", "aa"}},
		{[][]string{{""}}, []string{""}},
		{[][]string{{"b", ""}, {"", "a"}}, []string{"", "a", "b"}},
		{[][]string{{"\xff", "A", "-", "ä"}, {"a_", "\x00", "z"}}, []string{"\x00", "-", "A", "a_", "z", "ä", "\xff"}},
		{[][]string{{strings.Repeat("a", 300), "a"}, {strings.Repeat("a", 299)}}, []string{"a", strings.Repeat("a", 299), strings.Repeat("a", 300)}},
	} {
		if got := Merge(test.lists...); !slices.Equal(got, test.want) {
			t.Errorf("Merge of %q: %q, want %q", test.lists, got, test.want)
		}
	}
	if got := Merge(); len(got) != 0 {
		t.Errorf("Merge of no lists: %q", got)
	}
}

// merged tells all texts of some lists, by putting each one into its place.
func merged(lists [][]string) []string {
	var all []string
	for _, list := range lists {
		for _, s := range list {
			place := 0
			for place < len(all) && less(all[place], s) {
				place++
			}
			if place == len(all) || all[place] != s {
				all = slices.Insert(all, place, s)
			}
		}
	}
	return all
}

func TestMergeOfManyLists(t *testing.T) {
	for count := range 30 {
		var lists [][]string
		for k := range count {
			var list []string
			for _, b := range room.Some(count*k%23, count*31+k) {
				list = append(list, room.Names()[int(b)%len(room.Names())], string([]byte{b % 8}))
			}
			lists = append(lists, list)
		}
		if got, want := Merge(lists...), merged(lists); !slices.Equal(got, want) {
			t.Errorf("Merge of %q: %q, want %q", lists, got, want)
		}
	}
}

func TestMergeOfManyTexts(t *testing.T) {
	var lists [2000][]string
	for k := range lists {
		s := string([]byte{byte(k >> 8), byte(k)})
		lists[len(lists)-1-k] = []string{s, s, "\x00\x00"}
	}
	got := Merge(lists[:]...)
	if len(got) != len(lists) {
		t.Fatalf("Merge: %d texts", len(got))
	}
	for k, s := range got {
		if s != string([]byte{byte(k >> 8), byte(k)}) {
			t.Fatalf("Merge: %q at place %d", s, k)
		}
	}
}

func TestAfterOfKnownTexts(t *testing.T) {
	l := []string{"a", "a-", "b", "c"}
	for _, test := range []struct {
		l    []string
		s    string
		most int
		want []string
		all  bool
	}{
		{l, "", 8, []string{"a", "a-", "b", "c"}, true}, {l, "", 4, []string{"a", "a-", "b", "c"}, true}, {l, "", 3, []string{"a", "a-", "b"}, false},
		{l, "", 1, []string{"a"}, false}, {l, "", 0, nil, false}, {l, "", -1, nil, false}, {l, "", math.MinInt, nil, false}, {l, "", math.MaxInt, []string{"a", "a-", "b", "c"}, true},
		{l, "a", 3, []string{"a-", "b", "c"}, true}, {l, "a", 2, []string{"a-", "b"}, false}, {l, "a-", 1, []string{"b"}, false}, {l, "a-", 2, []string{"b", "c"}, true},
		{l, "a0", 2, []string{"b", "c"}, true}, {l, "a0", 1, []string{"b"}, false}, {l, "b", 1, []string{"c"}, true}, {l, "b", 0, nil, false}, {l, "b", -5, nil, false},
		{l, "c", 1, nil, true}, {l, "c", 0, nil, true}, {l, "c", -1, nil, true}, {l, "d", 8, nil, true}, {l, "\xff", math.MinInt, nil, true}, {l, "\xff", math.MaxInt, nil, true},
		{l, "A", 9, []string{"a", "a-", "b", "c"}, true}, {l, "-a", 1, []string{"a"}, false},
		{nil, "", 8, nil, true}, {nil, "", 0, nil, true}, {nil, "a", -1, nil, true}, {[]string{}, "", math.MaxInt, nil, true}, {[]string{}, "a", math.MinInt, nil, true},
		{[]string{""}, "", 8, nil, true}, {[]string{"", "a"}, "", 1, []string{"a"}, true}, {[]string{"", "\x00", "\xff"}, "\x00", 1, []string{"\xff"}, true},
		{[]string{"", "\x00", "\xff"}, "", 1, []string{"\x00"}, false},
	} {
		if got, all := After(test.l, test.s, test.most); !slices.Equal(got, test.want) || all != test.all {
			t.Errorf("After of %q, %q, %d: %q, %v, want %q, %v", test.l, test.s, test.most, got, all, test.want, test.all)
		}
	}
}

func TestAfterOfAllPlaces(t *testing.T) {
	l := merged([][]string{room.Names(), room.WrongNames(), {"\x00", "\xff", "-"}})
	mosts := []int{math.MinInt, math.MinInt + 1, math.MinInt32, -256, -2, -1, math.MaxInt32, math.MaxInt32 + 1, math.MaxInt - 1, math.MaxInt}
	for most := range len(l) + 3 {
		mosts = append(mosts, most)
	}
	for from := range l {
		for _, s := range []string{l[from], l[from] + "\x00", l[from] + "-", "", "\xff\xff"} {
			place := 0
			for place < len(l) && !less(s, l[place]) {
				place++
			}
			for _, most := range mosts {
				some := min(max(most, 0), len(l)-place)
				got, all := After(l, s, most)
				if want := l[place : place+some]; !slices.Equal(got, want) || all != (some == len(l)-place) {
					t.Fatalf("After of %d texts, %q, %d: %q, %v, want %q", len(l), s, most, got, all, want)
				}
			}
		}
	}
}

func TestPageByPageAllTextsAreMet(t *testing.T) {
	l := merged([][]string{room.Names()})
	for most := 1; most <= len(l)+1; most++ {
		var met []string
		last, all := "", false
		for !all {
			var page []string
			page, all = After(l, last, most)
			if !all && len(page) != most {
				t.Fatalf("a page of %d: %q, though more are behind", most, page)
			}
			met = append(met, page...)
			if len(page) > 0 {
				last = page[len(page)-1]
			}
		}
		if !slices.Equal(met, l) {
			t.Errorf("page by page of %d: %q", most, met)
		}
	}
}

// P7.3

// putBytes are those that Put writes, by the document's words.
func putBytes(s string) []byte {
	b := make([]byte, 17)
	if isName(s) {
		b[0] = byte(len(s))
		for k := range len(s) {
			b[1+k] = s[k]
		}
	}
	return b
}

// put is what Put writes into a new Writer.
func put(s string) []byte {
	var w pack.Writer
	Put(&w, s)
	return w.Bytes()
}

func TestPutOfKnownTexts(t *testing.T) {
	for s, want := range map[string]string{
		"ab":    "\x02ab\x00\x00\x00\x00\x00\x00\x00\x00\x00\x00\x00\x00\x00\x00",
		"a":     "\x01a\x00\x00\x00\x00\x00\x00\x00\x00\x00\x00\x00\x00\x00\x00\x00",
		"0-z":   "\x030-z\x00\x00\x00\x00\x00\x00\x00\x00\x00\x00\x00\x00\x00",
		longest: "\x10abcdefghijklmnop",
		"-a":    strings.Repeat("\x00", 17),
		"":      strings.Repeat("\x00", 17),
	} {
		if got := put(s); string(got) != want {
			t.Errorf("Put of %q: %v, want %v", s, got, []byte(want))
		}
	}
	for _, s := range slices.Concat(room.Names(), room.WrongNames()) {
		if got, want := put(s), putBytes(s); !bytes.Equal(got, want) {
			t.Errorf("Put of %q: %v, want %v", s, got, want)
		}
	}
}

func TestPutIsBehindWhatWasWritten(t *testing.T) {
	var w pack.Writer
	var want []byte
	for k, s := range slices.Concat(room.Names(), room.WrongNames()) {
		w.Num(2, k)
		Put(&w, s)
		want = slices.Concat(want, []byte{byte(k >> 8), byte(k)}, putBytes(s))
		if got := w.Bytes(); !bytes.Equal(got, want) {
			t.Fatalf("after Put of %q: %v, want %v", s, got, want)
		}
	}
}

func TestGetOfPutIsTheName(t *testing.T) {
	for _, s := range room.Names() {
		r := pack.Read(put(s))
		if got, ok := Get(r); got != s || !ok || !r.Done() {
			t.Errorf("Get of Put of %q: %q, %v", s, got, ok)
		}
	}
	for _, s := range room.WrongNames() {
		r := pack.Read(put(s))
		if got, ok := Get(r); got != "" || ok || !r.Done() {
			t.Errorf("Get of Put of %q, which is no name: %q, %v", s, got, ok)
		}
	}
}

func TestGetOfNamesOneBehindTheOther(t *testing.T) {
	var w pack.Writer
	all := slices.Concat(room.Names(), room.WrongNames(), room.Names())
	for k, s := range all {
		Put(&w, s)
		w.Num(1, k)
	}
	r := pack.Read(w.Bytes())
	for k, s := range all {
		want := ""
		if isName(s) {
			want = s
		}
		if got, ok := Get(r); got != want || ok != isName(s) {
			t.Fatalf("Get %d: %q, %v, want %q", k, got, ok, want)
		}
		if got := r.Num(1); got != k%256 || !r.Good() {
			t.Fatalf("behind Get %d: %d", k, got)
		}
	}
	if !r.Done() {
		t.Errorf("%d bytes are left", r.Left())
	}
}

func TestGetOfEachByteAtEachPlace(t *testing.T) {
	for _, s := range []string{"", "a", "ab", "a-b", longest[:8], longest[:14], longest[:15], longest} {
		for place := range 17 {
			for b := range 256 {
				text := putBytes(s)
				text[place] = byte(b)
				want, right := "", false
				if n := int(text[0]); n <= 16 && isName(string(text[1:1+n])) && bytes.Equal(text, putBytes(string(text[1:1+n]))) {
					want, right = string(text[1:1+n]), true
				}
				if got, ok := Get(pack.Read(text)); got != want || ok != right {
					t.Errorf("Get of %v: %q, %v, want %q", text, got, ok, want)
				}
			}
		}
	}
}

func TestGetOfBytesThatPutDoesNotWrite(t *testing.T) {
	for _, text := range []string{
		strings.Repeat("\x00", 17),
		strings.Repeat("\xff", 17),
		strings.Repeat("a", 17),
		"\x00" + longest,
		"\x00a" + strings.Repeat("\x00", 15),
		"\x11" + longest,
		"\x10abcdefghijklmno\x00",
		"\x0fabcdefghijklmnop",
		"\x01ab" + strings.Repeat("\x00", 14),
		"\x01a" + strings.Repeat("\x00", 14) + "b",
		"\x01a" + strings.Repeat("\x00", 14) + "\x01",
		"\x02a" + strings.Repeat("\x00", 15),
		"\x01-" + strings.Repeat("\x00", 15),
		"\x01A" + strings.Repeat("\x00", 15),
		"\x02\xc3\xa4" + strings.Repeat("\x00", 14),
		"a\x01" + strings.Repeat("\x00", 15),
	} {
		r := pack.Read([]byte(text + "\x05"))
		if got, ok := Get(r); got != "" || ok {
			t.Errorf("Get of %q: %q, %v", text, got, ok)
		}
		if got := r.Num(1); got != 5 || !r.Done() {
			t.Errorf("behind Get of %q: %d", text, got)
		}
	}
}

func TestGetOfBytesThatAreLacking(t *testing.T) {
	for _, s := range room.Names() {
		whole := putBytes(s)
		for n := range 17 {
			r := pack.Read(whole[:n])
			if got, ok := Get(r); got != "" || ok || r.Good() || r.Left() != 0 {
				t.Errorf("Get of the first %d bytes of %q: %q, %v", n, s, got, ok)
			}
			if got, ok := Get(r); got != "" || ok {
				t.Errorf("Get again of the first %d bytes of %q: %q, %v", n, s, got, ok)
			}
		}
	}
	if got, ok := Get(pack.Read(nil)); got != "" || ok {
		t.Errorf("Get of nothing: %q, %v", got, ok)
	}
	r := pack.Read(slices.Concat(put("pot"), put("pan")[:16]))
	if got, ok := Get(r); got != "pot" || !ok || !r.Good() {
		t.Errorf("Get ahead of what lacks: %q, %v", got, ok)
	}
	if got, ok := Get(r); got != "" || ok || r.Good() {
		t.Errorf("Get of what lacks: %q, %v", got, ok)
	}
}

// The rules that hold everywhere, of each call.

func TestNilAndZeroReadersAndWriters(t *testing.T) {
	for _, s := range slices.Concat(room.Names(), room.WrongNames()) {
		Put(nil, s)
	}
	for name, r := range map[string]*pack.Reader{"nil": nil, "zero": {}} {
		if got, ok := Get(r); got != "" || ok {
			t.Errorf("Get of a %s Reader: %q, %v", name, got, ok)
		}
	}
}

func TestWhatIsHandedInIsNotChanged(t *testing.T) {
	a, sameA := room.Texts("c", "a", "c")
	b, sameB := room.Texts("b", "", "a")
	rising, sameRising := room.Texts("a", "b", "c", "d")
	for turn := range 3 {
		Merge(a, nil, b, a)
		Merge(a[:1])
		After(rising, "a", turn)
		After(rising[:2], "", turn)
		if !sameA() || !sameB() || !sameRising() {
			t.Fatalf("turn %d: %q, %q or %q was changed, or its spare room", turn, a, b, rising)
		}
	}
}

func TestAnswersAreNewMemory(t *testing.T) {
	a, sameA := room.Texts("a", "b", "c", "d")
	for _, call := range []func() []string{
		func() []string { return Merge(a) },
		func() []string { return Merge(a, nil) },
		func() []string { return Merge(a[:1]) },
		func() []string { first, _ := After(a, "", 9); return first },
		func() []string { first, _ := After(a, "", 4); return first },
		func() []string { first, _ := After(a, "b", 1); return first },
		func() []string { first, _ := After(a, "d", 1); return first },
		func() []string { first, _ := After(a, "", 0); return first },
	} {
		first := call()
		kept := slices.Clone(first)
		second := call()
		for k := range second[:cap(second)] {
			second[:cap(second)][k] = "x"
		}
		if !slices.Equal(first, kept) || !sameA() {
			t.Errorf("an answer shares memory with another one, or with what was handed in: %q, %q", first, a)
		}
		for k := range first[:cap(first)] {
			first[:cap(first)][k] = "y"
		}
		if third := call(); !slices.Equal(third, kept) || !sameA() {
			t.Errorf("what was handed out was changed, and then the answer is %q, want %q", third, kept)
		}
	}
}

func TestAnswersStayWhenWhatWasHandedInIsChanged(t *testing.T) {
	l := []string{"a", "b", "c"}
	all := Merge(l)
	behind, _ := After(l, "a", 8)
	for k := range l {
		l[k] = "x"
	}
	if !slices.Equal(all, []string{"a", "b", "c"}) || !slices.Equal(behind, []string{"b", "c"}) {
		t.Errorf("Merge and After are now %q and %q", all, behind)
	}
}

func TestTheSpareRoomOfListsOfTextsIsNotRead(t *testing.T) {
	l := []string{"a", "b", "c", "d"}
	if got := Merge(l[:1], l[2:3]); !slices.Equal(got, []string{"a", "c"}) {
		t.Errorf("Merge: %q", got)
	}
	if got, all := After(l[:2], "a", 8); !slices.Equal(got, []string{"b"}) || !all {
		t.Errorf("After: %q, %v", got, all)
	}
	if got, all := After(l[:2], "a", 1); !slices.Equal(got, []string{"b"}) || !all {
		t.Errorf("After, at most 1: %q, %v", got, all)
	}
}

func TestTheSameCallsAnswerTheSame(t *testing.T) {
	lists := [][]string{room.Names(), room.WrongNames(), {"\x00", "q"}}
	first := Merge(lists...)
	for turn := range 50 {
		if got := Merge(lists...); !slices.Equal(got, first) {
			t.Fatalf("Merge, call %d: %q, want %q", turn+2, got, first)
		}
	}
}

func TestNoCallOfAfterPanicsOfTextsThatDoNotRise(t *testing.T) {
	for _, l := range [][]string{{"c", "b", "a"}, {"a", "a"}, room.WrongNames(), room.Names()} {
		for _, s := range []string{"", "a", "b", "\xff"} {
			for _, most := range []int{math.MinInt, -1, 0, 1, 2, math.MaxInt} {
				After(l, s, most)
			}
		}
	}
}
