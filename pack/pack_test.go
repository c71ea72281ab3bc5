package pack

import (
	"bytes"
	"encoding/binary"
	"math"
	"slices"
	"testing"

	"sherd/room"
)

// widths are how many bytes may be asked for, and how many a number then has.
func widths() map[int]int {
	return map[int]int{
		math.MinInt: 1, -256: 1, -4: 1, -1: 1, 0: 1, 1: 1, 2: 2, 3: 3, 4: 4,
		5: 4, 7: 4, 8: 4, 255: 4, 256: 4, 257: 4, 1 << 32: 4, 1<<32 + 1: 4, math.MaxInt: 4,
	}
}

// numbers are some at the ends of what has room, and of their types' ranges, and between.
func numbers() []int {
	all := []int{
		math.MinInt, math.MinInt + 1, math.MinInt32 - 1, math.MinInt32, -1<<16 - 1, -1 << 16, -257, -256, -255, -128, -2, -1,
		0, 1, 2, 44, 127, 128, 254, 258, 300, 1<<24 + 5, 0x01020304, 0x7fffffff, 0x80000000, 0x0102030405060708, math.MaxInt - 1, math.MaxInt,
	}
	for _, bits := range []int{8, 16, 24, 32, 40, 48, 56} {
		all = append(all, 1<<bits-1, 1<<bits, 1<<bits+1)
	}
	return all
}

// roomOf tells the least number that has not room in k bytes.
func roomOf(k int) int {
	return []int{1, 256, 65536, 16777216, 4294967296}[k]
}

// numberBytes are those of a number of k bytes, by the document's words; k is from 1 to 4.
func numberBytes(k, n int) []byte {
	if n < 0 {
		n = 0
	}
	return binary.BigEndian.AppendUint64(nil, uint64(n))[8-k:]
}

// textBytes are those of a text, by the document's words.
func textBytes(b []byte) []byte {
	if len(b) > 255 {
		b = b[:255]
	}
	return slices.Concat([]byte{byte(len(b))}, b)
}

// written is what a new Writer tells after some calls.
func written(calls func(w *Writer)) []byte {
	w := &Writer{}
	calls(w)
	return w.Bytes()
}

// P6.1

func TestAZeroWriterHasWrittenNothing(t *testing.T) {
	var w Writer
	if got := w.Bytes(); len(got) != 0 {
		t.Errorf("Bytes: %v", got)
	}
	if got := new(Writer).Bytes(); len(got) != 0 {
		t.Errorf("Bytes of another: %v", got)
	}
	w.Num(1, 5)
	if got := w.Bytes(); !bytes.Equal(got, []byte{5}) {
		t.Errorf("Bytes after Num of 5: %v", got)
	}
}

func TestNumOfKnownNumbers(t *testing.T) {
	for _, test := range []struct {
		k, n int
		want []byte
	}{
		{2, 258, []byte{1, 2}}, {1, 300, []byte{44}}, {4, 1<<24 + 5, []byte{1, 0, 0, 5}}, {3, -2, []byte{0, 0, 0}},
		{1, 0, []byte{0}}, {1, 255, []byte{255}}, {1, 256, []byte{0}}, {1, 257, []byte{1}}, {2, 0, []byte{0, 0}}, {2, 1, []byte{0, 1}},
		{2, 65535, []byte{255, 255}}, {2, 65536, []byte{0, 0}}, {2, 0x30201, []byte{2, 1}}, {3, 0x010203, []byte{1, 2, 3}},
		{3, 1<<24 - 1, []byte{255, 255, 255}}, {3, 1 << 24, []byte{0, 0, 0}}, {3, 0x04030201, []byte{3, 2, 1}}, {4, 0x01020304, []byte{1, 2, 3, 4}},
		{4, 1<<32 - 1, []byte{255, 255, 255, 255}}, {4, 1 << 32, []byte{0, 0, 0, 0}}, {4, 0x0102030405, []byte{2, 3, 4, 5}}, {4, 0x80000000, []byte{128, 0, 0, 0}},
		{4, math.MaxInt, []byte{255, 255, 255, 255}}, {1, math.MaxInt, []byte{255}}, {1, math.MaxInt - 1, []byte{254}}, {4, 7, []byte{0, 0, 0, 7}},
		{1, -1, []byte{0}}, {2, -1, []byte{0, 0}}, {4, -1, []byte{0, 0, 0, 0}}, {1, -255, []byte{0}}, {4, math.MinInt, []byte{0, 0, 0, 0}},
		{4, math.MinInt + 1, []byte{0, 0, 0, 0}}, {0, 258, []byte{2}}, {-1, 258, []byte{2}}, {math.MinInt, 258, []byte{2}}, {0, -7, []byte{0}},
		{5, 258, []byte{0, 0, 1, 2}}, {math.MaxInt, 0x0102030405, []byte{2, 3, 4, 5}}, {5, -258, []byte{0, 0, 0, 0}}, {257, 1, []byte{0, 0, 0, 1}},
	} {
		if got := written(func(w *Writer) { w.Num(test.k, test.n) }); !bytes.Equal(got, test.want) {
			t.Errorf("Num of %d bytes of %d: %v, want %v", test.k, test.n, got, test.want)
		}
	}
}

func TestNumOfAllWidths(t *testing.T) {
	for k, wide := range widths() {
		for _, n := range numbers() {
			want := numberBytes(wide, n)
			if got := written(func(w *Writer) { w.Num(k, n) }); !bytes.Equal(got, want) {
				t.Errorf("Num of %d bytes of %d: %v, want %v", k, n, got, want)
			}
		}
	}
	for n := range 1<<16 + 300 {
		for k := 1; k <= 4; k++ {
			if got, want := written(func(w *Writer) { w.Num(k, n) }), numberBytes(k, n); !bytes.Equal(got, want) {
				t.Errorf("Num of %d bytes of %d: %v, want %v", k, n, got, want)
			}
		}
	}
}

func TestRawOfBytes(t *testing.T) {
	for _, b := range [][]byte{nil, {}, {0}, {255}, {9, 8}, {0, 0, 0}, room.Some(255, 1), room.Some(256, 2), room.Some(257, 3), room.Some(100000, 4)} {
		if got := written(func(w *Writer) { w.Raw(b) }); !bytes.Equal(got, b) {
			t.Errorf("Raw of %d bytes: %d others", len(b), len(got))
		}
	}
}

func TestTextOfAllLengths(t *testing.T) {
	for _, test := range []struct{ b, want []byte }{
		{nil, []byte{0}}, {[]byte{}, []byte{0}}, {[]byte("xyz"), []byte{3, 'x', 'y', 'z'}}, {[]byte{0}, []byte{1, 0}}, {[]byte{255, 0}, []byte{2, 255, 0}},
	} {
		if got := written(func(w *Writer) { w.Text(test.b) }); !bytes.Equal(got, test.want) {
			t.Errorf("Text of %v: %v, want %v", test.b, got, test.want)
		}
	}
	lengths := []int{511, 512, 513, 767, 768, 65535, 65536, 65537, 1 << 20}
	for n := range 310 {
		lengths = append(lengths, n)
	}
	for _, n := range lengths {
		b := room.Some(n, n)
		got := written(func(w *Writer) { w.Text(b) })
		if want := textBytes(b); !bytes.Equal(got, want) {
			t.Errorf("Text of %d bytes: %v, want %v", n, got, want)
		}
	}
}

func TestWhatIsWrittenIsPutBehind(t *testing.T) {
	var w Writer
	var want []byte
	for turn := range 400 {
		switch b := room.Some(turn*7%290, turn); turn % 5 {
		case 0:
			w.Num(turn%7-1, turn*1000003)
			want = append(want, numberBytes(min(max(turn%7-1, 1), 4), turn*1000003)...)
		case 1:
			w.Raw(b)
			want = append(want, b...)
		case 2:
			w.Text(b)
			want = append(want, textBytes(b)...)
		case 3:
			w.Raw(nil)
			w.Text(nil)
			want = append(want, 0)
		default:
			w.Num(3, -turn)
			want = append(want, 0, 0, 0)
		}
		if got := w.Bytes(); !bytes.Equal(got, want) {
			t.Fatalf("after %d calls: %d bytes, want %d, or others", turn+1, len(got), len(want))
		}
	}
}

func TestBytesIsToldAgain(t *testing.T) {
	var w Writer
	w.Text([]byte("pot"))
	first, second := w.Bytes(), w.Bytes()
	if want := []byte("\x03pot"); !bytes.Equal(first, want) || !bytes.Equal(second, want) {
		t.Errorf("Bytes: %v, and then %v", first, second)
	}
	w.Num(2, 1)
	if got := w.Bytes(); !bytes.Equal(got, []byte("\x03pot\x00\x01")) {
		t.Errorf("Bytes after more: %v", got)
	}
}

func TestWritersAreApart(t *testing.T) {
	var a, b Writer
	for k := range 100 {
		a.Num(1, k)
		b.Num(1, 2*k)
	}
	for k := range 100 {
		if a.Bytes()[k] != byte(k) || b.Bytes()[k] != byte(2*k) {
			t.Fatalf("at place %d: %d and %d", k, a.Bytes()[k], b.Bytes()[k])
		}
	}
}

func TestManyWritesAreAllThere(t *testing.T) {
	var w Writer
	const many = 1 << 20
	for k := range many {
		w.Num(4, k)
	}
	r := Read(w.Bytes())
	for k := range many {
		if got := r.Num(4); got != k {
			t.Fatalf("number %d: %d", k, got)
		}
	}
	if !r.Done() {
		t.Error("not Done")
	}
}

func TestNoWriter(t *testing.T) {
	var none *Writer
	none.Num(1, 5)
	none.Num(math.MaxInt, math.MinInt)
	none.Raw([]byte{1, 2})
	none.Raw(nil)
	none.Text([]byte("xyz"))
	none.Text(room.Some(300, 1))
	if got := none.Bytes(); len(got) != 0 {
		t.Errorf("Bytes of no Writer: %v", got)
	}
}

// P6.2

// slowReader is a reader by the document's words.
type slowReader struct {
	b     []byte
	place int
	good  bool
}

func (s *slowReader) raw(n int) []byte {
	if n < 0 {
		n = 0
	}
	if len(s.b)-s.place < n {
		s.place, s.good = len(s.b), false
		return nil
	}
	s.place += n
	return s.b[s.place-n : s.place]
}

func (s *slowReader) num(wide int) int {
	b := s.raw(wide)
	if b == nil {
		return 0
	}
	return int(binary.BigEndian.Uint64(slices.Concat(make([]byte, 8-wide), b)))
}

func (s *slowReader) text() []byte {
	return s.raw(s.num(1))
}

// checkState tells of a reader that is not as the slow one is.
func checkState(t *testing.T, r *Reader, s *slowReader) {
	t.Helper()
	left := len(s.b) - s.place
	if r.Left() != left || r.Good() != s.good || r.Done() != (s.good && left == 0) {
		t.Fatalf("of %v, at place %d: Left %d, Good %v, Done %v; want %d, %v", s.b, s.place, r.Left(), r.Good(), r.Done(), left, s.good)
	}
}

func TestReadOfNothing(t *testing.T) {
	for _, b := range [][]byte{nil, {}} {
		r := Read(b)
		if r == nil || r.Left() != 0 || !r.Good() || !r.Done() {
			t.Fatalf("Read of %#v: Left %d, Good %v, Done %v", b, r.Left(), r.Good(), r.Done())
		}
		if got := r.Raw(0); len(got) != 0 || !r.Done() {
			t.Errorf("Raw of 0 of nothing: %v, Done %v", got, r.Done())
		}
		for k := range widths() {
			r := Read(b)
			if got := r.Num(k); got != 0 || r.Good() || r.Done() || r.Left() != 0 {
				t.Errorf("Num of %d bytes of nothing: %d, Good %v", k, got, r.Good())
			}
		}
		if r := Read(b); len(r.Raw(1)) != 0 || r.Good() || r.Done() {
			t.Error("Raw of 1 of nothing is Good")
		}
		if r := Read(b); len(r.Text()) != 0 || r.Good() || r.Done() {
			t.Error("Text of nothing is Good")
		}
	}
}

func TestReadTellsOfWhatIsLeftAhead(t *testing.T) {
	for n := range 20 {
		r := Read(make([]byte, n))
		if r.Left() != n || !r.Good() || r.Done() != (n == 0) {
			t.Errorf("of %d bytes: Left %d, Good %v, Done %v", n, r.Left(), r.Good(), r.Done())
		}
	}
}

func TestNumOfTheNextBytes(t *testing.T) {
	for _, test := range []struct {
		b    []byte
		k    int
		want int
	}{
		{[]byte{1, 2}, 2, 258}, {[]byte{44}, 1, 44}, {[]byte{255}, 1, 255}, {[]byte{1, 0, 0, 5}, 4, 1<<24 + 5}, {[]byte{0, 0, 0}, 3, 0},
		{[]byte{255, 255, 255, 255}, 4, 4294967295}, {[]byte{128, 0, 0, 0}, 4, 2147483648}, {[]byte{127, 255, 255, 255}, 4, 2147483647},
		{[]byte{255, 255, 255}, 3, 16777215}, {[]byte{1, 2, 3}, 3, 66051}, {[]byte{0, 7}, 2, 7}, {[]byte{7, 0}, 2, 1792},
		{[]byte{9}, 0, 9}, {[]byte{9}, -1, 9}, {[]byte{9}, math.MinInt, 9}, {[]byte{1, 2, 3, 4}, 5, 16909060}, {[]byte{1, 2, 3, 4}, math.MaxInt, 16909060},
	} {
		for _, behind := range [][]byte{nil, {200}, {1, 2, 3, 4, 5}} {
			r := Read(slices.Concat(test.b, behind))
			if got := r.Num(test.k); got != test.want || r.Left() != len(behind) || !r.Good() || r.Done() != (len(behind) == 0) {
				t.Errorf("Num of %d bytes of %v and %v: %d, want %d; Left %d", test.k, test.b, behind, got, test.want, r.Left())
			}
		}
	}
}

func TestNumOfAllWidthsAndLengths(t *testing.T) {
	for k, wide := range widths() {
		for n := range 9 {
			b := room.Some(n, n+wide)
			r, s := Read(b), &slowReader{b: b, good: true}
			for range 4 {
				if got, want := r.Num(k), s.num(wide); got != want {
					t.Errorf("Num of %d bytes of %v: %d, want %d", k, b, got, want)
				}
				checkState(t, r, s)
			}
		}
	}
}

func TestNumOfBytesThatLack(t *testing.T) {
	for k := 2; k <= 4; k++ {
		for n := 1; n < k; n++ {
			r := Read(bytes.Repeat([]byte{255}, n))
			if got := r.Num(k); got != 0 || r.Good() || r.Done() || r.Left() != 0 {
				t.Errorf("Num of %d bytes of %d: %d, Good %v, Left %d", k, n, got, r.Good(), r.Left())
			}
			if got := r.Num(1); got != 0 || len(r.Raw(1)) != 0 || len(r.Text()) != 0 || r.Good() {
				t.Errorf("behind Num of %d bytes of %d: %d", k, n, got)
			}
		}
	}
}

func TestRawOfTheNextBytes(t *testing.T) {
	b := room.Some(12, 5)
	for first := -2; first <= 14; first++ {
		for second := -2; second <= 14; second++ {
			r, s := Read(b), &slowReader{b: b, good: true}
			for _, n := range []int{first, second} {
				if got, want := r.Raw(n), s.raw(n); !bytes.Equal(got, want) {
					t.Errorf("Raw of %d and %d: %v, want %v", first, second, got, want)
				}
				checkState(t, r, s)
			}
		}
	}
}

func TestRawOfNumbersAtTheEnds(t *testing.T) {
	for _, n := range []int{math.MinInt, math.MinInt + 1, math.MinInt32, -1, 0} {
		r := Read([]byte{1, 2, 3})
		if got := r.Raw(n); len(got) != 0 || r.Left() != 3 || !r.Good() || r.Done() {
			t.Errorf("Raw of %d: %v, Left %d, Good %v", n, got, r.Left(), r.Good())
		}
		if got := r.Raw(3); !bytes.Equal(got, []byte{1, 2, 3}) || !r.Done() {
			t.Errorf("Raw behind Raw of %d: %v", n, got)
		}
		if got := r.Raw(n); len(got) != 0 || !r.Done() {
			t.Errorf("Raw of %d at the end: %v, Done %v", n, got, r.Done())
		}
	}
	for _, n := range []int{4, 255, 256, 1 << 32, 1<<32 + 1, 1<<32 + 3, math.MaxInt - 1, math.MaxInt} {
		r := Read([]byte{1, 2, 3})
		if got := r.Raw(n); len(got) != 0 || r.Left() != 0 || r.Good() || r.Done() {
			t.Errorf("Raw of %d: %v, Left %d, Good %v", n, got, r.Left(), r.Good())
		}
	}
}

func TestTextOfTheNextBytes(t *testing.T) {
	for n := range 256 {
		text := room.Some(n, n)
		for _, behind := range [][]byte{nil, {0}, {3, 1, 2}} {
			r := Read(slices.Concat([]byte{byte(n)}, text, behind))
			if got := r.Text(); !bytes.Equal(got, text) || !r.Good() || r.Left() != len(behind) || r.Done() != (len(behind) == 0) {
				t.Errorf("Text of %d bytes: %v, want %v; Left %d, Good %v", n, got, text, r.Left(), r.Good())
			}
		}
		for lacks := 1; lacks <= n; lacks += 1 + lacks/3 {
			r := Read(slices.Concat([]byte{byte(n)}, text[lacks:]))
			if got := r.Text(); len(got) != 0 || r.Good() || r.Left() != 0 || r.Done() {
				t.Errorf("Text of %d bytes of which %d lack: %v, Left %d, Good %v", n, lacks, got, r.Left(), r.Good())
			}
			if r.Num(1) != 0 || len(r.Text()) != 0 || r.Good() {
				t.Errorf("something is behind a text of which %d bytes lack", lacks)
			}
		}
	}
}

func TestOnceItIsNotGoodItStaysSo(t *testing.T) {
	for name, lack := range map[string]func(r *Reader){
		"Num":  func(r *Reader) { r.Num(4) },
		"Raw":  func(r *Reader) { r.Raw(4) },
		"Text": func(r *Reader) { r.Text() },
	} {
		r := Read([]byte{7, 1, 2})
		lack(r)
		for range 3 {
			if r.Good() || r.Done() || r.Left() != 0 {
				t.Fatalf("%s: Good %v, Done %v, Left %d", name, r.Good(), r.Done(), r.Left())
			}
			if len(r.Raw(0)) != 0 || len(r.Raw(-1)) != 0 || len(r.Raw(1)) != 0 || r.Num(1) != 0 || r.Num(0) != 0 || r.Num(4) != 0 || len(r.Text()) != 0 {
				t.Fatalf("%s: something was read behind it", name)
			}
		}
	}
}

func TestAskingChangesNothing(t *testing.T) {
	r := Read([]byte{1, 2})
	for range 3 {
		if r.Left() != 2 || !r.Good() || r.Done() {
			t.Fatalf("Left %d, Good %v, Done %v", r.Left(), r.Good(), r.Done())
		}
	}
	if got := r.Num(2); got != 258 {
		t.Errorf("Num: %d", got)
	}
}

func TestReadersOfAnyCalls(t *testing.T) {
	wide := widths()
	asked := []int{math.MinInt, -1, 0, 1, 2, 3, 4, 5, math.MaxInt}
	for seed := range 3000 {
		choices := room.Some(60, seed)
		b := room.Some(int(choices[0])%40, seed+1)
		for k := range b {
			b[k] %= 12 // so that texts are there
		}
		r, s := Read(b), &slowReader{b: b, good: true}
		for k := 1; k+1 < len(choices) && s.good; k += 2 {
			ask := asked[int(choices[k+1])%len(asked)]
			switch choices[k] % 3 {
			case 0:
				if got, want := r.Num(ask), s.num(wide[ask]); got != want {
					t.Fatalf("of %v: Num of %d bytes: %d, want %d", b, ask, got, want)
				}
			case 1:
				n := ask % 7
				if got, want := r.Raw(n), s.raw(n); !bytes.Equal(got, want) {
					t.Fatalf("of %v: Raw of %d: %v, want %v", b, n, got, want)
				}
			default:
				if got, want := r.Text(), s.text(); !bytes.Equal(got, want) {
					t.Fatalf("of %v: Text: %v, want %v", b, got, want)
				}
			}
			checkState(t, r, s)
		}
	}
}

func TestReadersAreApart(t *testing.T) {
	b := []byte{1, 2, 3}
	first, second := Read(b), Read(b)
	first.Raw(4)
	if !second.Good() || second.Left() != 3 || second.Num(2) != 258 || !second.Good() || first.Good() {
		t.Error("a reader hangs on another one")
	}
}

func TestNoReader(t *testing.T) {
	var none *Reader
	for _, n := range numbers() {
		if got := none.Num(n); got != 0 {
			t.Errorf("Num of %d bytes of no reader: %d", n, got)
		}
		if got := none.Raw(n); len(got) != 0 {
			t.Errorf("Raw of %d of no reader: %v", n, got)
		}
	}
	if got := none.Text(); len(got) != 0 || none.Left() != 0 || none.Good() || none.Done() {
		t.Errorf("of no reader: Text %v, Left %d, Good %v, Done %v", got, none.Left(), none.Good(), none.Done())
	}
}

// P6.3

func TestNumbersAreReadBack(t *testing.T) {
	for k, wide := range widths() {
		for _, n := range numbers() {
			r := Read(written(func(w *Writer) { w.Num(k, n) }))
			want := max(n, 0) % roomOf(wide)
			if got := r.Num(k); got != want || !r.Done() {
				t.Errorf("Num of %d bytes of %d: read back %d, want %d; Done %v", k, n, got, want, r.Done())
			}
		}
	}
	for n := range 1 << 16 {
		if r := Read(written(func(w *Writer) { w.Num(2, n) })); r.Num(2) != n || !r.Done() {
			t.Errorf("Num of 2 bytes of %d is not read back", n)
		}
	}
}

func TestBytesAndTextsAreReadBack(t *testing.T) {
	for n := range 520 {
		b := room.Some(n, n+7)
		r := Read(written(func(w *Writer) { w.Raw(b) }))
		if got := r.Raw(n); !bytes.Equal(got, b) || !r.Done() {
			t.Errorf("Raw of %d bytes: read back %v, want %v; Done %v", n, got, b, r.Done())
		}
		r = Read(written(func(w *Writer) { w.Text(b) }))
		if got := r.Text(); !bytes.Equal(got, b[:min(n, 255)]) || !r.Done() {
			t.Errorf("Text of %d bytes: read back %v, want %v; Done %v", n, got, b, r.Done())
		}
	}
}

func TestAnyCallsAreReadBack(t *testing.T) {
	asked := []int{math.MinInt, -1, 0, 1, 2, 3, 4, 5, math.MaxInt}
	for seed := range 500 {
		choices := room.Some(2*(seed%40), seed)
		var w Writer
		var readBack []func(r *Reader) bool
		for k := 0; k < len(choices); k += 2 {
			n := int(choices[k+1])
			b := room.Some(2*n, seed+k)
			switch choices[k] % 3 {
			case 0:
				wide := asked[n%len(asked)]
				num := numbers()[n%len(numbers())]
				w.Num(wide, num)
				readBack = append(readBack, func(r *Reader) bool { return r.Num(wide) == max(num, 0)%roomOf(widths()[wide]) })
			case 1:
				w.Raw(b)
				readBack = append(readBack, func(r *Reader) bool { return bytes.Equal(r.Raw(len(b)), b) })
			default:
				w.Text(b)
				readBack = append(readBack, func(r *Reader) bool { return bytes.Equal(r.Text(), b[:min(len(b), 255)]) })
			}
		}
		r := Read(w.Bytes())
		for k, same := range readBack {
			if !same(r) || !r.Good() {
				t.Fatalf("seed %d: call %d is not read back", seed, k)
			}
		}
		if !r.Done() || r.Left() != 0 {
			t.Errorf("seed %d: not Done, Left %d", seed, r.Left())
		}
	}
}

// The rules that hold everywhere, of each call.

func TestListsAreLeftAlone(t *testing.T) {
	for _, b := range [][]byte{nil, {}, {0}, {1, 9}, {3, 1, 2, 3}, {200, 1}, room.Some(300, 8)} {
		list, unchanged := room.Of(b...)
		var w Writer
		for range 2 {
			w.Raw(list)
			w.Text(list)
			w.Num(4, -1)
		}
		r := Read(list)
		r.Text()
		r.Num(2)
		r.Raw(5)
		if !unchanged() {
			t.Errorf("%v, or its spare room, was changed", b)
		}
	}
}

func TestWhatIsHandedInIsNotKept(t *testing.T) {
	list := []byte{2, 7, 8, 1, 2}
	var w Writer
	w.Raw(list)
	w.Text(list)
	r := Read(list)
	for k := range list {
		list[k] = 99
	}
	if got := w.Bytes(); !bytes.Equal(got, []byte{2, 7, 8, 1, 2, 5, 2, 7, 8, 1, 2}) {
		t.Errorf("Bytes: %v", got)
	}
	if got := r.Text(); !bytes.Equal(got, []byte{7, 8}) {
		t.Errorf("Text: %v", got)
	}
	if got := r.Num(2); got != 258 || !r.Done() {
		t.Errorf("Num: %d", got)
	}
}

func TestTheSpareRoomOfAListIsNotRead(t *testing.T) {
	b := []byte{1, 2, 3, 4, 5, 6, 7, 8}
	r := Read(b[:2])
	if r.Left() != 2 || len(r.Raw(3)) != 0 || r.Good() {
		t.Error("what is behind a list was read")
	}
	if r := Read(b[1:3]); len(r.Text()) != 0 || r.Good() {
		t.Error("what is behind a list was read as a text")
	}
	if got := written(func(w *Writer) { w.Text(b[:2]) }); !bytes.Equal(got, []byte{2, 1, 2}) {
		t.Errorf("Text of a list with spare room: %v", got)
	}
}

func TestWhatBytesToldStays(t *testing.T) {
	var w Writer
	var told, kept [][]byte
	for k := range 200 {
		w.Num(1, k)
		told = append(told, w.Bytes())
		kept = append(kept, w.Bytes())
	}
	for k := range told {
		if !bytes.Equal(told[k], kept[k]) || len(told[k]) != k+1 || told[k][k] != byte(k) {
			t.Fatalf("what was told after %d calls is now %v", k+1, told[k])
		}
	}
	if k := room.Shared(append(told, kept...)...); k >= 0 {
		t.Errorf("list %d shares memory with one ahead of it", k)
	}
	if got := w.Bytes(); len(got) != 200 || got[0] != 0 || got[199] != 199 {
		t.Errorf("what was handed out was written over, and Bytes is %v", got)
	}
}

func TestWhatIsWrittenIntoBytesStaysThere(t *testing.T) {
	var w Writer
	w.Raw([]byte{1, 2, 3})
	got := w.Bytes()
	got[0] = 9
	_ = append(got, 77, 78)
	w.Num(1, 4)
	if got := w.Bytes(); !bytes.Equal(got, []byte{1, 2, 3, 4}) {
		t.Errorf("Bytes: %v", got)
	}
}

func TestNothingBehindIsReached(t *testing.T) {
	b := slices.Concat([]byte{1, 2, 3}, []byte{2, 4, 5}, []byte{}, []byte{6, 7})
	r := Read(b)
	var pieces [][]byte
	for _, cut := range []func() []byte{func() []byte { return r.Raw(3) }, r.Text, func() []byte { return r.Raw(0) }, func() []byte { return r.Raw(1) }} {
		piece := cut()
		pieces = append(pieces, piece)
		for k := range piece {
			piece[k] = 200
		}
		_ = append(piece, 201, 202, 203, 204)
	}
	if got := r.Num(1); got != 7 || !r.Done() {
		t.Errorf("behind pieces that were written over: %d", got)
	}
	if k := room.Shared(append(pieces, b)...); k >= 0 {
		t.Errorf("list %d shares memory with one ahead of it", k)
	}
}

func TestWhatWasReadStays(t *testing.T) {
	r := Read([]byte{1, 2, 2, 3, 4, 5, 6})
	raw, text, rest := r.Raw(2), r.Text(), r.Raw(2)
	r.Raw(9)
	r.Num(4)
	if !bytes.Equal(raw, []byte{1, 2}) || !bytes.Equal(text, []byte{3, 4}) || !bytes.Equal(rest, []byte{5, 6}) {
		t.Errorf("what was read is now %v, %v and %v", raw, text, rest)
	}
}

func TestNoCallPanicsOfAReaderThatReadDidNotMake(t *testing.T) {
	for _, n := range numbers() {
		r := &Reader{}
		r.Num(n)
		r.Raw(n)
		r.Text()
		r.Left()
		r.Good()
		r.Done()
	}
}
