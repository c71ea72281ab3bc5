package tape

import (
	"bytes"
	"math"
	"slices"
	"testing"

	"sherd/room"
)

// words is a tape by the document's words alone: all its bytes, and what was drawn.
type words struct {
	bytes []byte
	drawn []Drawn
}

// used tells how many bytes were used.
func (w words) used() int {
	n := 0
	for _, d := range w.drawn {
		n += d.N
	}
	return n
}

// draw tells the next n bytes, whether there are so many, and the tape behind that.
func (w words) draw(n int, u Use) ([]byte, bool, words) {
	if n < 0 {
		n = 0
	}
	at := w.used()
	if len(w.bytes)-at < n {
		return nil, false, w
	}
	return bytes.Clone(w.bytes[at : at+n]), true, words{w.bytes, append(slices.Clone(w.drawn), Drawn{u, at, n})}
}

// isTape tells whether a tape is as the words have it, by all that it tells; of a copy, what is left is drawn.
func isTape(p *Tape, w words) bool {
	left := w.bytes[w.used():]
	if p.Left() != len(left) || !slices.Equal(p.All(), w.drawn) {
		return false
	}
	b, ok := p.Copy().Draw(len(left), Use{})
	return ok && bytes.Equal(b, left) && p.Left() == len(left)
}

// drawAlike draws of both, and tells whether they answer alike, and the words behind that.
func drawAlike(p *Tape, w words, n int, u Use) (bool, words) {
	want, there, behind := w.draw(n, u)
	b, ok := p.Draw(n, u)
	return ok == there && bytes.Equal(b, want), behind
}

// counts tells numbers of bytes that may be asked for of a tape, from below 0 to far above what it has.
func counts(size int) []int {
	all := append(room.Ends(), 1, 2, 3, 5, size/2, size-2, size-1, size, size+1, size+2, size+256, size+65536, 1<<32+size, 1<<33+1, -size, -size-1)
	slices.Sort(all)
	return slices.Compact(all)
}

// mixedUse tells a use in which no two fields are alike, all of which hang on seed.
func mixedUse(seed int) Use {
	return Use{Kind: 10*seed + 1, Node: 10*seed + 2, Ballot: 10*seed + 3, Name: string(rune('a' + seed%26)), Attempt: 10*seed + 4, Epoch: 10*seed + 5, Target: 10*seed + 6, Stripes: 10*seed + 7}
}

// uses tells many uses: one of each kind, one without anything, and such as differ from these in one field, which is at an end of its range.
func uses() []Use {
	all := []Use{
		{},
		{Kind: Dealt, Ballot: 3, Name: "pot", Attempt: 3, Epoch: 3, Stripes: 120},
		{Kind: Zeroed, Node: 2, Ballot: 9, Name: "jug", Attempt: 3, Epoch: 5, Stripes: 2},
		{Kind: Blinded, Node: 256, Ballot: 11, Name: "a", Attempt: 3, Epoch: 9, Target: 4, Stripes: 1},
	}
	for _, n := range append(room.Ends(), room.Ballots()...) {
		for field := range 7 {
			u := mixedUse(1)
			*[]*int{&u.Kind, &u.Node, &u.Ballot, &u.Attempt, &u.Epoch, &u.Target, &u.Stripes}[field] = n
			all = append(all, u)
		}
	}
	for _, name := range append(room.Names(), room.WrongNames()...) {
		u := mixedUse(2)
		u.Name = name
		all = append(all, u)
	}
	return all
}

// P26.1

func TestKindsOfUses(t *testing.T) {
	if Dealt != 1 || Zeroed != 2 || Blinded != 3 {
		t.Errorf("Dealt %d, Zeroed %d, Blinded %d", Dealt, Zeroed, Blinded)
	}
}

func TestNewHasNothingUsed(t *testing.T) {
	for _, b := range [][]byte{nil, {}, {0}, {255}, {5, 6, 7}, make([]byte, 40), room.Some(255, 1), room.Some(256, 2), room.Some(100000, 3)} {
		p := New(b)
		if p == nil || p.Left() != len(b) || len(p.All()) != 0 || !isTape(p, words{bytes: b}) {
			t.Errorf("New of %d bytes: Left %d, All %v, or other bytes", len(b), p.Left(), p.All())
		}
	}
}

func TestDrawOfKnownTapes(t *testing.T) {
	for _, test := range []struct {
		b    []byte
		n    []int
		want [][]byte // nil: there are not so many
		left int
	}{
		{[]byte{7, 8, 9}, []int{2, 2, 1}, [][]byte{{7, 8}, nil, {9}}, 0},
		{[]byte{5, 6, 7, 8}, []int{3, 2, -4, 1}, [][]byte{{5, 6, 7}, nil, {}, {8}}, 0},
		{[]byte{5, 6, 7, 8}, []int{4, 1, 0}, [][]byte{{5, 6, 7, 8}, nil, {}}, 0},
		{[]byte{5, 6, 7, 8}, []int{5, 6, 1}, [][]byte{nil, nil, {5}}, 3},
		{[]byte{5, 6, 7, 8}, []int{0, -1, 1, 0, 1}, [][]byte{{}, {}, {5}, {}, {6}}, 2},
		{[]byte{0, 0, 1}, []int{1, 1, 1, 1}, [][]byte{{0}, {0}, {1}, nil}, 0},
		{nil, []int{0, 1, -1}, [][]byte{{}, nil, {}}, 0},
		{[]byte{}, []int{1, 0}, [][]byte{nil, {}}, 0},
		{[]byte{255, 254}, []int{math.MaxInt, 1, math.MaxInt - 1, math.MinInt}, [][]byte{nil, {255}, nil, {}}, 1},
	} {
		p := New(test.b)
		for i, n := range test.n {
			b, ok := p.Draw(n, mixedUse(i))
			if want := test.want[i]; ok != (want != nil) || !bytes.Equal(b, want) {
				t.Errorf("of %v, Draw %d of %v: %v, %t, want %v", test.b, i, test.n, b, ok, want)
			}
		}
		if p.Left() != test.left {
			t.Errorf("of %v, behind Draw of %v: Left %d, want %d", test.b, test.n, p.Left(), test.left)
		}
	}
}

func TestDrawOfEachNumber(t *testing.T) {
	for size := range 40 {
		for used := range size + 1 {
			for n := -3; n <= size+3; n++ {
				p, w := New(room.Some(size, size)), words{bytes: room.Some(size, size)}
				_, w = drawAlike(p, w, used, mixedUse(0))
				ok, behind := drawAlike(p, w, n, mixedUse(1))
				if !ok || !isTape(p, behind) {
					t.Fatalf("Draw of %d of %d bytes, %d used: another answer, or Left %d, All %v", n, size, used, p.Left(), p.All())
				}
			}
		}
	}
}

func TestDrawOfNumbersAtTheEnds(t *testing.T) {
	for _, size := range []int{0, 1, 2, 255, 256, 257, 65536} {
		for _, used := range []int{0, size / 2, size} {
			for _, n := range counts(size) {
				p, w := New(room.Some(size, size)), words{bytes: room.Some(size, size)}
				_, w = drawAlike(p, w, used, mixedUse(0))
				ok, behind := drawAlike(p, w, n, mixedUse(1))
				if !ok || !isTape(p, behind) {
					t.Errorf("Draw of %d of %d bytes, %d used: another answer, or Left %d, All %v", n, size, used, p.Left(), p.All())
				}
			}
		}
	}
}

func TestDrawOfTooManyUsesNothing(t *testing.T) {
	for size := range 20 {
		for used := range size + 1 {
			p, w := New(room.Some(size, 7)), words{bytes: room.Some(size, 7)}
			_, w = drawAlike(p, w, used, mixedUse(0))
			for more := 1; more < 6; more++ {
				if b, ok := p.Draw(size-used+more, mixedUse(more)); ok || len(b) != 0 || !isTape(p, w) {
					t.Fatalf("Draw of %d more than are left of %d: %v, %t, Left %d, All %v", more, size, b, ok, p.Left(), p.All())
				}
			}
			if ok, behind := drawAlike(p, w, size-used, mixedUse(9)); !ok || !isTape(p, behind) {
				t.Fatalf("Draw of all %d that are left, behind too many: another answer, Left %d, All %v", size-used, p.Left(), p.All())
			}
		}
	}
}

// eachCut calls check with all rows of long numbers from -1 on that are at most most.
func eachCut(long, most int, check func(row []int)) {
	if long == 0 {
		check(nil)
		return
	}
	for n := -1; n <= most; n++ {
		eachCut(long-1, most, func(row []int) { check(append([]int{n}, row...)) })
	}
}

func TestDrawInAllWaysOfAFewBytes(t *testing.T) {
	eachCut(5, 4, func(row []int) {
		b := []byte{11, 12, 13, 14, 15, 16}
		p, w, ok := New(b), words{bytes: b}, true
		for i, n := range row {
			if ok, w = drawAlike(p, w, n, mixedUse(i)); !ok || !isTape(p, w) {
				t.Fatalf("Draw %d of %v: another answer, or Left %d, All %v, want %v", i, row, p.Left(), p.All(), w.drawn)
			}
		}
	})
}

func TestDrawHangsNotOnTheUse(t *testing.T) {
	b := room.Some(9, 5)
	for _, u := range uses() {
		p, w := New(b), words{bytes: b}
		for _, n := range []int{4, 6, 0, 5, 1} {
			ok, behind := drawAlike(p, w, n, u)
			if w = behind; !ok || !isTape(p, w) {
				t.Errorf("Draw of %d for %+v: another answer, or Left %d, All %v", n, u, p.Left(), p.All())
			}
		}
	}
}

func TestPiecesOfALongTapeAreAllOfIt(t *testing.T) {
	b := room.Some(1<<20, 4)
	p, all := New(b), []byte(nil)
	for n := 0; p.Left() > 0; n = (n + 1) % 301 {
		piece, ok := p.Draw(min(n, p.Left()), Use{})
		if all = append(all, piece...); !ok || p.Left() != len(b)-len(all) {
			t.Fatalf("Draw of %d behind %d: %t, Left %d", n, len(all), ok, p.Left())
		}
	}
	if !bytes.Equal(all, b) {
		t.Error("the pieces are not the tape's bytes, one behind the other")
	}
}

// P26.2

func TestDrawnHasItsUseInItself(t *testing.T) {
	p, u := New([]byte{1, 2, 3}), Use{Kind: Blinded, Node: 2, Ballot: 3, Name: "pot", Attempt: 4, Epoch: 5, Target: 6, Stripes: 7}
	p.Draw(1, Use{})
	p.Draw(2, u)
	d := p.All()[1]
	if d.Kind != Blinded || d.Node != 2 || d.Ballot != 3 || d.Name != "pot" || d.Attempt != 4 || d.Epoch != 5 || d.Target != 6 || d.Stripes != 7 || d.At != 1 || d.N != 2 || d.Use != u {
		t.Errorf("All of the second Draw: %+v", d)
	}
}

func TestAllOfKnownDraws(t *testing.T) {
	u, v := Use{Kind: Dealt, Name: "a"}, Use{Kind: Zeroed, Node: 3}
	for _, test := range []struct {
		b    []byte
		n    []int
		use  []Use
		want []Drawn
	}{
		{nil, nil, nil, nil},
		{[]byte{1}, nil, nil, nil},
		{[]byte{1}, []int{2}, []Use{u}, nil},
		{[]byte{1, 2, 3}, []int{2, 2, 1}, []Use{u, v, v}, []Drawn{{u, 0, 2}, {v, 2, 1}}},
		{[]byte{1, 2, 3}, []int{1, 1, 1, 1}, []Use{v, u, u, v}, []Drawn{{v, 0, 1}, {u, 1, 1}, {u, 2, 1}}},
		{[]byte{1, 2, 3, 4}, []int{3, 2, -4}, []Use{v, u, u}, []Drawn{{v, 0, 3}, {u, 3, 0}}},
		{[]byte{1, 2}, []int{0, 2, 0, 1, math.MinInt}, []Use{u, v, u, u, v}, []Drawn{{u, 0, 0}, {v, 0, 2}, {u, 2, 0}, {v, 2, 0}}},
		{nil, []int{-1, 0, 1, 0}, []Use{v, {}, u, {}}, []Drawn{{v, 0, 0}, {Use{}, 0, 0}, {Use{}, 0, 0}}},
	} {
		p := New(test.b)
		for i, n := range test.n {
			p.Draw(n, test.use[i])
		}
		if all := p.All(); !slices.Equal(all, test.want) {
			t.Errorf("of %v, behind Draw of %v: %+v, want %+v", test.b, test.n, all, test.want)
		}
	}
}

func TestAllTellsEachUse(t *testing.T) {
	b := room.Some(10*len(uses()), 3)
	p, w, ok := New(b), words{bytes: b}, true
	for i, u := range uses() {
		if ok, w = drawAlike(p, w, i%13-2, u); !ok {
			t.Fatalf("Draw for %+v: another answer", u)
		}
		if all := p.All(); len(all) != i+1 || all[i].Use != u || !slices.Equal(all, w.drawn) {
			t.Fatalf("behind Draw for %+v: %+v last, or others ahead", u, all[len(all)-1])
		}
	}
}

func TestAllTellsTheSameUseAgain(t *testing.T) {
	p, u := New(make([]byte, 9)), mixedUse(4)
	var want []Drawn
	for k := range 3 {
		p.Draw(3, u)
		p.Draw(0, u)
		want = append(want, Drawn{u, 3 * k, 3}, Drawn{u, 3*k + 3, 0})
	}
	if all := p.All(); !slices.Equal(all, want) {
		t.Errorf("All of six Draws for one use: %+v, want %+v", all, want)
	}
}

func TestAllTellsWhereBytesStand(t *testing.T) {
	b := room.Some(3000, 8)
	p := New(b)
	var pieces [][]byte
	for k := range 200 {
		if piece, ok := p.Draw(int(room.Some(1, k)[0])%40-3, mixedUse(k)); ok {
			pieces = append(pieces, piece)
		}
	}
	all := p.All()
	if len(all) != len(pieces) {
		t.Fatalf("All tells %d, %d were drawn", len(all), len(pieces))
	}
	for k, d := range all {
		if !bytes.Equal(pieces[k], b[d.At:d.At+d.N]) {
			t.Errorf("the bytes of Draw %d do not stand where All tells, %d at %d", k, d.N, d.At)
		}
	}
}

func TestWhatIsToldUsesNothing(t *testing.T) {
	b := room.Some(30, 2)
	for used := range 31 {
		p, w := New(b), words{bytes: b}
		_, w = drawAlike(p, w, used, mixedUse(used))
		for range 5 {
			p.Left()
			p.All()
			p.Copy()
		}
		if !isTape(p, w) {
			t.Errorf("%d used: another tape behind what is told: Left %d, All %v", used, p.Left(), p.All())
		}
	}
}

func TestCopyIsOneOfItsOwn(t *testing.T) {
	b := room.Some(12, 6)
	for used := range 13 {
		for n := -1; n <= 13; n++ {
			for m := -1; m <= 13; m++ {
				p, w := New(b), words{bytes: b}
				_, w = drawAlike(p, w, used, mixedUse(0))
				c := p.Copy()
				if c == nil || c == p || !isTape(c, w) {
					t.Fatalf("%d used: Copy is none, itself, or another tape", used)
				}
				ok, behind := drawAlike(c, w, n, mixedUse(1))
				if !ok || !isTape(p, w) {
					t.Fatalf("%d used, Draw of %d of a copy: another answer, or the tape has changed", used, n)
				}
				okToo, own := drawAlike(p, w, m, mixedUse(2))
				if !okToo || !isTape(c, behind) || !isTape(p, own) {
					t.Fatalf("%d used, Draw of %d of the tape, %d of its copy: another answer, or the copy has changed", used, m, n)
				}
			}
		}
	}
}

func TestCopiesWithManyDrawsAreApart(t *testing.T) {
	b := room.Some(200, 9)
	p, w, ok := New(b), words{bytes: b}, true
	for k := range 60 { // whatever room there is behind what was drawn, no two tapes have it together
		c, other := p.Copy(), w
		if ok, other = drawAlike(c, other, 2, mixedUse(100+k)); !ok {
			t.Fatalf("Draw of a copy behind %d: another answer", k)
		}
		if ok, w = drawAlike(p, w, 3, mixedUse(k)); !ok || !isTape(p, w) || !isTape(c, other) {
			t.Fatalf("Draw of a tape and its copy behind %d: All %v, and %v", k, p.All(), c.All())
		}
	}
}

func TestCopiesHandOutBytesOfTheirOwn(t *testing.T) {
	b := room.Some(24, 3)
	p := New(b)
	first, _ := p.Draw(4, Use{})
	c := p.Copy()
	d := c.Copy()
	own, _ := p.Draw(20, Use{})
	others, _ := c.Draw(20, Use{})
	more, _ := d.Draw(20, Use{})
	for k, piece := range [][]byte{own, others, more} {
		if !bytes.Equal(piece, b[4:]) {
			t.Errorf("tape %d draws %v, want %v", k, piece, b[4:])
		}
	}
	if k := room.Shared(first, own, others, more); k >= 0 {
		t.Errorf("piece %d shares memory with one ahead of it", k)
	}
}

func TestChangedPiecesOfACopyChangeNothing(t *testing.T) {
	b := room.Some(10, 1)
	for _, late := range []bool{false, true} {
		p := New(b)
		c := p.Copy()
		if late {
			p, c = c, p
		}
		piece, _ := p.Draw(10, Use{})
		clear(piece)
		if got, ok := c.Draw(10, Use{}); !ok || !bytes.Equal(got, b) {
			t.Errorf("what was drawn of one is changed: the other one draws %v, want %v", got, b)
		}
	}
}

func TestNilTape(t *testing.T) {
	var none *Tape
	for _, n := range counts(7) {
		for _, u := range uses()[:4] {
			if b, ok := none.Draw(n, u); ok || len(b) != 0 {
				t.Errorf("Draw of %d of nil: %v, %t", n, b, ok)
			}
		}
	}
	if none.Left() != 0 || len(none.All()) != 0 || none.Copy() != nil {
		t.Errorf("of nil: Left %d, All %v, or Copy is something", none.Left(), none.All())
	}
}

// All of it, by its words.

func TestManySteps(t *testing.T) {
	for seed := range 8 {
		b := room.Some(200*seed, seed)
		p, w := New(b), words{bytes: b}
		for k := range 400 {
			kept, before := p.Copy(), w
			r := room.Some(3, 1000*seed+k)
			n := int(r[0])%(2+int(r[1])%40) - 2
			if r[2] == 0 {
				n = counts(p.Left())[int(r[1])%len(counts(p.Left()))]
			}
			ok, behind := drawAlike(p, w, n, mixedUse(k))
			if w = behind; !ok || !isTape(p, w) {
				t.Fatalf("seed %d, step %d, Draw of %d: another answer, or Left %d", seed, k, n, p.Left())
			}
			if !isTape(kept, before) {
				t.Fatalf("seed %d, step %d: what was copied ahead has changed", seed, k)
			}
			if r[2]%5 == 1 {
				p = kept.Copy()
				w = before
			}
		}
	}
}

// The rules that hold everywhere, of each call.

func TestWhatIsHandedInIsNotChanged(t *testing.T) {
	for size := range 12 {
		b, unchanged := room.Of(room.Some(size, size)...)
		p := New(b)
		for n := range size {
			piece, _ := p.Draw(n, Use{})
			clear(piece[:cap(piece)])
			rest, _ := p.Copy().Draw(p.Left(), Use{})
			clear(rest[:cap(rest)])
		}
		if !unchanged() {
			t.Errorf("the %d bytes that were handed in are changed, or their spare room is", size)
		}
	}
}

func TestWhatIsHandedInIsNotKept(t *testing.T) {
	b := room.Some(9, 1)
	w := words{bytes: bytes.Clone(b)}
	p := New(b)
	_, w = drawAlike(p, w, 4, mixedUse(1))
	clear(b)
	if !isTape(p, w) {
		t.Error("the list that was handed in was changed, and the tape with it")
	}
}

func TestPiecesAreNewMemory(t *testing.T) {
	b := room.Some(60, 1)
	p := New(b)
	lists := [][]byte{b}
	for n := range 10 {
		piece, _ := p.Draw(n, Use{})
		lists = append(lists, piece)
	}
	left := p.Left()
	rest, _ := p.Copy().Draw(left, Use{})
	if k := room.Shared(append(lists, rest)...); k >= 0 {
		t.Errorf("piece %d shares memory with one ahead of it", k)
	}
	if got, _ := p.Draw(left, Use{}); !bytes.Equal(got, room.Some(60, 1)[60-left:]) { // room.Shared has written over all pieces
		t.Errorf("pieces were changed, and what was left with them: %v", got)
	}
}

func TestPiecesHaveNoSpareRoomOfTheTape(t *testing.T) {
	b := room.Some(20, 2)
	p, w, ok := New(b), words{bytes: b}, true
	for k := range 5 {
		_, _, behind := w.draw(k, mixedUse(k))
		piece, _ := p.Draw(k, mixedUse(k))
		piece = append(piece, 255, 254, 253, 252, 251)
		if clear(piece[:cap(piece)]); !isTape(p, behind) {
			t.Fatalf("an append to a piece of %d bytes wrote over what is left", k)
		}
		w = behind
	}
	if ok, w = drawAlike(p, w, 10, mixedUse(9)); !ok || !isTape(p, w) {
		t.Error("Draw of the rest: another answer")
	}
}

func TestPiecesStayWhenMoreIsDrawn(t *testing.T) {
	b := room.Some(600, 5)
	p := New(b)
	var pieces [][]byte
	for n := range 30 {
		piece, _ := p.Draw(n, mixedUse(n))
		pieces = append(pieces, piece)
	}
	if all := slices.Concat(pieces...); !bytes.Equal(all, b[:len(all)]) {
		t.Error("what was handed out has changed")
	}
}

func TestAllIsNewMemory(t *testing.T) {
	b := room.Some(40, 5)
	p, w, ok := New(b), words{bytes: b}, true
	for k := range 12 {
		if ok, w = drawAlike(p, w, k%4, mixedUse(k)); !ok {
			t.Fatalf("Draw %d: another answer", k)
		}
		told, again := p.All(), p.All()
		for i := range told[:cap(told)] {
			told[:cap(told)][i] = Drawn{mixedUse(99), 99, 99}
		}
		if !slices.Equal(again, w.drawn) || !isTape(p, w) {
			t.Fatalf("behind Draw %d: what was handed out is the tape's own, or another answer's", k)
		}
		p.Copy().Draw(1, mixedUse(50))
		if ok, w = drawAlike(p, w, 0, mixedUse(51)); !ok {
			t.Fatalf("Draw of nothing behind Draw %d: another answer", k)
		}
		if !slices.Equal(again, w.drawn[:len(again)]) || slices.ContainsFunc(told[:cap(told)], func(d Drawn) bool { return d != Drawn{mixedUse(99), 99, 99} }) {
			t.Fatalf("a later Draw behind Draw %d changed what was handed out", k)
		}
	}
}

func TestTwoTapesAreApart(t *testing.T) {
	b := room.Some(8, 1)
	p, other := New(b), New(b)
	piece, _ := p.Draw(5, mixedUse(1))
	clear(piece)
	if !isTape(other, words{bytes: b}) || !isTape(New(b), words{bytes: b}) {
		t.Error("a tape hangs on another one of the same bytes")
	}
}
