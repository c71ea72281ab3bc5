package entry

import (
	"bytes"
	"encoding/binary"
	"slices"
	"testing"

	"sherd/api"
	"sherd/crc"
	"sherd/room"
)

var table = crc.New()

// roomForText is how many bytes 32 bodies of 58 have.
const roomForText = 32 * 58

// gets tells whether Get tells some changes, and true.
func gets(sectors [][]byte, want []api.Change) bool {
	got, ok := Get(table, sectors)
	return ok && room.SameChanges(got, want)
}

// getsNot tells whether Get tells nothing, false.
func getsNot(sectors [][]byte) bool {
	got, ok := Get(table, sectors)
	return !ok && len(got) == 0
}

// P18.1

func TestMost(t *testing.T) {
	if Most() != 32 || Most() != api.FirstSlot-api.FirstBody {
		t.Errorf("Most: %d", Most())
	}
}

func TestCheckOfWhatMayBe(t *testing.T) {
	for _, l := range room.RightChanges() {
		if e := Check(l); e != api.OK {
			t.Errorf("Check of %d changes: %d", len(l), e)
		}
	}
}

func TestCheckOfEachAt(t *testing.T) {
	for at := -1000; at < 70000; at++ {
		want := api.OK
		if at < 0 || 0 < at && at < 34 || at > 511 {
			want = api.ErrRange
		}
		for _, c := range []api.Change{{At: at}, {At: at, Data: make([]byte, 64)}} {
			if e := Check([]api.Change{c}); e != want {
				t.Errorf("Check of a change at %d: %d", at, e)
			}
		}
	}
}

func TestCheckOfAWrongAtAmongOthers(t *testing.T) {
	for _, at := range room.WrongPlaces() {
		for _, n := range []int{0, 1, 5} {
			for k := range n + 1 {
				for _, c := range []api.Change{{At: at}, {At: at, Data: room.Some(64, 1)}} {
					if e := Check(slices.Insert(room.Changes(n, n, n), k, c)); e != api.ErrRange {
						t.Errorf("Check of %d changes with one at %d: %d", 2*n+1, at, e)
					}
				}
			}
		}
	}
}

func TestCheckOfTwoThatAreTheSame(t *testing.T) {
	for _, at := range []int{0, 34, 35, 255, 256, 510, 511} {
		for _, n := range []int{0, 1, 2, 7} {
			for k := range n + 1 {
				others := slices.DeleteFunc(room.Changes(n, n, n), func(c api.Change) bool { return c.At == at })
				for _, c := range []api.Change{{At: at}, {At: at, Data: room.Some(64, 1)}} {
					l := slices.Insert(slices.Clone(others), min(k, len(others)), room.FullChange(at))
					if e := Check(l); e != api.OK {
						t.Errorf("Check of a change at %d among %d: %d", at, len(l), e)
					}
					if e := Check(append(l, c)); e != api.ErrTwice {
						t.Errorf("Check of two changes at %d among %d: %d", at, len(l)+1, e)
					}
				}
			}
		}
	}
	all := room.Changes(0, 479, 1)
	for _, c := range []api.Change{all[0], all[478], {At: 0}} {
		if e := Check(append(all, c)); e != api.ErrTwice {
			t.Errorf("Check of all changes, and one at %d once more: %d", c.At, e)
		}
	}
}

func TestCheckOfDataOfOtherLengths(t *testing.T) {
	lengths := []int{1 << 16, 1<<16 + 64, 1<<16 - 64, 1 << 20}
	for n := range 600 {
		lengths = append(lengths, n)
	}
	for _, n := range lengths {
		want := api.ErrForm
		if n == 0 || n == 64 {
			want = api.OK
		}
		c := api.Change{At: 33 + 100, Data: make([]byte, n)}
		for _, l := range [][]api.Change{{c}, {c, {At: 40}}, {room.FullChange(40), c}, {{At: 0}, c, room.FullChange(511)}} {
			if e := Check(l); e != want {
				t.Errorf("Check of %d changes, one with %d bytes: %d", len(l), n, e)
			}
		}
	}
}

func TestCheckReadsNoSpareRoom(t *testing.T) {
	whole := bytes.Repeat([]byte{255}, 128)
	for n := range 65 {
		l := []api.Change{{At: 40, Data: whole[:n]}, {At: 41, Data: whole[64 : 64+n]}}
		want := api.ErrForm
		if n == 0 || n == 64 {
			want = api.OK
		}
		if e := Check(l); e != want {
			t.Errorf("Check of changes with %d bytes and spare room: %d", n, e)
		}
		if got, e := Put(table, l); want == api.OK && (e != api.OK || !room.Same(got, room.ChangesSectors(l))) {
			t.Errorf("Put of changes with %d bytes and spare room: %v, %d", n, got, e)
		}
	}
}

func TestCheckOfTooManyBodies(t *testing.T) {
	for given := range 30 {
		for bare := range 479 - given + 1 {
			want := api.OK
			if 2+67*given+3*bare > roomForText {
				want = api.ErrFull
			}
			if e := Check(room.Changes(given, bare, given)); e != want {
				t.Errorf("Check of %d changes with bytes, and %d without: %d", given, bare, e)
			}
		}
	}
	for _, given := range []int{100, 255, 256, 257, 478, 479} {
		if e := Check(room.Changes(given, 479-given, given)); e != api.ErrFull {
			t.Errorf("Check of %d changes with bytes, and all others without: %d", given, e)
		}
	}
}

func TestCheckTellsTheFirstError(t *testing.T) {
	room.EachFaulty(func(l []api.Change, want api.Errno) {
		if e := Check(l); e != want {
			t.Errorf("Check of %v: %d, want %d", l, e, want)
		}
		got, e := Put(table, l)
		if e != want || want != api.OK && len(got) != 0 || want == api.OK && !room.Same(got, room.ChangesSectors(l)) {
			t.Errorf("Put of %v: %d sectors, %d, want %d", l, len(got), e, want)
		}
	})
	twiceElsewhere := []api.Change{{At: 33}, {At: 33}}
	twiceTorn := []api.Change{{At: 40, Data: []byte{1}}, {At: 40, Data: []byte{1}}}
	if Check(twiceElsewhere) != api.ErrRange || Check(twiceTorn) != api.ErrTwice {
		t.Errorf("Check of the same two twice: %d, %d", Check(twiceElsewhere), Check(twiceTorn))
	}
}

func TestCheckOfVeryManyChanges(t *testing.T) {
	l := make([]api.Change, 1<<20)
	if e := Check(l); e != api.ErrTwice {
		t.Errorf("Check of very many changes at 0: %d", e)
	}
	l[1<<20-1].At = 1
	if e := Check(l); e != api.ErrRange {
		t.Errorf("Check of very many changes, the last one at 1: %d", e)
	}
	for k := range l {
		l[k].At = 34 + k%478
	}
	for _, n := range []int{480, 1 << 16, 1<<16 + 1, 1 << 20} { // of some their number's lower bytes would be that of others that may be
		if got, e := Put(table, l[:n]); e != api.ErrTwice || len(got) != 0 {
			t.Errorf("Put of %d changes: %d sectors, %d", n, len(got), e)
		}
	}
}

func TestPutOfKnownOnes(t *testing.T) {
	rising := make([]byte, 64)
	for k := range rising {
		rising[k] = byte(k)
	}
	for _, test := range []struct {
		l    []api.Change
		want [][]byte
	}{
		{nil, [][]byte{room.Filled([]byte{106, 1, 0, 2, 65, 217, 18, 255}, 150, 159, 240, 224), room.Filled([]byte{98}, 205, 114, 12, 16)}},
		{[]api.Change{{At: 34}}, [][]byte{room.Filled([]byte{106, 1, 0, 5, 217, 44, 214, 88}, 185, 20, 56, 217), room.Filled([]byte{98, 0, 0, 1, 0, 34, 0}, 15, 177, 241, 215)}},
		{[]api.Change{{At: 511}, {At: 0}}, [][]byte{room.Filled([]byte{106, 1, 0, 8, 243, 133, 218, 105}, 193, 39, 131, 233), room.Filled([]byte{98, 0, 0, 2, 1, 255, 0, 0, 0, 0}, 176, 51, 81, 34)}},
		{[]api.Change{{At: 40, Data: rising}}, [][]byte{
			room.Filled([]byte{106, 2, 0, 69, 83, 134, 106, 31}, 16, 83, 210, 20),
			room.Filled(append([]byte{98, 0, 0, 1, 0, 40, 1}, rising[:53]...), 243, 84, 50, 4),
			room.Filled(append([]byte{98, 1}, rising[53:]...), 2, 109, 234, 8),
		}},
	} {
		if got, e := Put(table, test.l); e != api.OK || !room.Same(got, test.want) {
			t.Errorf("Put of %v: %v, %d, want %v", test.l, got, e, test.want)
		}
	}
}

func TestPutOfWhatMayBe(t *testing.T) {
	met := map[int]int{}
	for _, l := range room.RightChanges() {
		got, e := Put(table, l)
		if e != api.OK || !room.Same(got, room.ChangesSectors(l)) {
			t.Errorf("Put of %v: %v, %d", l, got, e)
		}
		met[len(got)]++
	}
	if met[2] == 0 || met[3] == 0 || met[33] < 20 || met[1] != 0 || met[34] != 0 {
		t.Errorf("the changes that may be have, by how many sectors: %v", met)
	}
}

// P18.2

func TestGetOfSectorsByTheirWords(t *testing.T) {
	for _, l := range room.RightChanges() {
		if !gets(room.ChangesSectors(l), l) {
			t.Errorf("Get of the sectors of %v tells others", l)
		}
	}
}

func TestGetOfFewerSectors(t *testing.T) {
	if !getsNot(nil) || !getsNot([][]byte{}) {
		t.Error("Get of no sectors tells something")
	}
	for _, l := range room.RightChanges() {
		room.EachShort(room.ChangesSectors(l), func(short [][]byte) {
			if !getsNot(short) {
				t.Fatalf("Get of %d sectors of %v tells something", len(short), l)
			}
		})
	}
}

func TestGetOfSpoiltSectors(t *testing.T) {
	for _, l := range room.FewChanges() {
		room.EachSpoilt(room.ChangesSectors(l), func(spoilt [][]byte, how string) {
			if !getsNot(spoilt) {
				t.Errorf("Get of the sectors of %v, of which %s, tells something: %v", l, how, spoilt)
			}
		})
	}
}

func TestGetWhenBitsTurn(t *testing.T) {
	l := []api.Change{{At: 34}}
	all := room.ChangesSectors(l)
	for k, own := range all {
		room.EachTurn(own, func(turned []byte, bit int, mask uint64) {
			all[k] = turned
			if !getsNot(all) {
				t.Fatalf("Get of the sectors of %v with the bits %b of %d from %d on turned", l, mask, k, bit)
			}
		})
		all[k] = own
	}
}

func TestGetWhenABitTurns(t *testing.T) {
	for _, l := range room.FewChanges() {
		all := room.ChangesSectors(l)
		step := 1 + len(all)/8 // of many sectors not all bits, as they are too slow
		for k, own := range all {
			for bit := k % step; bit < 512; bit += step {
				all[k] = room.Turned(own, bit, 1)
				if !getsNot(all) {
					t.Errorf("Get of the sectors of %v with the bit %d of %d turned", l, bit, k)
				}
			}
			all[k] = own
		}
	}
}

// turns are what a byte of a payload is turned by: each bit alone, and some together.
var turns = []byte{1, 2, 3, 4, 8, 16, 32, 64, 128, 255}

func TestGetOfAnotherHead(t *testing.T) {
	for _, l := range room.FewChanges() {
		payloads := room.TextPayloads(room.ChangesText(l))
		all := room.AllSealed(payloads)
		for place := range 60 {
			for _, more := range turns {
				head := room.Filled(payloads[0])
				head[place] ^= more
				all[0] = room.Sealed(head)
				if !getsNot(all) {
					t.Errorf("Get of the sectors of %v with the head %v", l, head)
				}
			}
		}
	}
}

func TestGetOfAHeadWithTheSumLowestFirst(t *testing.T) {
	for _, l := range room.RightChanges() {
		payloads := room.TextPayloads(room.ChangesText(l))
		slices.Reverse(payloads[0][4:])
		if !getsNot(room.AllSealed(payloads)) {
			t.Errorf("Get of the sectors of %v with the sum's lowest byte first tells something", l)
		}
	}
}

func TestGetOfABodyOfAnotherKindOrNumber(t *testing.T) {
	for _, l := range room.FewChanges() {
		payloads := room.TextPayloads(room.ChangesText(l))
		all := room.AllSealed(payloads)
		for k := 1; k < len(all); k++ {
			for place := range 2 {
				for _, more := range turns {
					body := bytes.Clone(payloads[k])
					body[place] ^= more
					all[k] = room.Sealed(body)
					if !getsNot(all) {
						t.Errorf("Get of the sectors of %v with body %d beginning with %v", l, k-1, body[:2])
					}
				}
			}
			all[k] = room.Sealed(payloads[k])
		}
	}
}

func TestGetOfABodyFilledUpWithOthers(t *testing.T) {
	for _, l := range room.RightChanges() {
		payloads := room.TextPayloads(room.ChangesText(l))
		all := room.AllSealed(payloads)
		last := len(all) - 1
		for place := len(payloads[last]); place < 60; place++ {
			for _, more := range []byte{1, 98, 128, 255} {
				body := room.Filled(payloads[last])
				body[place] = more
				all[last] = room.Sealed(body)
				if !getsNot(all) {
					t.Errorf("Get of the sectors of %v with %d at place %d of the last one", l, more, place)
				}
			}
		}
	}
}

func TestGetOfATextWithAnotherSum(t *testing.T) {
	for _, l := range [][]api.Change{{{At: 0}}, {room.FullChange(34)}, room.Changes(3, 2, 1)} {
		payloads := room.TextPayloads(room.ChangesText(l))
		for k := 1; k < len(payloads); k++ {
			for place := 2; place < len(payloads[k]); place++ {
				for _, more := range []byte{1, 2, 64, 255} {
					payloads[k][place] ^= more
					if !getsNot(room.AllSealed(payloads)) {
						t.Errorf("Get of the sectors of %v with another byte at place %d of body %d", l, place, k-1)
					}
					payloads[k][place] ^= more
				}
			}
		}
	}
}

func TestGetOfAnySectorsBytes(t *testing.T) {
	for place := range 64 {
		for b := range 256 {
			c := room.FullChange(40)
			c.Data[place] = byte(b)
			l := []api.Change{{At: 0}, c, room.FullChange(41)}
			if !gets(room.ChangesSectors(l), l) {
				t.Errorf("Get of the sectors of %v tells others", l)
			}
		}
	}
}

// textsOfNone tells texts that are no changes', each near to one of some.
func textsOfNone() [][]byte {
	some := func(begin ...byte) []byte { return append(begin, room.Some(64, 1)...) }
	all := [][]byte{
		nil, {0}, {1}, {0, 0, 0}, {0, 0, 0, 0, 0}, {0, 0, 0, 34, 0}, {0, 1}, {1, 0}, {1, 0, 0, 34, 0}, {0, 1, 0}, {0, 1, 0, 34}, {0, 1, 0, 34, 0, 0}, {0, 1, 0, 34, 0, 0, 35, 0}, {0, 2, 0, 34, 0}, {0, 2, 0, 34, 0, 0, 35}, {0, 3, 0, 34, 0, 0, 35, 0},
		{255, 255}, {255, 255, 0, 34, 0}, {0, 2, 0, 34, 0, 0, 34, 0}, {0, 3, 0, 0, 0, 0, 34, 0, 0, 0, 0}, {0, 2, 0, 0, 0, 0, 0, 0}, {0, 2, 0, 0, 0}, {0, 2}, {0, 1, 34, 0, 0}, {1, 0, 34, 0, 0}, {0, 1, 0, 34, 1},
		some(0, 1, 0, 34, 0), some(0, 1, 0, 34), some(0, 1, 0, 34, 1)[:68], append(some(0, 1, 0, 34, 1), 0), append(some(0, 2, 0, 34, 1), some(0, 34, 1)...), some(0, 1, 0, 34, 2), some(0, 1, 0, 33, 1), some(0, 1, 2, 0, 1), some(0, 0, 0, 34, 1), some(0, 2, 0, 34, 1), some(),
		make([]byte, 58), make([]byte, 59), make([]byte, 116), bytes.Repeat([]byte{255}, 58), bytes.Repeat([]byte{1}, 58),
	}
	for flag := 1; flag < 256; flag++ {
		all = append(all, []byte{0, 1, 0, 34, byte(flag)}, []byte{0, 2, 0, 34, byte(flag), 0, 35, 0})
		if flag > 1 {
			all = append(all, some(0, 1, 0, 34, byte(flag)), some(0, 2, 0, 35, 0, 0, 34, byte(flag)))
		}
	}
	for _, at := range []int{1, 2, 32, 33, 512, 513, 545, 1024, 1 << 15, 1<<16 - 1} {
		all = append(all, room.ChangesText([]api.Change{{At: at}}), room.ChangesText([]api.Change{{At: 34}, room.FullChange(at)}), room.ChangesText([]api.Change{{At: at}, {At: 0}}))
	}
	for _, l := range room.FewChanges() {
		text := room.ChangesText(l)
		for n := range text {
			all = append(all, text[:n])
		}
		for _, more := range [][]byte{{0}, {1}, {0, 34, 0}, make([]byte, 57), make([]byte, 58), make([]byte, 67)} {
			all = append(all, slices.Concat(text, more))
		}
		for _, count := range []int{0, 1, len(l) - 1, len(l) + 1, len(l) + 256, 1<<16 - 1} {
			if other := bytes.Clone(text); count >= 0 && count != len(l) {
				binary.BigEndian.PutUint16(other, uint16(count))
				all = append(all, other)
			}
		}
	}
	for _, l := range [][]api.Change{room.Changes(28, 0, 1), room.Changes(27, 16, 1), room.Changes(27, 50, 1), room.Changes(40, 3, 1), room.Changes(200, 1, 1)} { // they have more than 32 bodies
		all = append(all, room.ChangesText(l))
	}
	return all
}

func TestGetOfTextsThatAreNoChanges(t *testing.T) {
	for _, text := range textsOfNone() {
		all := room.AllSealed(room.TextPayloads(text))
		if !getsNot(all) || !getsNot(append(all, room.Sealed([]byte{98, byte(len(all))}), nil)) {
			t.Errorf("Get of the sectors of the text %v tells something", text)
		}
	}
}

func TestGetOfMoreBodiesThanTheTextHas(t *testing.T) {
	for _, l := range room.RightChanges() {
		payloads := room.TextPayloads(room.ChangesText(l))
		n := len(payloads)
		payloads[0][1] = byte(n)
		if all := room.AllSealed(append(payloads, []byte{98, byte(n - 1)})); !getsNot(all) || !getsNot(all[:n]) {
			t.Errorf("Get of the sectors of %v, and one body more, tells something", l)
		}
		payloads[0][1] = byte(n - 2)
		if all := room.AllSealed(payloads); !getsNot(all) || !getsNot(all[:n-1]) {
			t.Errorf("Get of the sectors of %v with a head of one body less tells something", l)
		}
	}
}

func TestGetOfAHeadAlone(t *testing.T) {
	for bodies := range 256 {
		for _, size := range []byte{0, 1, 2, 5, 58} {
			for _, sum := range [][]byte{{0, 0, 0, 0}, {65, 217, 18, 255}} {
				if head := append([]byte{106, byte(bodies), 0, size}, sum...); !getsNot([][]byte{room.Sealed(head)}) {
					t.Errorf("Get of the head %v alone tells something", head)
				}
			}
		}
	}
}

// byWords tells the changes of sectors, and whether there are some, by the document's words.
func byWords(sectors [][]byte) ([]api.Change, bool) {
	payloads := make([][]byte, len(sectors))
	for k, b := range sectors {
		if len(b) == 64 && bytes.Equal(b, room.Sealed(b[:60])) {
			payloads[k] = b[:60]
		}
	}
	if len(payloads) == 0 || payloads[0] == nil {
		return nil, false
	}
	head := payloads[0]
	n, size := int(head[1]), int(head[2])<<8|int(head[3])
	if n > 32 || len(payloads) <= n || size > 58*n {
		return nil, false
	}
	var text []byte
	for _, payload := range payloads[1 : 1+n] {
		if payload == nil {
			return nil, false
		}
		text = append(text, payload[2:]...)
	}
	if text = text[:size]; !room.Same(room.AllSealed(room.TextPayloads(text)), sectors[:1+n]) {
		return nil, false
	}
	return changesIn(text)
}

// changesIn tells the changes of a text, and whether there are some that may be, by the document's words.
func changesIn(text []byte) ([]api.Change, bool) {
	if len(text) < 2 {
		return nil, false
	}
	l, met := []api.Change{}, map[int]bool{}
	n, text := int(text[0])<<8|int(text[1]), text[2:]
	for range n {
		if len(text) < 3 || text[2] > 1 || len(text) < 3+64*int(text[2]) {
			return nil, false
		}
		at, data := int(text[0])<<8|int(text[1]), text[3:3+64*int(text[2])]
		if met[at] || at != 0 && at < 34 || at > 511 {
			return nil, false
		}
		met[at] = true
		l, text = append(l, api.Change{At: at, Data: data}), text[3+len(data):]
	}
	return l, len(text) == 0
}

// mixed tells the sectors of changes some of which are changed, and sealed anew, mostly so that the text's sum is right; all of it hangs on seed alone.
func mixed(seed int) [][]byte {
	b := room.Some(40, seed)
	text := room.ChangesText(room.Changes(int(b[0]%4), int(b[1]%30), seed))
	for k := range int(b[2] % 3) {
		place := int(b[3+k]) % len(text)
		if k == 1 {
			place = len(text) - 1 - place
		}
		text[place] ^= b[5+k] >> (b[7+k] % 8)
	}
	if b[9]%8 == 0 {
		text = text[:int(b[10])%len(text)]
	}
	payloads := room.TextPayloads(text)
	if b[11]%4 == 0 {
		k := int(b[12]) % len(payloads)
		payloads[k][int(b[13])%len(payloads[k])] ^= b[14] >> (b[15] % 8)
	}
	all := room.AllSealed(payloads)
	if b[16]%8 == 0 {
		k := int(b[17]) % len(all)
		all = slices.Delete(all, k, k+1)
	}
	return append(all, room.Lists(int(b[18]%3), 64, seed)...)
}

func TestGetOfMixedSectors(t *testing.T) {
	met := map[bool]int{}
	for seed := range 20000 {
		sectors := mixed(seed)
		want, right := byWords(sectors)
		met[right]++
		if right && !gets(sectors, want) || !right && !getsNot(sectors) {
			t.Fatalf("Get of %v, want %v, %t", sectors, want, right)
		}
	}
	if met[true] < 4000 || met[false] < 4000 {
		t.Errorf("of the sectors are some changes', by whether they are: %v", met)
	}
}

// P18.3

// behind tells what may stand behind sectors, lists of lists.
func behind() [][][]byte {
	return [][][]byte{nil, {nil}, {{}}, room.NoSectors(), room.ChangesSectors(nil), room.ChangesSectors([]api.Change{room.FullChange(34)}), room.ChangesSectors(room.Changes(27, 15, 1))[1:], {make([]byte, 1<<16)}, make([][]byte, 1000), room.Lists(60, 64, 1), {room.Sealed([]byte{98, 1}), room.Sealed([]byte{98, 2})}}
}

func TestGetOfPut(t *testing.T) {
	for _, l := range room.RightChanges() {
		sectors, _ := Put(table, l)
		if !gets(sectors, l) {
			t.Errorf("Get of Put of %v tells others", l)
		}
		for _, more := range append(behind(), sectors, sectors[1:], sectors[len(sectors)-1:]) {
			if !gets(slices.Concat(sectors, more), l) {
				t.Errorf("Get of Put of %v, and %d lists behind, tells others", l, len(more))
			}
		}
	}
	for seed := range 3000 {
		b := room.Some(3, seed)
		l := room.Changes(int(b[0]%28), int(b[1]%16), seed)
		sectors, e := Put(table, l)
		if e != api.OK || !gets(append(sectors, room.Some(int(b[2]%66), seed)), l) {
			t.Errorf("Get of Put of %v, and a list behind, tells others", l)
		}
	}
}

func TestOtherChangesHaveOtherSectors(t *testing.T) {
	met := map[string][]api.Change{}
	for _, l := range room.RightChanges() {
		sectors, _ := Put(table, l)
		key := string(bytes.Join(sectors, nil))
		if other, is := met[key]; is && !room.SameChanges(l, other) {
			t.Errorf("Put of %v and of %v: the same sectors", l, other)
		}
		met[key] = l
	}
}

// The rules that hold everywhere, of each call.

func TestWhatIsHandedInIsNotChanged(t *testing.T) {
	before := *table
	lists := append(room.RightChanges(), room.Changes(28, 0, 1), room.Changes(200, 100, 1), []api.Change{{At: 33}}, []api.Change{{At: 0}, {At: 0}}, []api.Change{{At: 40, Data: []byte{1}}})
	for _, l := range lists {
		list, unchanged := room.MarkedChanges(l)
		Check(list)
		Put(table, list)
		if !unchanged() {
			t.Errorf("%v, or its spare room, was changed", l)
		}
	}
	for _, l := range room.RightChanges() {
		for _, more := range behind() {
			sectors, unchanged := room.Rows(append(room.ChangesSectors(l), more...)...)
			Get(table, sectors)
			Get(table, sectors[:len(sectors)/2])
			if !unchanged() {
				t.Errorf("the sectors of %v, or their spare room, were changed", l)
			}
		}
	}
	if *table != before {
		t.Error("the table was changed")
	}
}

func TestAnswersShareNoMemory(t *testing.T) {
	for _, l := range room.FewChanges() {
		list, _ := room.MarkedChanges(l)
		first, _ := Put(table, list)
		second, _ := Put(table, list)
		one, _ := Get(table, first)
		two, _ := Get(table, first)
		all := slices.Concat(first, second)
		for _, c := range slices.Concat(list, one, two) {
			all = append(all, c.Data)
		}
		if k := room.Shared(all...); k >= 0 {
			t.Errorf("of %v: list %d shares memory with one ahead of it", l, k)
		}
		if got, e := Put(table, l); e != api.OK || !room.Same(got, room.ChangesSectors(l)) {
			t.Errorf("Put of %v, when those of before were written over: %v, %d", l, got, e)
		}
	}
}

func TestAnswersHangOnArgumentsAlone(t *testing.T) {
	other := crc.New()
	for _, l := range room.RightChanges() {
		sectors, e := Put(table, l)
		again, same := Put(other, l)
		if e != same || !room.Same(sectors, again) {
			t.Errorf("Put of %v is another with another table", l)
		}
		one, is := Get(other, sectors)
		if !is || !gets(sectors, one) {
			t.Errorf("Get of Put of %v is another with another table", l)
		}
	}
}

func TestNothingIsSealedWithoutATable(t *testing.T) {
	for _, l := range append(room.RightChanges(), room.Changes(28, 0, 1), []api.Change{{At: 33}}, []api.Change{{At: 0}, {At: 0}}, []api.Change{{At: 40, Data: []byte{1}}}) {
		if got, e := Put(nil, l); len(got) != 0 || e != Check(l) {
			t.Errorf("Put of %v without a table: %v, %d", l, got, e)
		}
		if got, ok := Get(nil, room.ChangesSectors(l)); ok || len(got) != 0 {
			t.Errorf("Get of the sectors of %v without a table: %v", l, got)
		}
	}
	for _, sectors := range behind() {
		if got, ok := Get(nil, sectors); ok || len(got) != 0 {
			t.Errorf("Get of %v without a table: %v", sectors, got)
		}
	}
}

func TestNoCallPanicsWithATableThatNewDidNotMake(t *testing.T) {
	for _, l := range room.RightChanges() {
		sectors, _ := Put(&crc.Table{}, l)
		Get(&crc.Table{}, sectors)
		Get(&crc.Table{}, room.ChangesSectors(l))
	}
}
