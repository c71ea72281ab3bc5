package super

import (
	"bytes"
	"encoding/binary"
	"math"
	"slices"
	"testing"

	"sherd/api"
	"sherd/crc"
	"sherd/room"
	"sherd/sector"
)

var table = crc.New()

// most is the greatest Fence, and the greatest Dealt.
const most = 1<<32 - 1

// mayBe is whether something may be, by the document's words.
func mayBe(s api.Super) bool {
	if s.State == 0 {
		return s.Fence == 0 && s.Dealt == 0
	}
	return 0 <= s.Dealt && s.Dealt <= s.Fence && s.Fence <= most && (s.State == 1 || s.State == 2)
}

// payload is what a sealed sector begins with, by the document's words.
func payload(first, state byte, fence, dealt uint32) []byte {
	b := []byte{first, state}
	b = binary.BigEndian.AppendUint32(b, fence)
	return binary.BigEndian.AppendUint32(b, dealt)
}

// P17.1

func TestRightOfKnownOnes(t *testing.T) {
	for _, test := range []struct {
		s    api.Super
		want bool
	}{
		{api.Super{}, true}, {api.Super{State: api.Blank}, true}, {api.Super{State: api.Sound}, true}, {api.Super{State: api.Suspect}, true},
		{room.Sound(5, 3), true}, {room.Sound(5, 5), true}, {room.Sound(5, 6), false}, {room.Suspect(5, 5), true}, {room.Suspect(5, 6), false}, {room.Sound(0, 1), false},
		{room.Sound(most, 0), true}, {room.Sound(most, most), true}, {room.Sound(most+1, 0), false}, {room.Sound(most+1, most), false}, {room.Sound(most, most+1), false}, {room.Sound(most+1, most+1), false},
		{room.Sound(5, -1), false}, {room.Sound(-1, -1), false}, {room.Sound(-1, -2), false}, {room.Suspect(-1, 0), false}, {room.Suspect(0, -1), false},
		{api.Super{Fence: 1}, false}, {api.Super{Dealt: 1}, false}, {api.Super{Fence: 1, Dealt: 1}, false}, {api.Super{Fence: most}, false}, {api.Super{Fence: -1}, false}, {api.Super{Dealt: -1}, false},
		{api.Super{State: 3}, false}, {api.Super{State: -1}, false}, {api.Super{State: 256}, false}, {api.Super{State: 257}, false}, {api.Super{Fence: 5, Dealt: 3, State: 258}, false},
		{api.Super{Fence: math.MaxInt, Dealt: math.MaxInt, State: math.MaxInt}, false}, {api.Super{Fence: math.MinInt, Dealt: math.MinInt, State: math.MinInt}, false},
	} {
		if got := Right(test.s); got != test.want {
			t.Errorf("Right of %v: %t", test.s, got)
		}
	}
}

func TestRightOfManyOnes(t *testing.T) {
	for _, s := range room.RightSupers() {
		if !mayBe(s) || !Right(s) {
			t.Errorf("Right of %v: false", s)
		}
	}
	for _, s := range room.WrongSupers() {
		if mayBe(s) || Right(s) {
			t.Errorf("Right of %v: true", s)
		}
	}
}

func TestRightOfEachState(t *testing.T) {
	for state := -1000; state < 70000; state++ {
		for _, s := range []api.Super{{State: state}, {Fence: 7, State: state}, {Fence: 7, Dealt: 7, State: state}} {
			if got := Right(s); got != mayBe(s) {
				t.Errorf("Right of %v: %t", s, got)
			}
		}
	}
}

func TestPutOfKnownOnes(t *testing.T) {
	for _, test := range []struct {
		s          api.Super
		begin, sum []byte
	}{
		{api.Super{}, nil, []byte{0, 0, 0, 0}},
		{room.Sound(0, 0), []byte{83, 1}, []byte{254, 137, 247, 158}},
		{room.Sound(258, 3), []byte{83, 1, 0, 0, 1, 2, 0, 0, 0, 3}, []byte{253, 238, 87, 66}},
		{room.Suspect(0x01020304, 0x01020303), []byte{83, 2, 1, 2, 3, 4, 1, 2, 3, 3}, []byte{88, 11, 115, 51}},
		{room.Suspect(most, most), []byte{83, 2, 255, 255, 255, 255, 255, 255, 255, 255}, []byte{12, 136, 94, 214}},
	} {
		want := slices.Concat(test.begin, make([]byte, 60-len(test.begin)), test.sum)
		if got := Put(table, test.s); !bytes.Equal(got, want) {
			t.Errorf("Put of %v: %v, want %v", test.s, got, want)
		}
	}
}

func TestPutOfWhatIsBlankIsClear(t *testing.T) {
	if got := Put(table, api.Super{}); len(got) != 64 || !sector.Clear(got) {
		t.Errorf("Put of what is Blank: %v", got)
	}
}

func TestPutOfWhatMayBe(t *testing.T) {
	for _, s := range room.RightSupers() {
		if got, want := Put(table, s), room.SuperSector(s); !bytes.Equal(got, want) {
			t.Errorf("Put of %v: %v, want %v", s, got, want)
		}
	}
}

func TestPutOfWhatIsNotBlankIsSealed(t *testing.T) {
	for _, s := range room.RightSupers()[1:] {
		if b, ok := sector.Open(table, Put(table, s)); !ok || b[0] != 83 {
			t.Errorf("Put of %v is not sealed, or of another kind", s)
		}
	}
}

func TestPutOfOthersIsNothing(t *testing.T) {
	for _, s := range room.WrongSupers() {
		if got := Put(table, s); len(got) != 0 {
			t.Errorf("Put of %v: %v", s, got)
		}
	}
}

// P17.2

func TestGetOfPutIsWhatWasPut(t *testing.T) {
	for _, s := range room.RightSupers() {
		if got, ok := Get(table, Put(table, s)); !ok || got != s {
			t.Errorf("Get of Put of %v: %v, %t", s, got, ok)
		}
	}
	for k := range 20000 {
		b := room.Some(9, k)
		fence := int(binary.BigEndian.Uint32(b))
		s := api.Super{Fence: fence, Dealt: int(binary.BigEndian.Uint32(b[4:])) % (fence + 1), State: 1 + int(b[8]&1)}
		if got, ok := Get(table, Put(table, s)); !ok || got != s {
			t.Errorf("Get of Put of %v: %v, %t", s, got, ok)
		}
	}
}

func TestGetOfSectorsByTheirWords(t *testing.T) {
	for _, s := range room.RightSupers() {
		if got, ok := Get(table, room.SuperSector(s)); !ok || got != s {
			t.Errorf("Get of %v: %v, %t, want %v", room.SuperSector(s), got, ok, s)
		}
	}
}

// getsNot tells whether Get tells nothing, false.
func getsNot(b []byte) bool {
	got, ok := Get(table, b)
	return !ok && got == api.Super{}
}

func TestGetOfAnotherKind(t *testing.T) {
	for first := range 256 {
		for _, s := range []api.Super{{}, room.Sound(0, 0), room.Sound(258, 3), room.Suspect(most, most)} {
			b := room.Sealed(payload(byte(first), byte(s.State), uint32(s.Fence), uint32(s.Dealt)))
			if got := getsNot(b); got != (first != 83 || s.State == 0) {
				t.Errorf("Get of %v", b)
			}
		}
	}
}

func TestGetOfAnotherState(t *testing.T) {
	for state := range 256 {
		for _, fence := range []uint32{0, 1, 258, most} {
			for _, dealt := range []uint32{0, fence} {
				b := room.Sealed(payload(83, byte(state), fence, dealt))
				if got := getsNot(b); got != (state != 1 && state != 2) {
					t.Errorf("Get of %v", b)
				}
			}
		}
	}
}

func TestGetOfDealtAboveFence(t *testing.T) {
	for _, fence := range room.Ballots() {
		for _, dealt := range room.Ballots() {
			for state := byte(1); state < 3; state++ {
				b := room.Sealed(payload(83, state, uint32(fence), uint32(dealt)))
				if got := getsNot(b); got != (dealt > fence) {
					t.Errorf("Get of %v", b)
				}
			}
		}
	}
}

func TestGetOfBytesBehind(t *testing.T) {
	for _, s := range []api.Super{room.Sound(0, 0), room.Sound(258, 3), room.Suspect(most, most)} {
		for place := 10; place < 60; place++ {
			for more := 1; more < 256; more++ {
				b := room.SuperSector(s)[:60]
				b[place] = byte(more)
				if !getsNot(room.Sealed(b)) {
					t.Errorf("Get of %v, sealed", b)
				}
				b[69-place] ^= byte(more)
				if !getsNot(room.Sealed(b)) {
					t.Errorf("Get of %v, sealed", b)
				}
			}
		}
	}
}

func TestGetOfSealedSectorsOfOthers(t *testing.T) {
	name := []byte{82, 1, 3, 97, 98, 99}
	for _, b := range [][]byte{nil, {0}, {83}, {83, 0}, {1, 83}, {0, 83, 1}, {1}, {2}, name, bytes.Repeat([]byte{83}, 60), bytes.Repeat([]byte{255}, 60), room.Some(60, 1)} {
		if !getsNot(room.Sealed(b)) {
			t.Errorf("Get of %v, sealed", b)
		}
	}
	if b := []byte{83, 1, 2, 1, 0, 0, 3, 0, 0, 0}; !getsNot(room.Sealed(b)) { // 258 and 3 with the lowest byte first: Dealt is above Fence
		t.Errorf("Get of %v, sealed", b)
	}
}

func TestGetOfAnotherSum(t *testing.T) {
	for _, s := range room.RightSupers() {
		b := room.SuperSector(s)
		for k := 60; k < 64; k++ {
			for _, change := range []byte{1, 2, 16, 128, 255} {
				b[k] ^= change
				if !getsNot(b) {
					t.Errorf("Get of %v", b)
				}
				b[k] ^= change
			}
		}
	}
	for _, s := range room.RightSupers()[1:] {
		b := append(room.SuperSector(s)[:60], 0, 0, 0, 0)
		highestFirst := room.SuperSector(s)
		slices.Reverse(highestFirst[60:])
		if !getsNot(b) || !getsNot(highestFirst) {
			t.Errorf("Get of %v, or with the sum's highest byte first", b)
		}
	}
}

func TestGetOfBytesThatAreNoSector(t *testing.T) {
	if !getsNot(nil) || !getsNot([]byte{}) {
		t.Error("Get of no bytes tells something")
	}
	for _, s := range []api.Super{{}, room.Sound(0, 0), room.Sound(258, 3), room.Suspect(most, most)} {
		b := room.SuperSector(s)
		for n := range 64 {
			if !getsNot(b[:n:n]) || !getsNot(b[64-n:]) || !getsNot(b[:n]) { // the last one has what lacks as spare room
				t.Errorf("Get of %d bytes of %v tells something", n, b)
			}
			if n < 60 && (!getsNot(table.Seal(b[:n])) || !getsNot(slices.Concat(b[:n], make([]byte, 60-n), b[60:], []byte{0}))) {
				t.Errorf("Get of %d bytes of %v, and others, tells something", n, b)
			}
		}
		for _, n := range []int{1, 2, 4, 64, 192, 1 << 16, 1 << 20} {
			more := make([]byte, n)
			if !getsNot(slices.Concat(b, more)) || !getsNot(slices.Concat(more, b)) || !getsNot(table.Seal(slices.Concat(b[:60], more))) || !getsNot(table.Seal(more)) {
				t.Errorf("Get of %v, and %d bytes more, tells something", b, n)
			}
		}
		if !getsNot(slices.Concat(b, b)) || !getsNot(table.Seal(b)) {
			t.Errorf("Get of %v twice, or sealed once more, tells something", b)
		}
	}
	for n := range 300 {
		if got := getsNot(make([]byte, n)); got != (n != 64) {
			t.Errorf("Get of %d bytes 0", n)
		}
	}
}

func TestGetOfANearlyClearSector(t *testing.T) {
	for bit := range 512 {
		for _, mask := range []uint64{1, 3, 255, math.MaxUint64} {
			if b := room.Turned(make([]byte, 64), bit, mask); !getsNot(b) {
				t.Errorf("Get of %v", b)
			}
		}
	}
	for _, s := range room.RightSupers()[1:] {
		b := room.SuperSector(s)
		clear(b[10:])
		if !getsNot(b) {
			t.Errorf("Get of %v", b)
		}
	}
}

func TestGetWhenBitsTurn(t *testing.T) {
	for _, s := range []api.Super{{}, room.Sound(0, 0), room.Sound(258, 3), room.Suspect(most, most)} {
		b := room.SuperSector(s)
		room.EachTurn(b, func(turned []byte, bit int, mask uint64) {
			if !getsNot(turned) {
				t.Fatalf("Get of %v with the bits %b from %d on turned", b, mask, bit)
			}
		})
	}
}

func TestGetOfMixedSectors(t *testing.T) {
	told := 0
	for k := range 100000 {
		mixed := room.Some(14, k)
		b := payload([]byte{83, 83, 83, 82}[mixed[0]%4], mixed[1]%4, binary.BigEndian.Uint32(mixed[2:])>>(mixed[6]%32), binary.BigEndian.Uint32(mixed[7:])>>(mixed[11]%32))
		if mixed[12]%4 == 0 {
			b = append(b, mixed[13]%2)
		}
		s := api.Super{Fence: int(binary.BigEndian.Uint32(b[2:])), Dealt: int(binary.BigEndian.Uint32(b[6:])), State: int(b[1])}
		right := b[0] == 83 && s.State != 0 && mayBe(s) && !slices.Contains(b[10:], 1)
		if !right {
			s = api.Super{}
		} else {
			told++
		}
		if got, ok := Get(table, room.Sealed(b)); ok != right || got != s {
			t.Fatalf("Get of %v, sealed: %v, %t, want %v, %t", b, got, ok, s, right)
		}
	}
	if told < 10000 {
		t.Errorf("only %d of the sectors say something", told)
	}
}

// The rules that hold everywhere, of each call.

// sectors are many that Put could have told, and many other bytes.
func sectors() [][]byte {
	all := [][]byte{nil, {}, {83}, {83, 1}, make([]byte, 63), make([]byte, 65), room.Some(64, 1), bytes.Repeat([]byte{255}, 64), room.Some(500, 1), room.Sealed(nil), room.Sealed([]byte{83})}
	for _, s := range room.RightSupers() {
		all = append(all, room.SuperSector(s), room.SuperSector(s)[:60])
	}
	return all
}

func TestWhatIsHandedInIsNotChanged(t *testing.T) {
	before := *table
	for _, b := range sectors() {
		list, unchanged := room.Of(b...)
		Get(table, list)
		if !unchanged() {
			t.Errorf("%v, or its spare room, was changed", b)
		}
	}
	for _, s := range room.RightSupers() {
		Put(table, s)
	}
	if *table != before {
		t.Error("the table was changed")
	}
}

func TestAnswersShareNoMemory(t *testing.T) {
	for _, s := range []api.Super{{}, room.Sound(0, 0), room.Suspect(258, 3)} {
		if k := room.Shared(Put(table, s), Put(table, s), Put(table, s)); k >= 0 {
			t.Errorf("Put of %v: list %d shares memory with one ahead of it", s, k)
		}
		if got := Put(table, s); !bytes.Equal(got, room.SuperSector(s)) {
			t.Errorf("Put of %v, when those of before were written over: %v", s, got)
		}
	}
	b := room.SuperSector(room.Sound(258, 3))
	got, _ := Get(table, b)
	clear(b)
	if got != room.Sound(258, 3) {
		t.Errorf("Get's answer has changed with the sector: %v", got)
	}
}

func TestAnswersHangOnArgumentsAlone(t *testing.T) {
	other := crc.New()
	for _, s := range append(room.RightSupers(), room.Sound(3, 4), api.Super{State: 3}) {
		if !bytes.Equal(Put(table, s), Put(other, s)) {
			t.Errorf("Put of %v is another with another table", s)
		}
	}
	for _, b := range sectors() {
		got, ok := Get(other, b)
		if again, same := Get(table, b); got != again || ok != same {
			t.Errorf("Get of %v is another with another table", b)
		}
	}
}

func TestNoCallPanicsWithoutATable(t *testing.T) {
	for _, c := range []*crc.Table{nil, {}} {
		for _, s := range append(room.RightSupers(), room.WrongSupers()[:1000]...) {
			Get(c, Put(c, s))
		}
		for _, b := range sectors() {
			Get(c, b)
		}
	}
}

func TestWhatNeedsNoSumNeedsNoTable(t *testing.T) {
	for _, s := range room.RightSupers()[1:] {
		if got := Put(nil, s); len(got) != 0 {
			t.Errorf("Put of %v without a table: %v", s, got)
		}
		if got, ok := Get(nil, room.SuperSector(s)); ok || got != (api.Super{}) {
			t.Errorf("Get of the sector of %v without a table: %v", s, got)
		}
	}
	if got, ok := Get(nil, make([]byte, 64)); !ok || got != (api.Super{}) || !sector.Clear(Put(nil, api.Super{})) {
		t.Errorf("Get of a clear sector without a table: %v, %t", got, ok)
	}
}
