package disk

import (
	"bytes"
	"math"
	"slices"
	"testing"

	"sherd/api"
	"sherd/room"
)

// sizes are numbers of sectors that a disk may have.
var sizes = []int{1, 2, 3, 35, 256, 511, 512}

// noSector tells numbers that are no sector's: some of them would be one's, if its place in bytes left the type's range.
func noSector(size int) []int {
	all := append(room.Ends(), size, size+1, 2*size, 64*size, 512, 513, -size, -64, math.MaxInt/64+1, math.MaxInt/32+1, math.MaxInt/32+2, -(math.MaxInt/32 + 1))
	return slices.DeleteFunc(all, func(i int) bool { return 0 <= i && i < size })
}

// filled tells a disk whose sectors are unlike, and their bytes.
func filled(t *testing.T, size int) (*Disk, [][]byte) {
	d, all := New(size), room.Lists(size, 64, size)
	for i, b := range all {
		if !d.Write(i, b) {
			t.Fatalf("Write of sector %d of %d: false", i, size)
		}
	}
	return d, all
}

// has tells whether a disk has just some sectors.
func has(d *Disk, sectors [][]byte) bool {
	for i, want := range sectors {
		if !bytes.Equal(d.Read(i), want) {
			return false
		}
	}
	return d.Size() == len(sectors) && bytes.Equal(d.Image(), slices.Concat(sectors...))
}

// lasts tells of how many sectors the power of a disk lasts, at most most; what it writes is what is there already.
func lasts(d *Disk, most int) int {
	for n := range most {
		if !d.Write(0, d.Read(0)) {
			return n
		}
	}
	return most
}

// P16.1

func TestNewHasFrom1To512Sectors(t *testing.T) {
	for n := -300; n < 1300; n++ {
		if got, want := New(n).Size(), min(max(n, 1), 512); got != want {
			t.Errorf("New of %d sectors: %d, want %d", n, got, want)
		}
	}
	for _, n := range room.Ends() {
		want := 512
		if n < 1 {
			want = 1
		}
		if got := New(n).Size(); got != want {
			t.Errorf("New of %d sectors: %d, want %d", n, got, want)
		}
	}
}

func TestNewIsClear(t *testing.T) {
	for _, size := range sizes {
		d := New(size)
		if got := d.Image(); !bytes.Equal(got, make([]byte, 64*size)) {
			t.Errorf("Image of a new disk of %d sectors: %d bytes, %v", size, len(got), got)
		}
		for i := range size {
			if got := d.Read(i); !bytes.Equal(got, make([]byte, 64)) {
				t.Errorf("Read of sector %d of a new disk: %v", i, got)
			}
		}
	}
}

func TestNewHasPowerForEver(t *testing.T) {
	d := New(2)
	if d.Dead() {
		t.Error("a new disk is dead")
	}
	if got := lasts(d, 1<<20); got != 1<<20 || d.Dead() {
		t.Errorf("the power of a new disk lasts for %d sectors", got)
	}
}

func TestReadAndImageOfWhatWasWritten(t *testing.T) {
	for _, size := range sizes {
		if d, all := filled(t, size); !has(d, all) {
			t.Errorf("Read or Image of a disk of %d sectors, all written, tell others", size)
		}
	}
}

func TestReadOfNoSector(t *testing.T) {
	for _, size := range sizes {
		d, _ := filled(t, size)
		for _, i := range noSector(size) {
			if got := d.Read(i); len(got) != 0 {
				t.Errorf("Read of sector %d of %d: %v", i, size, got)
			}
		}
	}
}

func TestReadAndImageAreCopies(t *testing.T) {
	d, all := filled(t, 3)
	read, again, image, other := d.Read(1), d.Read(1), d.Image(), d.Image()
	if k := room.Shared(read, again, image, other, d.Read(1), d.Image()); k >= 0 {
		t.Errorf("list %d shares memory with one ahead of it", k)
	}
	if !has(d, all) {
		t.Error("the disk has changed with what it handed out")
	}
	read, image = d.Read(1), d.Image()
	d.Write(1, nil)
	d.Rot(1, 3, 9)
	d.Wipe()
	if !bytes.Equal(read, all[1]) || !bytes.Equal(image, slices.Concat(all...)) {
		t.Error("what was handed out has changed with the disk")
	}
}

// P16.2

func TestWriteOfEachSectorLeavesTheOthers(t *testing.T) {
	for _, size := range sizes {
		d, all := filled(t, size)
		for i := range size {
			if size > 35 && i%37 != 0 && i != size-1 {
				continue
			}
			for _, b := range [][]byte{room.Some(64, -i), bytes.Repeat([]byte{255}, 64), make([]byte, 64), room.Some(64, -i-1)} {
				all[i] = b
				if !d.Write(i, b) || !has(d, all) {
					t.Fatalf("Write of sector %d of %d: false, or the disk has other sectors", i, size)
				}
			}
		}
	}
}

func TestWriteWithoutBytes(t *testing.T) {
	d, all := filled(t, 5)
	full := bytes.Repeat([]byte{255}, 64)
	for i, none := range [][]byte{nil, {}, full[:0], full[64:], full[:0:0]} {
		all[i] = make([]byte, 64)
		if !d.Write(i, none) || !has(d, all) {
			t.Errorf("Write %d without bytes: false, or the disk has other sectors", i)
		}
	}
}

func TestWriteOfOtherLengths(t *testing.T) {
	d, all := filled(t, 3)
	for _, power := range []int{-1, 7} {
		d.Power(power)
		for n := 1; n < 300; n++ {
			for i := -1; n != 64 && i < 4; i++ {
				if d.Write(i, room.Some(n, n)) {
					t.Errorf("Write of %d bytes: true", n)
				}
			}
		}
		for _, n := range []int{1 << 16, 1<<16 + 64, 1 << 20} {
			if d.Write(0, make([]byte, n)) {
				t.Errorf("Write of %d bytes: true", n)
			}
		}
		if !has(d, all) || d.Dead() {
			t.Error("Write of other lengths changed something")
		}
	}
}

func TestWriteOfNoSector(t *testing.T) {
	for _, size := range sizes {
		d, all := filled(t, size)
		for _, i := range noSector(size) {
			for _, b := range [][]byte{nil, {}, make([]byte, 64), room.Some(64, 1), {1}, make([]byte, 65)} {
				if d.Write(i, b) {
					t.Errorf("Write of %d bytes to sector %d of %d: true", len(b), i, size)
				}
			}
		}
		if !has(d, all) || d.Dead() {
			t.Errorf("Write of no sector of %d changed something", size)
		}
	}
}

func TestPowerLastsForSoManySectors(t *testing.T) {
	for n := range 70 {
		d, all := filled(t, 3)
		d.Power(n)
		for k := range n {
			all[k%3] = room.Some(64, 1000+k)
			if d.Dead() || !d.Write(k%3, all[k%3]) || !has(d, all) {
				t.Fatalf("with power for %d sectors: the write %d", n, k)
			}
		}
		if d.Dead() {
			t.Errorf("with power for %d sectors, that are written: dead ahead of one more", n)
		}
		for _, b := range [][]byte{room.Some(64, 2000), nil, make([]byte, 64), room.Some(64, 2000)} {
			for i := range 3 {
				if d.Write(i, b) || !d.Dead() || !has(d, all) {
					t.Errorf("with power for %d sectors: one more is written, or it is not dead", n)
				}
			}
		}
	}
}

func TestPowerOfAClearSectorIsUsedToo(t *testing.T) {
	d, all := filled(t, 2)
	d.Power(2)
	if !d.Write(0, nil) || !d.Write(0, nil) || d.Dead() || d.Write(1, nil) || !d.Dead() {
		t.Error("of power for two sectors, made clear, another number is left")
	}
	if all[0] = make([]byte, 64); !has(d, all) {
		t.Error("the disk has other sectors")
	}
}

func TestPowerForEver(t *testing.T) {
	for _, n := range []int{-1, -2, -64, -513, math.MinInt32, math.MinInt, math.MinInt + 1} {
		d := New(1)
		d.Power(n)
		if got := lasts(d, 5000); got != 5000 || d.Dead() {
			t.Errorf("Power of %d: for %d sectors", n, got)
		}
	}
}

func TestPowerForVeryManySectors(t *testing.T) {
	for _, n := range []int{5000, math.MaxUint16 + 1, math.MaxInt32, math.MaxInt32 + 1, math.MaxUint32 + 1, math.MaxInt - 1, math.MaxInt} {
		d := New(1)
		d.Power(n)
		if got := lasts(d, 5000); got != 5000 || d.Dead() {
			t.Errorf("Power of %d: for %d sectors", n, got)
		}
	}
}

func TestPowerOfExactlyManySectors(t *testing.T) {
	for _, n := range []int{255, 256, 257, 512, 1<<16 - 1, 1 << 16, 1<<16 + 1} {
		d := New(1)
		d.Power(n)
		if got := lasts(d, 1<<17); got != n || !d.Dead() {
			t.Errorf("Power of %d: for %d sectors", n, got)
		}
	}
}

func TestPowerIsGivenAgain(t *testing.T) {
	for _, before := range []int{-1, 0, 1, 9} {
		for _, fails := range []bool{false, true} {
			for _, again := range []int{-7, -1, 0, 1, 2, 5} {
				d, all := filled(t, 2)
				d.Power(before)
				if fails && before >= 0 && (lasts(d, 40) != before || !d.Dead()) {
					t.Fatalf("Power of %d does not fail", before)
				}
				d.Power(again)
				if d.Dead() || !has(d, all) {
					t.Errorf("Power of %d behind one of %d: it is dead, or other sectors are there", again, before)
				}
				want := again
				if again < 0 {
					want = 40
				}
				if got := lasts(d, 40); got != want || d.Dead() != (again >= 0) || !has(d, all) {
					t.Errorf("Power of %d behind one of %d: for %d sectors", again, before, got)
				}
			}
		}
	}
}

func TestPowerOf0FailsWhenASectorIsWritten(t *testing.T) {
	d, all := filled(t, 2)
	d.Power(0)
	if d.Dead() {
		t.Error("Power of 0: dead ahead of a write")
	}
	if d.Write(1, nil) || !d.Dead() || !has(d, all) {
		t.Error("Power of 0: a sector is written, or the disk is not dead")
	}
}

func TestWhatCannotBeWrittenUsesNoPower(t *testing.T) {
	for _, power := range []int{0, 1, 3} {
		d, all := filled(t, 3)
		d.Power(power)
		for _, i := range noSector(3) {
			d.Write(i, nil)
			d.Write(i, make([]byte, 64))
		}
		for _, n := range []int{1, 63, 65, 128} {
			d.Write(0, make([]byte, n))
		}
		if d.Dead() || !has(d, all) {
			t.Errorf("with power for %d sectors: what can't be written lets it fail", power)
		}
		if got := lasts(d, 10); got != power || !d.Dead() {
			t.Errorf("with power for %d sectors, and what can't be written: for %d", power, got)
		}
		d.Write(-1, nil)
		d.Write(3, nil)
		d.Write(0, make([]byte, 63))
		if !d.Dead() || !has(d, all) {
			t.Error("what can't be written gives power again")
		}
	}
}

func TestOtherCallsUseNoPower(t *testing.T) {
	for power := range 3 {
		d, all := filled(t, 3)
		d.Power(power)
		for range 10 {
			d.Size()
			d.Read(0)
			d.Image()
			d.Dead()
			d.Rot(1, 5, 0)
			d.Rot(2, 6, 1)
			d.Rot(2, 6, 1)
			d.Copy().Write(0, nil)
			d.Copy().Power(7)
		}
		if got := lasts(d, 10); got != power || !has(d, all) {
			t.Errorf("with power for %d sectors, and calls that write none: for %d", power, got)
		}
		d.Power(power)
		d.Wipe()
		if got := lasts(d, 10); got != power {
			t.Errorf("with power for %d sectors, and a Wipe: for %d", power, got)
		}
	}
}

// P16.3

func TestRotOfEachBit(t *testing.T) {
	for _, i := range []int{0, 1, 2} {
		d, all := filled(t, 3)
		for bit := range 512 {
			all[i] = room.Turned(all[i], bit, 1)
			if !d.Rot(i, bit, 1) || !has(d, all) {
				t.Fatalf("Rot of bit %d of sector %d: false, or other bits have turned", bit, i)
			}
		}
	}
}

func TestRotOfMasks(t *testing.T) {
	d, all := filled(t, 2)
	for bit := range 600 { // some of the bits, or all of them, behind the last one
		for wide := 1; wide <= 32; wide++ {
			for _, mask := range room.Masks(wide, bit) {
				if wide > 4 && mask%7 != 0 && mask != 1<<wide-1 {
					continue
				}
				all[0] = room.Turned(all[0], bit, mask)
				if !d.Rot(0, bit, uint32(mask)) || !bytes.Equal(d.Read(0), all[0]) {
					t.Fatalf("Rot of the bits %b from %d on: false, or other bits have turned", mask, bit)
				}
			}
		}
		if !has(d, all) {
			t.Fatalf("Rot of bits from %d on: of another sector too", bit)
		}
	}
}

func TestRotOfKnownBits(t *testing.T) {
	for _, test := range []struct {
		bit  int
		mask uint32
		want map[int]byte // by its place in the sector
	}{
		{0, 1, map[int]byte{0: 1}}, {0, 0x80000001, map[int]byte{0: 1, 3: 128}}, {7, 3, map[int]byte{0: 128, 1: 1}}, {8, 1 << 9, map[int]byte{2: 2}},
		{4, math.MaxUint32, map[int]byte{0: 240, 1: 255, 2: 255, 3: 255, 4: 15}}, {480, math.MaxUint32, map[int]byte{60: 255, 61: 255, 62: 255, 63: 255}},
		{481, math.MaxUint32, map[int]byte{60: 254, 61: 255, 62: 255, 63: 255}}, {511, math.MaxUint32, map[int]byte{63: 128}}, {511, 1, map[int]byte{63: 128}}, {511, 2, nil},
		{500, 1<<11 | 1<<12 | 1, map[int]byte{62: 16, 63: 128}}, {512, math.MaxUint32, nil}, {513, 1, nil}, {0, 0, nil}, {511, 0, nil}, {512, 0, nil},
	} {
		d, turned := New(2), make([]byte, 64)
		for place, b := range test.want {
			turned[place] = b
		}
		if !d.Rot(0, test.bit, test.mask) || !has(d, [][]byte{turned, make([]byte, 64)}) {
			t.Errorf("Rot of the bits %b from %d on: false, or %v", test.mask, test.bit, d.Image())
		}
	}
}

func TestRotOfBitsFarBehind(t *testing.T) {
	d, all := filled(t, 2)
	for _, bit := range append(room.Ends(), 512, 513, 543, 1024, 4096) {
		if bit < 512 && bit >= 0 {
			continue
		}
		for _, mask := range []uint32{0, 1, 1 << 31, math.MaxUint32} {
			if d.Rot(1, bit, mask) != (bit >= 0) || !has(d, all) {
				t.Errorf("Rot of the bits %b from %d on: %t, or bits have turned", mask, bit, bit < 0)
			}
		}
	}
	for bit := -40; bit < 0; bit++ {
		if d.Rot(1, bit, math.MaxUint32) || d.Rot(1, bit, 0) || !has(d, all) {
			t.Errorf("Rot of bits from %d on: true, or bits have turned", bit)
		}
	}
}

func TestRotOfNoSector(t *testing.T) {
	for _, size := range sizes {
		d, all := filled(t, size)
		for _, i := range noSector(size) {
			for _, bit := range []int{-1, 0, 511, 512, math.MaxInt, math.MinInt} {
				if d.Rot(i, bit, 1) || d.Rot(i, bit, 0) {
					t.Errorf("Rot of sector %d of %d from bit %d on: true", i, size, bit)
				}
			}
		}
		if !has(d, all) {
			t.Errorf("Rot of no sector of %d changed something", size)
		}
	}
}

func TestRotTwiceIsNone(t *testing.T) {
	d, all := filled(t, 3)
	for bit := range 512 {
		for _, mask := range room.Masks(32, bit) {
			if !d.Rot(1, bit, uint32(mask)) || has(d, all) || !d.Rot(1, bit, uint32(mask)) || !has(d, all) {
				t.Fatalf("Rot of the bits %b from %d on, twice", mask, bit)
			}
		}
	}
}

func TestWipe(t *testing.T) {
	for _, size := range sizes {
		d, all := filled(t, size)
		d.Wipe()
		if !has(d, clearOnes(size)) {
			t.Errorf("Wipe of %d sectors: %v", size, d.Image())
		}
		if !d.Write(size-1, all[size-1]) || !bytes.Equal(d.Read(size-1), all[size-1]) {
			t.Errorf("behind a Wipe of %d sectors none is written", size)
		}
	}
}

// clearOnes tells so many sectors of bytes 0.
func clearOnes(size int) [][]byte {
	all := make([][]byte, size)
	for i := range all {
		all[i] = make([]byte, 64)
	}
	return all
}

func TestRotAndWipeNeedNoPowerAndGiveNone(t *testing.T) {
	d, all := filled(t, 2)
	d.Power(0)
	d.Write(0, nil)
	all[1] = room.Turned(all[1], 9, 5)
	if !d.Rot(1, 9, 5) || !has(d, all) || !d.Dead() || d.Write(0, nil) {
		t.Error("Rot, when the power has failed")
	}
	if d.Wipe(); !has(d, clearOnes(2)) || !d.Dead() || d.Write(0, all[0]) || !has(d, clearOnes(2)) {
		t.Error("Wipe, when the power has failed")
	}
}

func TestCopyHasTheSamePower(t *testing.T) {
	for power := -2; power < 6; power++ {
		for used := range 8 {
			d, all := filled(t, 2)
			d.Power(power)
			for range used {
				d.Write(0, all[0])
			}
			dead, left := used > power, max(power-used, 0)
			if power < 0 {
				dead, left = false, 40
			}
			c := d.Copy()
			if c.Dead() != dead || d.Dead() != dead || !has(c, all) || !has(d, all) {
				t.Errorf("Copy of a disk with power for %d sectors, behind %d: dead %t, or other sectors", power, used, c.Dead())
			}
			if got := lasts(c, 40); got != left || d.Dead() != dead {
				t.Errorf("Copy of a disk with power for %d sectors, behind %d: power for %d", power, used, got)
			}
			if got := lasts(d, 40); got != left {
				t.Errorf("of a disk with power for %d sectors, behind %d and a copy's: power for %d", power, used, got)
			}
		}
	}
}

func TestCopyIsOneOfItsOwn(t *testing.T) {
	for _, size := range sizes {
		for name, do := range map[string]func(d *Disk){
			"Write": func(d *Disk) { d.Write(size-1, room.Some(64, -1)) }, "Rot": func(d *Disk) { d.Rot(0, 3, 1) }, "Wipe": func(d *Disk) { d.Wipe() },
			"power that fails": func(d *Disk) { d.Power(0); d.Write(0, nil) },
		} {
			d, all := filled(t, size)
			c := d.Copy()
			if c == d {
				t.Fatal("Copy is the disk itself")
			}
			if do(c); !has(d, all) || d.Dead() || lasts(d, 9) != 9 {
				t.Errorf("%s of a copy changed the disk of %d sectors", name, size)
			}
			c = d.Copy()
			if do(d); !has(c, all) || c.Dead() || lasts(c, 9) != 9 {
				t.Errorf("%s of a disk of %d sectors changed the copy", name, size)
			}
		}
	}
	d, all := filled(t, 3)
	if k := room.Shared(d.Copy().Image(), d.Copy().Image(), d.Image(), d.Copy().Read(1), d.Read(1)); k >= 0 || !has(d, all) {
		t.Errorf("list %d shares memory with one ahead of it, or the disk with one", k)
	}
}

func TestNilDisk(t *testing.T) {
	var d *Disk
	for range 2 {
		if d.Size() != 0 || len(d.Image()) != 0 || !d.Dead() || d.Copy() != nil {
			t.Error("a nil disk has something, or is not dead")
		}
		for _, i := range append(room.Ends(), 0, 1, 511) {
			if len(d.Read(i)) != 0 || d.Write(i, nil) || d.Write(i, make([]byte, 64)) || d.Write(i, []byte{1}) || d.Rot(i, 0, 1) || d.Rot(i, -1, 1) || d.Rot(i, math.MaxInt, 0) {
				t.Errorf("sector %d of a nil disk is read, written, or rots", i)
			}
		}
		for _, n := range append(room.Ends(), 1) {
			if d.Power(n); !d.Dead() {
				t.Errorf("a nil disk has power, of %d", n)
			}
		}
		d.Wipe()
	}
}

// All of it, by its words.

// words are a disk's sectors, and its power, by the document's words.
type words struct {
	sectors [][]byte
	ever    bool
	left    int
	failed  bool
}

// write tells what Write should, and does it.
func (w *words) write(i int, b []byte) bool {
	if i < 0 || i >= len(w.sectors) || len(b) != 0 && len(b) != 64 || w.failed {
		return false
	}
	if !w.ever && w.left == 0 {
		w.failed = true
		return false
	}
	w.left--
	w.sectors[i] = make([]byte, 64)
	copy(w.sectors[i], b)
	return true
}

// power does what Power should.
func (w *words) power(n int) {
	w.ever, w.left, w.failed = n < 0, n, false
}

// rot tells what Rot should, and does it.
func (w *words) rot(i, bit int, mask uint32) bool {
	if i < 0 || i >= len(w.sectors) || bit < 0 {
		return false
	}
	w.sectors[i] = room.Turned(w.sectors[i], bit, uint64(mask))
	return true
}

// step does one thing to a disk, and to its words; which one hangs on the bytes; it tells whether their answers are alike.
func step(d *Disk, w *words, b []byte, seed int) bool {
	i := int(b[1]%8) - 1
	switch b[0] % 8 {
	case 0, 1, 2, 3:
		list := room.Some([]int{64, 64, 64, 0, 63, 64, 65, 0}[b[2]%8], seed)
		return d.Write(i, list) == w.write(i, list)
	case 4:
		n := int(b[2]%12) - 2
		d.Power(n)
		w.power(n)
	case 5:
		bit, mask := int(b[2])*3-40, uint32(b[3])<<24|uint32(b[2])<<13|uint32(b[1])
		return d.Rot(i, bit, mask) == w.rot(i, bit, mask)
	case 6:
		if b[2] < 64 {
			d.Wipe()
			w.sectors = clearOnes(len(w.sectors))
		}
	case 7:
		*d = *d.Copy()
	}
	return true
}

func TestManySteps(t *testing.T) {
	for size := 1; size < 8; size++ {
		for seed := range 40 {
			d, w := New(size), &words{sectors: clearOnes(size), ever: true}
			for k := range 200 {
				kept, before, dead := d.Copy(), slices.Clone(w.sectors), w.failed
				b := room.Some(4, 1000*seed+k)
				if !step(d, w, b, k) || d.Dead() != w.failed || !has(d, w.sectors) {
					t.Fatalf("size %d, seed %d, step %d, %v: another answer, or state", size, seed, k, b)
				}
				if kept.Dead() != dead || !has(kept, before) {
					t.Fatalf("size %d, seed %d, step %d, %v: what was copied ahead has changed", size, seed, k, b)
				}
			}
		}
	}
}

// The rules that hold everywhere, of each call.

func TestWhatIsHandedInIsNotChangedAndNotKept(t *testing.T) {
	for _, power := range []int{-1, 0} {
		for _, n := range []int{0, 1, 60, 63, 64, 65, 128} {
			d, all := filled(t, 2)
			d.Power(power)
			list, unchanged := room.Of(room.Some(n, 7)...)
			for _, i := range []int{-1, 0, 1, 2} {
				d.Write(i, list)
			}
			if n == 64 && power < 0 {
				all[0], all[1] = room.Some(64, 7), room.Some(64, 7)
			} else if n == 0 && power < 0 {
				all = clearOnes(2)
			}
			d.Rot(0, 0, 255)
			if !unchanged() {
				t.Errorf("%d bytes, or their spare room, were changed", n)
			}
			d.Rot(0, 0, 255)
			room.Shared(list) // which writes over it
			if !has(d, all) {
				t.Errorf("%d bytes that were handed in are kept", n)
			}
		}
	}
}

func TestTwoDisksAreApart(t *testing.T) {
	d, all := filled(t, 3)
	other := New(3)
	if !has(other, clearOnes(3)) {
		t.Error("a new disk has another one's sectors")
	}
	other.Write(0, room.Some(64, 1))
	other.Power(0)
	other.Write(0, nil)
	if d.Dead() || !has(d, all) || !other.Dead() || lasts(d, 9) != 9 {
		t.Error("a disk hangs on another one")
	}
}

func TestNoCallPanicsOfADiskThatNewDidNotMake(t *testing.T) {
	d := &Disk{}
	for _, i := range append(room.Ends(), 1) {
		d.Read(i)
		d.Write(i, nil)
		d.Write(i, make([]byte, 64))
		d.Rot(i, 0, 1)
		d.Power(i)
	}
	d.Size()
	d.Dead()
	d.Wipe()
	d.Image()
	d.Copy().Copy()
}

func TestASectorHas64Bytes(t *testing.T) {
	if api.Sector != 64 || len(New(1).Read(0)) != api.Sector || New(1).Write(0, make([]byte, api.Payload)) {
		t.Error("a sector has other than 64 bytes")
	}
}
