package volume

import (
	"bytes"
	"fmt"
	"math"
	"slices"
	"testing"

	"sherd/api"
	"sherd/crc"
	"sherd/disk"
	"sherd/index"
	"sherd/room"
	"sherd/super"
)

// rec tells a record that has so many sectors; its kind, of those that may have a share, and all else but its name, hang on seed.
func rec(name string, sectors, seed int) api.Record {
	length := []int{0, 1, 49, 144, 145, 240}[sectors-1]
	r := room.Record([]int{api.Live, api.Staged, api.Delta}[seed%3], length, seed)
	r.Name = name
	return r
}

// live tells a live record that has so many sectors.
func live(name string, sectors, seed int) api.Record {
	return rec(name, sectors, 3*seed)
}

// gone tells a record of a name that is gone.
func gone(name string, mark int) api.Record {
	return api.Record{Kind: api.Gone, Name: name, Mark: mark}
}

// states tells what volumes of so many slots may have: all ways in which records of 1 to 3 sectors lie there, of names that rise, and fall, with their slots, and of one name.
func states(slots int) []state {
	all := [][]lies{nil}
	ends := []int{0}
	for k := 0; k < len(all); k++ {
		for at := ends[k]; at < slots; at++ {
			for n := 1; n <= min(3, slots-at); n++ {
				all = append(all, append(slices.Clone(all[k]), lies{at, rec("x", n, at)}))
				ends = append(ends, at+n)
			}
		}
	}
	var told []state
	for k, l := range all {
		for i := range l {
			switch {
			case k%3 == 0:
				l[i].r.Name = string(rune('a' + i))
			case k%3 == 1 || len(l) > 3:
				l[i].r.Name = string(rune('k' - i))
			default: // three records of one name
				one := rec("x", count(l[i].r), (k+i)%3+3)
				l[i].r = one
			}
		}
		told = append(told, state{room.Sound(258, 3), slots, l})
	}
	return told
}

// P24.1

// opensNot tells whether Open tells an error, and no volume, and writes nothing.
func opensNot(d *disk.Disk, slots int, want api.Errno) bool {
	image := d.Image()
	d.Power(0)
	v, e := Open(table, d, slots)
	return v == nil && e == want && bytes.Equal(d.Image(), image) && (d == nil || !d.Dead())
}

// begunDisk tells a disk of so many sectors whose journal is not clean, and has to stay so, when there is an error.
func begunDisk(sectors int) *disk.Disk {
	d := disk.New(sectors)
	for k, b := range room.ChangesSectors([]api.Change{room.FullChange(0), {At: 34}}) {
		d.Write(1+k, b)
	}
	return d
}

func TestOpenOfNumbersOfSlots(t *testing.T) {
	numbers := append(room.Ends(), 512-firstSlot, 512, 1<<16+1, math.MinInt+firstSlot+1, math.MaxInt-firstSlot)
	for n := -600; n < 600; n++ {
		numbers = append(numbers, n)
	}
	begun := begunDisk(512)
	for _, n := range numbers {
		d := disk.New(512)
		if right := 1 <= n && n <= 256; !right {
			if !opensNot(d, n, api.ErrRange) || !opensNot(begun, n, api.ErrRange) {
				t.Errorf("Open of %d slots: no ErrRange, or something is written", n)
			}
			continue
		}
		d.Power(0)
		v, e := Open(table, d, n)
		if e != api.OK || d.Dead() || !has(v, d, state{slots: n}) {
			t.Errorf("Open of %d slots, all clear: %d, or something is written, or there", n, e)
		}
	}
}

func TestOpenOfADiskThatHasNotTheSlots(t *testing.T) {
	for size := 1; size <= 512; size++ {
		d := disk.New(size)
		for _, slots := range []int{1, 2, size - firstSlot - 1, size - firstSlot, size - firstSlot + 1, 255, 256} {
			if slots < 1 || slots > 256 || size < firstSlot+slots {
				if !opensNot(d, slots, api.ErrRange) || !opensNot(begunDisk(size), slots, api.ErrRange) {
					t.Errorf("Open of %d slots of %d sectors: no ErrRange, or something is written", slots, size)
				}
			} else if v, e := Open(table, d, slots); e != api.OK || !has(v, d, state{slots: slots}) {
				t.Errorf("Open of %d slots of %d sectors, all clear: %d, or something is there", slots, size, e)
			}
		}
	}
	for _, slots := range []int{math.MinInt, 0, 1, 256, math.MaxInt} {
		if v, e := Open(table, nil, slots); v != nil || e != api.ErrRange {
			t.Errorf("Open of %d slots of no disk: %d", slots, e)
		}
	}
}

// checkOpen checks Open of a disk whose journal is clean, with power for each number of sectors.
func checkOpen(t *testing.T, image []byte, slots int) {
	t.Helper()
	want, l := opened(image, slots)
	writes := room.JournalWrites(l)
	for power := -1; power <= len(writes); power++ {
		d := diskOf(image)
		d.Power(power)
		v, e := Open(table, d, slots)
		if 0 <= power && power < len(writes) {
			if v != nil || e != api.ErrPower || !d.Dead() || !bytes.Equal(d.Image(), room.Written(image, writes[:power])) {
				t.Fatalf("Open of %d slots, with power for %d sectors of %d: %d, or others are written", slots, power, len(writes), e)
			}
			d.Power(-1)
			v, e = Open(table, d, slots)
		}
		if e != api.OK || d.Dead() || !bytes.Equal(d.Image(), room.Written(image, l)) || !isKnown(v, want) {
			t.Fatalf("Open of %d slots of %v, with power for %d sectors: %d, or there is another thing than %v", slots, image[64*firstSlot:], power, e, want)
		}
		for _, one := range want.all {
			if !gets(v, one, d.Image(), api.OK) {
				t.Fatalf("Open of %d slots of %v: Get of %v tells another thing", slots, image[64*firstSlot:], one)
			}
		}
	}
}

func TestOpenOfRecordsWhereverTheyLie(t *testing.T) {
	for slots := 1; slots <= 6; slots++ {
		for _, s := range states(slots) {
			v, d := volumeOf(t, s)
			d.Power(0)
			if w, e := Open(table, d, slots); e != api.OK || d.Dead() || !has(w, d, s) || !has(v, d, s) {
				t.Errorf("Open of %v: %d, or something is written, or another thing there", s, e)
			}
		}
	}
}

func TestOpenOfEachRecord(t *testing.T) {
	for k, r := range room.RightRecords() {
		for _, at := range []int{0, 1 + k%4} {
			slots := at + count(r) + k%2
			s := state{room.Suspect(k, k/2), slots, []lies{{at, r}}}
			volumeOf(t, s)
		}
	}
}

// pieces tells sectors that may stand in slots one by one: a clear one, a record of one sector, another one of the same key, and one of the same name, one of two sectors, and its body, such as are no record's, and those of a record, sealed, that may not be.
func pieces() [][]byte {
	two := room.RecordSectors(live("b", 2, 1))
	staged := rec("b", 1, 1)
	wrong := room.Sealed(room.RecordPayloads(api.Record{Kind: api.Gone, Name: "a", Mark: 0})[0])
	return [][]byte{nil, room.RecordSectors(gone("a", 5))[0], room.RecordSectors(live("a", 1, 2))[0], room.RecordSectors(staged)[0], two[0], two[1], room.Turned(two[1], 300, 1), room.Some(64, 7), wrong}
}

// inSlots tells a disk's bytes with sectors in its slots, and in the ones behind them.
func inSlots(self []byte, sectors ...[]byte) []byte {
	image := make([]byte, 64*(firstSlot+len(sectors)))
	copy(image, self)
	for k, b := range sectors {
		copy(image[64*(firstSlot+k):], b)
	}
	return image
}

func TestOpenOfAllSectorsInFourSlots(t *testing.T) {
	all := pieces()
	selves := [][]byte{room.SuperSector(room.Sound(258, 3)), room.SuperSector(room.Suspect(7, 7)), room.SuperSector(room.Suspect(7, 6)), nil, room.Some(64, 9)}
	for _, a := range all {
		for _, b := range all {
			for _, c := range all {
				checkOpen(t, inSlots(selves[0], a, b, c), 3)
				for k, d := range all {
					if k%2 == len(a)/64 {
						checkOpen(t, inSlots(selves[len(a)%5], a, b, c, d), 4)
					}
				}
			}
		}
		for k, b := range all {
			for _, self := range selves {
				checkOpen(t, inSlots(self, a, b), 1)
				checkOpen(t, inSlots(self, a, b), 2)
				checkOpen(t, inSlots(self, a, b, all[k/2], all[5]), 2) // what is behind the slots is no part of a record that lies there, and stays
			}
		}
	}
}

func TestOpenGoesOnBehindARecord(t *testing.T) {
	inner := room.RecordSectors(gone("c", 9))[0]
	r := live("a", 3, 1)
	sectors := room.RecordSectors(r)
	image := inSlots(room.SuperSector(room.Sound(5, 5)), append(slices.Clone(sectors), inner, nil)...)
	checkOpen(t, image, 5)
	if s, l := opened(image, 5); len(s.all) != 2 || len(l) != 0 {
		t.Errorf("%v is there", s)
	}
	checkOpen(t, inSlots(nil, sectors[0], sectors[1], inner, sectors[2]), 4)           // a record in the midst of what was one
	checkOpen(t, inSlots(nil, sectors[0], sectors[0], sectors[1], sectors[2]), 4)      // a head of its own ahead
	checkOpen(t, inSlots(nil, append(slices.Clone(sectors), sectors...)...), 6)        // the same record twice
	checkOpen(t, inSlots(nil, sectors[0], sectors[1], sectors[2], sectors[1]), 4)      // a body more
	checkOpen(t, inSlots(nil, sectors[1], sectors[2], sectors[0], sectors[1], nil), 5) // no record at all
	checkOpen(t, inSlots(nil, room.RecordSectors(live("a", 2, 2))[0], room.RecordSectors(live("a", 2, 3))[1]), 2)
}

func TestOpenTakesTheFirstOfAKey(t *testing.T) {
	for _, first := range []int{1, 2, 3} {
		for _, second := range []int{1, 2, 3} {
			a, b := live("a", first, 1), live("a", second, 2)
			image := inSlots(room.SuperSector(room.Sound(9, 4)), slices.Concat(room.RecordSectors(a), room.RecordSectors(b))...)
			v, e := Open(table, diskOf(image), first+second)
			if e != api.OK || v.Free() != second || v.Super() != room.Suspect(9, 9) {
				t.Errorf("Open of two records of a key: %d, with %d slots free, and %v", e, v.Free(), v.Super())
			}
			if got, e := v.Get(index.Key{Name: "a"}); e != api.OK || !room.SameRecord(got, a) {
				t.Errorf("Open of two records of a key: Get tells %v, %d", got, e)
			}
			checkOpen(t, image, first+second)
		}
	}
}

func TestOpenOfEachFirstSector(t *testing.T) {
	r := live("a", 2, 1)
	whole, hurt := room.RecordSectors(r), room.RecordSectors(r)
	hurt[1][5] ^= 1
	for _, s := range room.RightSupers() {
		b := room.SuperSector(s)
		checkOpen(t, inSlots(b, whole[0], whole[1], nil), 3)
		checkOpen(t, inSlots(b, hurt[0], hurt[1], nil), 3)
		v, e := Open(table, diskOf(inSlots(b, nil, hurt[1])), 2)
		if e != api.OK || v.Super() != room.Suspect(s.Fence, s.Fence) {
			t.Errorf("Open of what knows %v of itself, with a damaged slot: %d, %v", s, e, v.Super())
		}
		if v, e = Open(table, diskOf(inSlots(b, whole...)), 2); e != api.OK || v.Super() != s {
			t.Errorf("Open of what knows %v of itself: %d, %v", s, e, v.Super())
		}
	}
	says := room.SuperSector(room.Sound(258, 3))
	none := append(room.NoSectors(), room.Turned(says, 0, 1), room.Turned(says, 511, 1), room.Sealed([]byte{83, 1, 0, 0, 0, 1, 0, 0, 0, 2}), room.Sealed([]byte{83, 3, 0, 0, 0, 2, 0, 0, 0, 1}), room.Sealed(append(says[:10:10], 1)), room.RecordSectors(gone("a", 1))[0])
	for _, b := range none {
		b = inSlots(b[:min(len(b), 64)])[:64]
		if _, says := super.Get(table, b); says {
			continue
		}
		checkOpen(t, inSlots(b, whole[0], whole[1], nil), 3)
		checkOpen(t, inSlots(b, hurt[0], hurt[1], nil), 3)
		v, e := Open(table, diskOf(inSlots(b, whole...)), 2)
		if e != api.OK || v.Super() != room.Suspect(0, 0) || v.Free() != 0 {
			t.Errorf("Open of the first sector %v: %d, %v", b, e, v.Super())
		}
	}
}

func TestOpenEndsWhatWasBegun(t *testing.T) {
	a, b := live("a", 2, 1), live("b", 3, 2)
	s := state{room.Sound(5, 5), 6, []lies{{1, a}}}
	behind := s.without(key(a)).with(2, b).knowing(room.Sound(6, 5))
	l := changes(s, behind, lies{2, b})
	writes := room.JournalWrites(l)
	image := s.image(40)
	for power := range len(writes) + 1 {
		begun := room.Written(image, writes[:power])
		want := s
		if power >= len(room.ChangesSectors(l)) {
			want = behind
		}
		for again := -1; ; again++ { // the power fails while it is opened
			d := diskOf(begun)
			d.Power(again)
			v, e := Open(table, d, 6)
			if e == api.OK && !has(v, d, want) || e != api.OK && (e != api.ErrPower || v != nil || !d.Dead()) {
				t.Errorf("Open, when %d sectors were written, with power for %d: %d, or another thing is there", power, again, e)
			}
			if e != api.OK {
				d.Power(-1)
				if v, e := Open(table, d, 6); e != api.OK || !has(v, d, want) {
					t.Errorf("Open once more, when %d sectors were written: %d, or another thing is there", power, e)
				}
			} else if again >= 0 {
				break
			}
		}
	}
}

func TestOpenOfAJournalThatSaysNothing(t *testing.T) {
	s := state{room.Sound(5, 5), 6, []lies{{1, live("a", 2, 1)}}}
	image := s.image(40)
	for at := 1; at < firstSlot; at++ {
		copy(image[64*at:], room.Some(64, at))
	}
	d := diskOf(image)
	if v, e := Open(table, d, 6); e != api.OK || !has(v, d, s) {
		t.Errorf("Open: %d, or another thing is there", e)
	}
	d = diskOf(image)
	d.Power(32)
	if v, e := Open(table, d, 6); e != api.ErrPower || v != nil {
		t.Errorf("Open with power for 32 sectors: %d", e)
	}
}

func TestOpenOfManySlots(t *testing.T) {
	for seed := range 60 {
		slots := []int{256, 255, 200, 64, 9}[seed%5]
		var sectors [][]byte
		for k, b := range room.Some(slots, seed) {
			name := fmt.Sprint("n", int(b)%(40+seed))
			r := rec(name, 1+(int(b)+k)%6, k)
			part := room.RecordSectors(r)
			switch b % 8 {
			case 0, 1:
				part = [][]byte{nil, nil}
			case 2:
				part[len(part)-1] = room.Turned(part[len(part)-1], int(b)+k, 5)
			case 3:
				if seed%2 == 0 {
					part = room.Lists(2, 64, k)
				}
			}
			sectors = append(sectors, part...)
		}
		image := inSlots(room.SuperSector(room.Sound(258, seed)), sectors[:slots]...)
		want, l := opened(image, slots)
		d := diskOf(image)
		v, e := Open(table, d, slots)
		if e != api.OK || !bytes.Equal(d.Image(), room.Written(image, l)) || !has(v, d, want) {
			t.Errorf("Open of %d slots, seed %d: %d, or there is another thing", slots, seed, e)
		}
		if seed < 10 {
			checkOpen(t, image, slots)
		}
	}
}

func TestOpenWithoutATable(t *testing.T) {
	for _, slots := range []int{0, 1, 6, 257} {
		want := api.ErrArg
		if slots == 0 || slots == 257 {
			want = api.ErrRange
		}
		for _, d := range []*disk.Disk{disk.New(40), diskOf(inSlots(room.Some(64, 1), room.Lists(6, 64, 1)...))} {
			image := d.Image()
			if v, e := Open(nil, d, slots); v != nil || e != want || !bytes.Equal(d.Image(), image) {
				t.Errorf("Open of %d slots without a table: %d, or something is written", slots, e)
			}
		}
	}
}

// P24.2

func TestGetOfEachRecord(t *testing.T) {
	all := room.RightRecords()
	for k, r := range all {
		v, d := volumeOf(t, state{room.Sound(5, 5), 13, nil})
		other := live("other", 1+k%6, k)
		if e := v.Do(room.Sound(6, 5), []api.Record{other, r}, nil); e != api.OK {
			t.Fatalf("Do of %v: %d", r, e)
		}
		if !has(v, d, state{room.Sound(6, 5), 13, []lies{{0, other}, {count(other), r}}}) {
			t.Errorf("behind Do of %v there is another thing", r)
		}
	}
}

func TestGetOfKeysThatAreNotThere(t *testing.T) {
	s := state{room.Sound(5, 5), 9, []lies{{1, rec("b", 2, 0)}, {3, rec("b", 1, 2)}, {5, rec("a", 3, 1)}}}
	v, d := volumeOf(t, s)
	d.Power(0)
	for _, name := range append(room.WrongNames(), "a", "b", "c", "ab", "b-") {
		for _, role := range append(room.Ends(), 0, 1, 2, 3, 256, 257, 258) {
			k := index.Key{Name: name, Role: role}
			if s.find(k) >= 0 {
				continue
			}
			if r, e := v.Get(k); e != api.ErrNone || !room.SameRecord(r, api.Record{}) {
				t.Errorf("Get of %v: %v, %d", k, r, e)
			}
		}
	}
	if d.Dead() || !has(v, d, s) {
		t.Error("Get of keys that are not there has written something")
	}
}

// checkGet checks Get of a key when something was done to the disk of what there is, by which the record lies there no more.
func checkGet(t *testing.T, s state, k index.Key, what string, hurt func(d *disk.Disk)) {
	t.Helper()
	behind := s.without(k).doubted()
	doing{
		name: what,
		make: func() (*Volume, *disk.Disk, state) {
			v, d := volumeOf(t, s)
			hurt(d)
			return v, d, s
		},
		steps: []step{{changes(s, behind), behind}},
		want:  api.ErrSum,
		call: func(v *Volume) (api.Errno, bool) {
			r, e := v.Get(k)
			return e, room.SameRecord(r, api.Record{})
		},
		again: func(v *Volume, d *disk.Disk, ahead state) bool {
			n, e := v.Scrub()
			return n == 0 && e == api.ErrPower
		},
	}.check(t)
	v, d := volumeOf(t, s)
	hurt(d)
	v.Get(k)
	for _, one := range behind.all {
		if !gets(v, one, d.Image(), api.OK) {
			t.Errorf("%s of %v: then Get of %v tells another thing", what, s, one)
		}
	}
	if _, e := v.Get(k); e != api.ErrNone {
		t.Errorf("%s of %v: then Get tells %d", what, s, e)
	}
}

func TestGetOfDamagedOnes(t *testing.T) {
	for slots := 1; slots <= 4; slots++ {
		for _, s := range states(slots) {
			for i, one := range s.all {
				for k := range count(one.r) {
					at := firstSlot + one.at + k
					checkGet(t, s, key(one.r), fmt.Sprint("Get with a bit turned in sector ", k, " of number ", i), func(d *disk.Disk) { d.Rot(at, 37*(at+i)%512, 1) })
				}
				checkGet(t, s, key(one.r), fmt.Sprint("Get with the head clear of number ", i), func(d *disk.Disk) { d.Write(firstSlot+one.at, nil) })
			}
		}
	}
}

func TestGetOfDamagedOnesOfANodeThatIsDoubted(t *testing.T) {
	for _, self := range []api.Super{{}, room.Sound(0, 0), room.Sound(5, 0), room.Suspect(0, 0), room.Suspect(5, 4), room.Suspect(5, 5), room.Suspect(1<<32-1, 1<<32-1), room.Sound(1<<32-1, 1<<32-1)} {
		s := state{self, 6, []lies{{0, live("b", 2, 1)}, {3, live("a", 2, 2)}}}
		checkGet(t, s, index.Key{Name: "a"}, "Get with bits turned", func(d *disk.Disk) { d.Rot(firstSlot+4, 480, math.MaxUint32) })
	}
}

func TestGetWhenAnotherRecordLiesThere(t *testing.T) {
	own := live("b", 2, 1)
	s := state{room.Sound(5, 3), 8, []lies{{0, live("a", 1, 1)}, {2, own}, {5, live("c", 2, 1)}}}
	another := own
	another.Mark++
	others := append(room.FewRecords(), live("b", 2, 2), live("b", 1, 1), live("b", 3, 1), live("a", 1, 1), live("c", 2, 1), rec("b", 2, 1), gone("b", 3), another)
	for _, r := range others {
		checkGet(t, s, key(own), fmt.Sprintf("Get when %v lies there", r), func(d *disk.Disk) {
			for k, b := range room.RecordSectors(r) {
				if k < 2 {
					d.Write(firstSlot+2+k, b)
				}
			}
		})
	}
	checkGet(t, s, key(own), "Get when it lies a slot behind", func(d *disk.Disk) {
		b := room.RecordSectors(own)
		d.Write(firstSlot+2, nil)
		d.Write(firstSlot+3, b[0])
		d.Write(firstSlot+4, b[1])
	})
	checkGet(t, s, key(own), "Get when its sectors have changed places", func(d *disk.Disk) {
		b := room.RecordSectors(own)
		d.Write(firstSlot+2, b[1])
		d.Write(firstSlot+3, b[0])
	})
}

func TestGetOfOneThatWasWrittenOnceMore(t *testing.T) {
	s := state{room.Sound(5, 3), 4, []lies{{1, live("b", 2, 1)}}}
	v, d := volumeOf(t, s)
	d.Rot(firstSlot+1, 3, 1)
	d.Rot(firstSlot+1, 3, 1)
	d.Write(firstSlot+2, nil)
	d.Write(firstSlot+2, room.RecordSectors(s.all[0].r)[1])
	d.Power(0)
	if !has(v, d, s) || d.Dead() {
		t.Error("Get of what lies there still tells another thing, or writes")
	}
}

func TestSuperNamesAndKeys(t *testing.T) {
	for seed, self := range room.RightSupers() {
		s := state{self, 40, nil}
		for k := range seed % 12 {
			b := room.Some(2, seed+k)
			r := rec(room.Names()[int(b[0])%60], 1+k%3, int(b[1]))
			if s.find(key(r)) < 0 {
				s = s.with(3*k, r)
			}
		}
		volumeOf(t, s)
	}
	s := state{room.Sound(1, 1), 9, []lies{{0, rec("b", 1, 2)}, {1, rec("a-", 1, 1)}, {2, rec("a0", 1, 0)}, {3, rec("b", 1, 0)}, {5, rec("a", 1, 2)}, {6, rec("aa", 2, 0)}, {8, rec("b", 1, 1)}}}
	v, _ := volumeOf(t, s)
	if !slices.Equal(v.Names(), []string{"a", "a-", "a0", "aa", "b"}) {
		t.Errorf("Names: %q", v.Names())
	}
	if want := []index.Key{{Name: "a", Role: 2}, {Name: "a-", Role: 1}, {Name: "a0"}, {Name: "aa"}, {Name: "b"}, {Name: "b", Role: 1}, {Name: "b", Role: 2}}; !slices.Equal(v.Keys(), want) {
		t.Errorf("Keys: %v", v.Keys())
	}
}

// scrubbed tells the transactions of Scrub, and how many it tells, when some records are damaged, and some slots that are free not clear.
func (s state) scrubbed(damaged []index.Key, dirty []int) ([]step, int) {
	var steps []step
	for _, k := range s.keys() {
		if slices.Contains(damaged, k) {
			behind := s.without(k).doubted()
			steps = append(steps, step{changes(s, behind), behind})
			s = behind
		}
	}
	if len(dirty) > 0 {
		behind := s.doubted()
		steps = append(steps, step{cleared(changes(s, behind), dirty...), behind})
	}
	return steps, len(damaged) + len(dirty)
}

// checkScrub checks Scrub when some records of what there is are damaged, and some slots that are free not clear.
func checkScrub(t *testing.T, s state, damaged []index.Key, dirty []int) {
	t.Helper()
	steps, n := s.scrubbed(damaged, dirty)
	doing{
		name: fmt.Sprintf("Scrub with %v damaged, and %v not clear,", damaged, dirty),
		make: func() (*Volume, *disk.Disk, state) {
			v, d := volumeOf(t, s)
			for i, k := range damaged {
				one := s.all[s.find(k)]
				d.Rot(firstSlot+one.at+i%count(one.r), 100*i%512, 9)
			}
			for i, slot := range dirty {
				d.Rot(firstSlot+slot, 510-i, 3)
			}
			return v, d, s
		},
		steps: steps,
		want:  api.OK,
		call: func(v *Volume) (api.Errno, bool) {
			got, e := v.Scrub()
			return e, e == api.OK && got == n || e == api.ErrPower && got == 0
		},
		again: func(v *Volume, d *disk.Disk, ahead state) bool {
			var clear []byte // of the slots that are free
			image := d.Image()
			whole := true
			for _, one := range ahead.all {
				whole = whole && isThere(one, image)
			}
			for slot := range ahead.slots {
				if ahead.isFree(slot) {
					clear = append(clear, d.Read(firstSlot+slot)...)
				}
			}
			got, e := v.Scrub()
			if whole && bytes.Count(clear, []byte{0}) == len(clear) {
				return got == 0 && e == api.OK
			}
			return got == 0 && e == api.ErrPower
		},
	}.check(t)
}

func TestScrubOfWhatIsDamaged(t *testing.T) {
	for slots := 1; slots <= 4; slots++ {
		for _, s := range states(slots) {
			for set := range 1 << slots {
				var damaged []index.Key
				var dirty []int
				for slot := range slots {
					is := slices.IndexFunc(s.all, func(one lies) bool { return one.at == slot })
					switch {
					case set>>slot&1 == 0:
					case s.isFree(slot):
						dirty = append(dirty, slot)
					case is >= 0:
						damaged = append(damaged, key(s.all[is].r))
					}
				}
				checkScrub(t, s, damaged, dirty)
			}
		}
	}
}

func TestScrubOfAllSlots(t *testing.T) {
	for _, self := range []api.Super{{}, room.Suspect(5, 5), room.Sound(5, 3)} {
		s := state{self, 256, nil}
		var dirty []int
		for slot := range 256 {
			dirty = append(dirty, slot)
		}
		v, d := volumeOf(t, s)
		for _, slot := range dirty {
			d.Write(firstSlot+slot, room.Some(64, slot))
		}
		if n, e := v.Scrub(); n != 256 || e != api.OK || !has(v, d, s.doubted()) {
			t.Errorf("Scrub of 256 slots, none clear: %d, %d", n, e)
		}
	}
}

func TestScrubOfRecordsThatStandInFreeSlots(t *testing.T) {
	s := state{room.Sound(5, 3), 6, []lies{{2, live("b", 2, 1)}}}
	for _, r := range []api.Record{live("a", 2, 1), live("b", 2, 1), live("b", 1, 1)} {
		v, d := volumeOf(t, s)
		for k, b := range room.RecordSectors(r) {
			d.Write(firstSlot+4+k, b)
		}
		if n, e := v.Scrub(); n != count(r) || e != api.OK || !has(v, d, s.doubted()) {
			t.Errorf("Scrub with %v in free slots: %d, %d", r, n, e)
		}
		if n, e := v.Scrub(); n != 0 || e != api.OK || !has(v, d, s.doubted()) {
			t.Errorf("Scrub once more: %d, %d", n, e)
		}
	}
}

func TestScrubDoesNotLookBehindTheSlots(t *testing.T) {
	s := state{room.Sound(5, 3), 2, []lies{{0, live("b", 2, 1)}}}
	d := diskOf(s.image(60))
	v, _ := Open(table, d, 2)
	for at := 36; at < 60; at++ {
		d.Write(at, room.Some(64, at))
	}
	image := d.Image()
	if n, e := v.Scrub(); n != 0 || e != api.OK || !bytes.Equal(d.Image(), image) || !isKnown(v, s) {
		t.Errorf("Scrub with sectors behind the slots that are not clear: %d, %d", n, e)
	}
	if w, e := Open(table, d, 2); e != api.OK || !bytes.Equal(d.Image(), image) || !isKnown(w, s) {
		t.Errorf("Open with sectors behind the slots that are not clear: %d", e)
	}
}

func TestNilVolume(t *testing.T) {
	var v *Volume
	for range 2 {
		if v.Super() != (api.Super{}) || len(v.Names()) != 0 || len(v.Keys()) != 0 || v.Free() != 0 {
			t.Error("a nil volume knows, has or tells something")
		}
		for _, k := range []index.Key{{}, {Name: "a"}, {Name: "a", Role: -1}} {
			if r, e := v.Get(k); e != api.ErrNone || !room.SameRecord(r, api.Record{}) {
				t.Errorf("Get of nil: %v, %d", r, e)
			}
		}
		if n, e := v.Scrub(); n != 0 || e != api.OK {
			t.Errorf("Scrub of nil: %d, %d", n, e)
		}
		for _, s := range []api.Super{{}, room.Sound(1, 1), {Fence: -1}} {
			for _, puts := range [][]api.Record{nil, {live("a", 1, 1)}, {{}}} {
				if e := v.Do(s, puts, nil); e != api.ErrPower {
					t.Errorf("Do of nil: %d", e)
				}
			}
		}
	}
}

func TestNoCallPanicsOfWhatNobodyMade(t *testing.T) {
	for _, v := range []*Volume{{}, {t: table}} {
		v.Super()
		v.Names()
		v.Keys()
		v.Free()
		v.Get(index.Key{Name: "a"})
		v.Scrub()
		v.Do(room.Sound(1, 1), nil, nil)
		v.Do(room.Sound(1, 1), []api.Record{live("a", 1, 1)}, []index.Key{{}})
	}
	for _, image := range [][]byte{make([]byte, 64*40), inSlots(room.Some(64, 1), room.Lists(6, 64, 1)...), inSlots(nil, room.RecordSectors(live("a", 6, 1))...)} {
		v, _ := Open(&crc.Table{}, diskOf(image), 6)
		v.Do(room.Sound(1, 1), []api.Record{live("a", 1, 1)}, nil)
		v.Get(index.Key{Name: "a"})
		v.Scrub()
	}
}
