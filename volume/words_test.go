package volume

import (
	"bytes"
	"slices"
	"testing"

	"sherd/api"
	"sherd/crc"
	"sherd/disk"
	"sherd/index"
	"sherd/record"
	"sherd/room"
	"sherd/super"
)

var table = crc.New()

// firstSlot is the sector of the first slot, and journalText how many bytes of a text the journal has room for.
const (
	firstSlot   = 34
	journalText = 32 * 58
)

// lies is a record, and the slot from which on it lies.
type lies struct {
	at int
	r  api.Record
}

// state is what a volume has, by the document's words: what the node knows of itself, how many slots there are, and the records, rising by their slots.
type state struct {
	self  api.Super
	slots int
	all   []lies
}

// step is a transaction: what it changes, and what the volume has behind it.
type step struct {
	l      []api.Change
	behind state
}

// count tells how many sectors a record has.
func count(r api.Record) int {
	return 1 + (len(r.Share)+47)/48
}

// key tells a record's key.
func key(r api.Record) index.Key {
	switch r.Kind {
	case api.Staged:
		return index.Key{Name: r.Name, Role: 1}
	case api.Delta:
		return index.Key{Name: r.Name, Role: 2}
	}
	return index.Key{Name: r.Name}
}

// find tells the place of the record of a key, or -1.
func (s state) find(k index.Key) int {
	return slices.IndexFunc(s.all, func(one lies) bool { return key(one.r) == k })
}

// isFree tells whether no record lies at a slot.
func (s state) isFree(slot int) bool {
	return !slices.ContainsFunc(s.all, func(one lies) bool { return one.at <= slot && slot < one.at+count(one.r) })
}

// free tells how many slots are free.
func (s state) free() int {
	n := s.slots
	for _, one := range s.all {
		n -= count(one.r)
	}
	return n
}

// keys tells the keys, rising.
func (s state) keys() []index.Key {
	var all []index.Key
	for _, one := range s.all {
		all = append(all, key(one.r))
	}
	slices.SortFunc(all, func(a, b index.Key) int {
		if a.Name == b.Name {
			return a.Role - b.Role
		}
		return bytes.Compare([]byte(a.Name), []byte(b.Name))
	})
	return all
}

// names tells the names, rising, each once.
func (s state) names() []string {
	var all []string
	for _, k := range s.keys() {
		all = append(all, k.Name)
	}
	return slices.Compact(all)
}

// without tells what is left without the records of some keys.
func (s state) without(keys ...index.Key) state {
	s.all = slices.DeleteFunc(slices.Clone(s.all), func(one lies) bool { return slices.Contains(keys, key(one.r)) })
	return s
}

// with tells what there is with one record more.
func (s state) with(at int, r api.Record) state {
	s.all = append(slices.Clone(s.all), lies{at, r})
	slices.SortFunc(s.all, func(a, b lies) int { return a.at - b.at })
	return s
}

// knowing tells what there is when the node knows another thing of itself.
func (s state) knowing(self api.Super) state {
	s.self = self
	return s
}

// doubted tells what there is when the node is doubted.
func (s state) doubted() state {
	return s.knowing(room.Suspect(s.self.Fence, s.self.Fence))
}

// image tells the bytes of a disk of so many sectors.
func (s state) image(sectors int) []byte {
	image := make([]byte, 64*sectors)
	copy(image, room.SuperSector(s.self))
	for _, one := range s.all {
		copy(image[64*(firstSlot+one.at):], bytes.Join(room.RecordSectors(one.r), nil))
	}
	return image
}

// diskOf tells a disk that has some bytes.
func diskOf(image []byte) *disk.Disk {
	d := disk.New(len(image) / 64)
	for at := range d.Size() {
		d.Write(at, image[64*at:64*at+64])
	}
	return d
}

// changes tells what a transaction changes: the first sector, if it says another thing, the new records' sectors, and all other slots that were a record's.
func changes(ahead, behind state, laid ...lies) []api.Change {
	var l []api.Change
	if ahead.self != behind.self {
		l = append(l, api.Change{At: 0, Data: room.SuperSector(behind.self)})
	}
	for _, one := range laid {
		for k, b := range room.RecordSectors(one.r) {
			l = append(l, api.Change{At: firstSlot + one.at + k, Data: b})
		}
	}
	for slot := range ahead.slots {
		if !ahead.isFree(slot) && behind.isFree(slot) {
			l = append(l, api.Change{At: firstSlot + slot})
		}
	}
	return l
}

// cleared tells changes that make slots clear as well.
func cleared(l []api.Change, slots ...int) []api.Change {
	for _, slot := range slots {
		l = append(l, api.Change{At: firstSlot + slot})
	}
	return l
}

// together tells the transactions that move all records.
func (s state) together() []step {
	var steps []step
	next := 0
	for _, one := range s.all {
		if one.at != next {
			behind := s.without(key(one.r)).with(next, one.r)
			steps = append(steps, step{changes(s, behind, lies{next, one.r}), behind})
			s = behind
		}
		next += count(one.r)
	}
	return steps
}

// placed tells where records come to lie, and what there is then; false: one finds no place.
func (s state) placed(puts []api.Record, drops []index.Key) (state, []lies, bool) {
	s = s.without(drops...)
	for _, r := range puts {
		s = s.without(key(r))
	}
	var laid []lies
	for _, r := range puts {
		at, n := 0, 0 // n slots up to ahead of at are free
		for n < count(r) && at < s.slots {
			if n++; !s.isFree(at) {
				n = 0
			}
			at++
		}
		if n < count(r) {
			return s, nil, false
		}
		s = s.with(at-n, r)
		laid = append(laid, lies{at - n, r})
	}
	return s, laid, true
}

// do tells the transactions of Do, of what may be, and the error.
func (s state) do(self api.Super, puts []api.Record, drops []index.Key) ([]step, api.Errno) {
	var steps []step
	behind, laid, ok := s.placed(puts, drops)
	if !ok {
		if steps = s.together(); len(steps) > 0 {
			s = steps[len(steps)-1].behind
		}
		behind, laid, ok = s.placed(puts, drops)
	}
	behind = behind.knowing(self)
	l := changes(s, behind, laid...)
	if !ok || len(room.ChangesText(l)) > journalText {
		return steps, api.ErrFull
	}
	return append(steps, step{l, behind}), api.OK
}

// opened tells what a disk's slots have, whose journal is clean, and the changes that Open makes.
func opened(image []byte, slots int) (state, []api.Change) {
	s := state{slots: slots}
	var all [][]byte
	for slot := range slots {
		at := 64 * (firstSlot + slot)
		all = append(all, image[at:at+64])
	}
	var damaged []int
	for at := 0; at < slots; {
		r, n, is := record.Get(table, all[at:])
		switch {
		case is && s.find(key(r)) < 0:
			s = s.with(at, r)
			at += n
			continue
		case bytes.Count(all[at], []byte{0}) != 64:
			damaged = append(damaged, at)
		}
		at++
	}
	self, says := super.Get(table, image[:64])
	s = s.knowing(self)
	if says && len(damaged) == 0 {
		return s, nil
	}
	var l []api.Change
	if ahead := s; !says || ahead.self != s.doubted().self {
		l = append(l, api.Change{At: 0, Data: room.SuperSector(s.doubted().self)})
	}
	return s.doubted(), cleared(l, damaged...)
}

// isKnown tells whether a volume tells what there is.
func isKnown(v *Volume, s state) bool {
	return v.Super() == s.self && slices.Equal(v.Names(), s.names()) && slices.Equal(v.Keys(), s.keys()) && v.Free() == s.free()
}

// gets tells whether Get tells a record, or, if it lies on the disk no more, an error.
func gets(v *Volume, one lies, image []byte, otherwise api.Errno) bool {
	got, e := v.Get(key(one.r))
	if isThere(one, image) {
		return e == api.OK && room.SameRecord(got, one.r)
	}
	return e == otherwise && room.SameRecord(got, api.Record{})
}

// isThere tells whether a record lies on a disk that has some bytes.
func isThere(one lies, image []byte) bool {
	at := 64 * (firstSlot + one.at)
	return bytes.Equal(image[at:at+64*count(one.r)], bytes.Join(room.RecordSectors(one.r), nil))
}

// has tells whether a volume, and its disk, have what there is, and nothing else.
func has(v *Volume, d *disk.Disk, s state) bool {
	image := s.image(d.Size())
	for _, one := range s.all {
		if !gets(v, one, image, api.OK) {
			return false
		}
	}
	_, e := v.Get(index.Key{Name: "none-such"})
	return e == api.ErrNone && isKnown(v, s) && bytes.Equal(d.Image(), image)
}

// volumeOf tells a volume that has what there is, on a disk that has no sector behind the slots.
func volumeOf(t *testing.T, s state) (*Volume, *disk.Disk) {
	t.Helper()
	d := diskOf(s.image(firstSlot + s.slots))
	v, e := Open(table, d, s.slots)
	if e != api.OK || !has(v, d, s) {
		t.Fatalf("Open of %v: %d, or it has another thing", s, e)
	}
	return v, d
}

// doing is a call of a volume that may write, and what it should do.
type doing struct {
	name  string
	make  func() (*Volume, *disk.Disk, state)                  // a new one, its disk, and what it has
	steps []step                                               // its transactions
	want  api.Errno                                            // what is told, if the power lasts
	call  func(v *Volume) (e api.Errno, others bool)           // what is told, and whether its other results go with that
	skip  func(power, writes int) bool                         // the powers that are left out, as there are too many; nil: none
	again func(v *Volume, d *disk.Disk, ahead state) (ok bool) // more that has to hold when the power has failed; nil: nothing
}

// check checks a call with power for each number of sectors.
func (x doing) check(t *testing.T) {
	t.Helper()
	var writes []api.Change
	for _, one := range x.steps {
		writes = append(writes, room.JournalWrites(one.l)...)
	}
	for power := -1; power <= len(writes); power++ {
		if x.skip != nil && 0 <= power && power < len(writes) && x.skip(power, len(writes)) {
			continue
		}
		v, d, s := x.make()
		image := d.Image()
		d.Power(power)
		e, others := x.call(v)
		if 0 <= power && power < len(writes) {
			x.checkFailed(t, v, d, s, image, power, e == api.ErrPower && others)
			continue
		}
		behind := s
		if len(x.steps) > 0 {
			behind = x.steps[len(x.steps)-1].behind
		}
		if e != x.want || !others || d.Dead() || !isKnown(v, behind) || !bytes.Equal(d.Image(), room.Written(image, writes)) {
			t.Fatalf("%s of %v with power for %d sectors: %d, want %d, or another thing is there", x.name, s, power, e, x.want)
		}
	}
}

// checkFailed checks a call whose power failed: what was written, what is known, that nothing is written any more, and what there is when it is opened anew.
func (x doing) checkFailed(t *testing.T, v *Volume, d *disk.Disk, s state, image []byte, power int, told bool) {
	t.Helper()
	start, k, left := bytes.Clone(image), 0, power
	ahead := s
	for n := len(room.JournalWrites(x.steps[0].l)); left >= n; n = len(room.JournalWrites(x.steps[k].l)) {
		image, ahead, left = room.Written(image, x.steps[k].l), x.steps[k].behind, left-n
		k++
	}
	all := room.JournalWrites(x.steps[k].l)
	half := room.Written(image, all[:left])
	if !told || !d.Dead() || !bytes.Equal(d.Image(), half) || !isKnown(v, ahead) {
		t.Fatalf("%s of %v with power for %d sectors: no ErrPower, or another thing is there", x.name, s, power)
	}
	d.Power(-1)
	for _, one := range ahead.all {
		if !gets(v, one, half, api.ErrPower) {
			t.Fatalf("%s of %v with power for %d sectors: then Get of %v tells another thing", x.name, s, power, one)
		}
	}
	self := room.Sound(77, 7)
	for _, e := range []api.Errno{v.Do(ahead.self, nil, nil), v.Do(self, nil, nil), v.Do(self, nil, ahead.keys()), v.Do(ahead.self, nil, ahead.keys())} {
		if e != api.ErrPower || d.Dead() || !bytes.Equal(d.Image(), half) || !isKnown(v, ahead) {
			t.Fatalf("%s of %v with power for %d sectors: then Do tells %d, or something is written", x.name, s, power, e)
		}
	}
	if x.again != nil && !x.again(v, d, ahead) || !bytes.Equal(d.Image(), half) {
		t.Fatalf("%s of %v with power for %d sectors: then another thing is told, or something is written", x.name, s, power)
	}
	if bodies := len(room.ChangesSectors(x.steps[k].l)) - 1; left > bodies { // the head is there
		image = room.Written(image, x.steps[k].l)
	}
	want, l := opened(image, s.slots)
	w, e := Open(table, d, s.slots)
	if e != api.OK || !has(w, d, want) || !bytes.Equal(d.Image(), room.Written(image, l)) {
		t.Fatalf("%s of %v with power for %d sectors, of %v: opened anew %d, or there is another thing than %v", x.name, s, power, start[:64], e, want)
	}
}
