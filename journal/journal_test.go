package journal

import (
	"bytes"
	"slices"
	"testing"

	"sherd/api"
	"sherd/crc"
	"sherd/disk"
	"sherd/room"
)

var table = crc.New()

// someDisk tells a disk whose journal is clean, and whose other sectors are full.
func someDisk(size int) *disk.Disk {
	d := disk.New(size)
	for at, b := range room.Lists(size, 64, size) {
		if at < 1 || at > 33 {
			d.Write(at, b)
		}
	}
	return d
}

// begun tells such a disk, in whose journal some sectors stand, from the head's on, as far as there is room for them.
func begun(size int, sectors [][]byte) *disk.Disk {
	d := someDisk(size)
	for k, b := range sectors {
		if k < 33 {
			d.Write(1+k, b)
		}
	}
	return d
}

// isClear tells whether a list has bytes 0 alone.
func isClear(b []byte) bool {
	return bytes.Count(b, []byte{0}) == len(b)
}

// least tells how many sectors a disk has at least for changes.
func least(l []api.Change) int {
	n := 34
	for _, c := range l {
		n = max(n, c.At+1)
	}
	return n
}

// sizes tells how many sectors a disk may have for changes: the least, and the most.
func sizes(l []api.Change) []int {
	return slices.Compact([]int{least(l), 512})
}

// recoverWrites tells the sectors that Recover of a disk writes, and what they become, if some changes were begun on it, by the document's words.
func recoverWrites(d *disk.Disk, l []api.Change) []api.Change {
	all := slices.Clone(l)
	for at := 1; at <= 33 && at < d.Size(); at++ {
		if !isClear(d.Read(at)) {
			all = append(all, api.Change{At: at})
		}
	}
	return all
}

// writesJust tells whether a call writes just some sectors of copies of a disk, one behind the other, for however many of them the power lasts, and tells OK, or ErrPower.
func writesJust(d *disk.Disk, want []api.Change, call func(c *disk.Disk) api.Errno) bool {
	image := d.Image()
	for power := range len(want) + 1 {
		if power < 40 || power%9 == 0 || len(want)-power < 40 { // of very many writes not all, as they are too slow
			c := d.Copy()
			c.Power(power)
			e, fails := call(c), power < len(want)
			if fails != (e == api.ErrPower) || !fails && e != api.OK || c.Dead() != fails || !bytes.Equal(c.Image(), image) {
				return false
			}
		}
		if power < len(want) {
			image = room.Written(image, want[power:power+1])
		}
	}
	c := d.Copy()
	c.Power(-1)
	return call(c) == api.OK && !c.Dead() && bytes.Equal(c.Image(), image)
}

// tells tells whether a call tells an error, or OK, and writes nothing, with power for no sector, and with more.
func tells(d *disk.Disk, want api.Errno, call func(c *disk.Disk) api.Errno) bool {
	for _, power := range []int{0, 1, 7, -1} {
		c := d.Copy()
		c.Power(power)
		if e := call(c); e != want || c != nil && c.Dead() || !bytes.Equal(c.Image(), d.Image()) {
			return false
		}
		for range power { // none of it was used
			if !c.Write(0, nil) && c != nil {
				return false
			}
		}
	}
	return true
}

// do tells Do of some changes.
func do(l []api.Change) func(d *disk.Disk) api.Errno {
	return func(d *disk.Disk) api.Errno { return Do(table, d, l) }
}

// again is Recover.
func again(d *disk.Disk) api.Errno {
	return Recover(table, d)
}

// P19.1

func TestDoOfOneChangeWithoutBytes(t *testing.T) {
	for _, at := range []int{0, 34, 35, 36} {
		l := []api.Change{{At: at}}
		d := someDisk(37)
		d.Power(5)
		if e := Do(table, d, l); e != api.OK || d.Dead() || !isClear(d.Read(at)) || !Clean(d) {
			t.Errorf("Do of %v with power for five sectors: %d", l, e)
		}
		if d.Write(0, nil) {
			t.Errorf("Do of %v writes fewer than five sectors", l)
		}
		if c := someDisk(37); !writesJust(c, room.JournalWrites(l), do(l)) {
			t.Errorf("Do of %v writes other sectors, or tells another error", l)
		}
	}
}

func TestDoOfKnownChanges(t *testing.T) {
	data := room.Some(64, 5)
	d := someDisk(36)
	kept := d.Read(34)
	text := slices.Concat([]byte{0, 2, 0, 35, 1}, data, []byte{0, 0, 0})
	sum := room.Sum(text)
	head := room.Sealed([]byte{106, 2, 0, 72, byte(sum >> 24), byte(sum >> 16), byte(sum >> 8), byte(sum)})
	want := []api.Change{
		{At: 2, Data: room.Sealed(append([]byte{98, 0}, text[:58]...))}, {At: 3, Data: room.Sealed(append([]byte{98, 1}, text[58:]...))}, {At: 1, Data: head},
		{At: 35, Data: data}, {At: 0}, {At: 1}, {At: 2}, {At: 3},
	}
	l := []api.Change{{At: 35, Data: data}, {At: 0}}
	if !writesJust(d, want, do(l)) {
		t.Error("Do writes other sectors, or tells another error")
	}
	if e := Do(table, d, l); e != api.OK || !bytes.Equal(d.Read(35), data) || !isClear(d.Read(0)) || !bytes.Equal(d.Read(34), kept) {
		t.Errorf("Do of %v: %d, or the disk has other sectors", l, e)
	}
}

func TestDoWritesSectorBySector(t *testing.T) {
	for _, l := range room.RightChanges() {
		for _, size := range sizes(l) {
			if !writesJust(someDisk(size), room.JournalWrites(l), do(l)) {
				t.Errorf("Do of %v on %d sectors writes other sectors, or tells another error", l, size)
			}
		}
	}
}

func TestDoOfWhatIsThereAlready(t *testing.T) {
	for _, l := range room.FewChanges() {
		d := someDisk(512)
		for range 3 { // it writes each time as much
			if !writesJust(d, room.JournalWrites(l), do(l)) || Do(table, d, l) != api.OK || !Clean(d) {
				t.Errorf("Do of %v once more writes other sectors, or tells another error", l)
			}
		}
	}
}

// smallDisks tells disks of fewer sectors than a journal needs, and no disk.
func smallDisks() []*disk.Disk {
	all := []*disk.Disk{nil}
	for size := 1; size < 34; size++ {
		all = append(all, someDisk(size))
	}
	return all
}

func TestDoOfChangesThatMayNotBe(t *testing.T) {
	disks := append(smallDisks(), someDisk(34), someDisk(40), someDisk(512))
	room.EachFaulty(func(l []api.Change, want api.Errno) {
		if want == api.OK {
			if !writesJust(someDisk(least(l)), room.JournalWrites(l), do(l)) {
				t.Errorf("Do of %v writes other sectors, or tells another error", l)
			}
			return
		}
		for _, d := range []*disk.Disk{disks[len(l)%35], disks[35], disks[36]} {
			if !tells(d, want, do(l)) {
				t.Errorf("Do of %v on %d sectors: other than %d, or something is written", l, d.Size(), want)
			}
		}
	})
	for _, at := range room.WrongPlaces() {
		for _, l := range [][]api.Change{{{At: at}}, {{At: at, Data: room.Some(64, 1)}}, {{At: 40}, room.FullChange(at)}} {
			if !tells(someDisk(512), api.ErrRange, do(l)) {
				t.Errorf("Do of a change at %d: no ErrRange, or something is written", at)
			}
		}
	}
	if many := make([]api.Change, 1<<20); !tells(someDisk(512), api.ErrTwice, do(many)) {
		t.Error("Do of very many changes: no ErrTwice, or something is written")
	}
}

func TestDoTellsTheListsErrorFirst(t *testing.T) {
	for _, d := range smallDisks() {
		for _, test := range []struct {
			l    []api.Change
			want api.Errno
		}{
			{[]api.Change{{At: 1}}, api.ErrRange}, {[]api.Change{{At: 0}, {At: 0}}, api.ErrTwice}, {[]api.Change{{At: 0, Data: []byte{1}}}, api.ErrForm}, {room.Changes(28, 0, 1), api.ErrFull},
			{[]api.Change{{At: 511}, {At: 511}}, api.ErrTwice}, {[]api.Change{{At: 511, Data: []byte{1}}}, api.ErrForm},
		} {
			if !tells(d, test.want, do(test.l)) {
				t.Errorf("Do of %v on %d sectors: other than %d, or something is written", test.l, d.Size(), test.want)
			}
		}
	}
	d := someDisk(40)
	for _, l := range [][]api.Change{{{At: 40}, {At: 0}, {At: 0}}, {{At: 511}, {At: 511}}} {
		if !tells(d, api.ErrTwice, do(l)) {
			t.Errorf("Do of %v on 40 sectors: no ErrTwice, or something is written", l)
		}
	}
	if !tells(d, api.ErrForm, do([]api.Change{{At: 40}, {At: 35, Data: []byte{1}}})) || !tells(d, api.ErrFull, do(room.Changes(28, 0, 1))) {
		t.Error("Do of a change that is not there, and an error of the list: another one, or something is written")
	}
}

func TestDoOfADiskWithoutRoomForTheJournal(t *testing.T) {
	for _, d := range smallDisks() {
		for _, l := range append(room.FewChanges(), []api.Change{{At: 0}}, []api.Change{}) {
			if !tells(d, api.ErrRange, do(l)) {
				t.Errorf("Do of %v on %d sectors: no ErrRange, or something is written", l, d.Size())
			}
		}
	}
	l := []api.Change{room.FullChange(0)}
	if !writesJust(someDisk(34), room.JournalWrites(l), do(l)) {
		t.Error("Do on 34 sectors writes others, or tells another error")
	}
}

func TestDoOfAChangeThatTheDiskHasNot(t *testing.T) {
	full := room.FullChange
	for size := 34; size < 512; size++ {
		d := someDisk(size)
		for _, l := range [][]api.Change{{{At: size}}, {full(size)}, {{At: 511}}, {full(size), full(0)}, {{At: 0}, {At: size}}, {full(0), full(511), {At: 34 + size%3}}} {
			if !tells(d, api.ErrRange, do(l)) {
				t.Errorf("Do of %v on %d sectors: no ErrRange, or something is written", l, size)
			}
		}
		for _, l := range [][]api.Change{{{At: size - 1}}, {full(size - 1), full(0)}} {
			if size > 34 && !writesJust(d, room.JournalWrites(l), do(l)) {
				t.Errorf("Do of %v on %d sectors writes others, or tells another error", l, size)
			}
		}
	}
}

func TestDoWithoutChanges(t *testing.T) {
	for _, l := range [][]api.Change{nil, {}, room.Changes(3, 3, 1)[:0]} {
		for _, size := range []int{34, 35, 256, 512} {
			d := someDisk(size)
			if !tells(d, api.OK, do(l)) {
				t.Errorf("Do without changes on %d sectors: not OK, or something is written", size)
			}
			d.Power(0)
			d.Write(0, nil)
			if e := Do(table, d, l); e != api.OK || !d.Dead() {
				t.Errorf("Do without changes, when the power has failed: %d", e)
			}
		}
	}
}

func TestDoWhenThePowerHasFailed(t *testing.T) {
	for _, l := range room.FewChanges()[1:] {
		d := someDisk(512)
		image := d.Image()
		d.Power(0)
		d.Write(0, nil)
		for range 3 {
			if e := Do(table, d, l); e != api.ErrPower || !d.Dead() || !bytes.Equal(d.Image(), image) {
				t.Errorf("Do of %v, when the power has failed: %d, or something is written", l, e)
			}
		}
	}
}

// P19.2

// bodiesBehind tells what may stand in a journal behind changes' sectors.
func bodiesBehind() [][][]byte {
	return [][][]byte{nil, {make([]byte, 64), room.Some(64, 1)}, room.Lists(32, 64, 1), {room.Sealed([]byte{98, 1}), nil, room.Sealed([]byte{98, 9})}, room.ChangesSectors([]api.Change{{At: 0}})}
}

func TestRecoverOfChanges(t *testing.T) {
	for k, l := range room.RightChanges() {
		for n, size := range sizes(l) {
			more := bodiesBehind()[(k+n)%5]
			d := begun(size, slices.Concat(room.ChangesSectors(l), more))
			if Clean(d) {
				t.Errorf("%v is begun, and the journal clean", l)
			}
			if !writesJust(d, recoverWrites(d, l), again) {
				t.Errorf("Recover of %v on %d sectors, and %d lists behind, writes other sectors, or tells another error", l, size, len(more))
			}
			if e := Recover(table, d); e != api.OK || !Clean(d) || !tells(d, api.OK, again) {
				t.Errorf("behind Recover of %v on %d sectors: %d, or not clean, or another one writes something", l, size, e)
			}
		}
	}
}

func TestRecoverOfChangesWithWhateverIsBehind(t *testing.T) {
	for _, l := range room.FewChanges() {
		for _, more := range bodiesBehind() {
			if d := begun(512, slices.Concat(room.ChangesSectors(l), more)); !writesJust(d, recoverWrites(d, l), again) {
				t.Errorf("Recover of %v with %d lists behind writes other sectors, or tells another error", l, len(more))
			}
		}
	}
}

// clearsJust tells whether Recover of a disk makes its journal's sectors clear that are not, in order, and writes nothing else.
func clearsJust(d *disk.Disk) bool {
	return writesJust(d, recoverWrites(d, nil), again) && Recover(table, d) == api.OK && Clean(d) && tells(d, api.OK, again)
}

func TestRecoverOfChangesThatTheDiskHasNot(t *testing.T) {
	for _, l := range room.RightChanges() {
		for _, size := range []int{34, 35, 36, least(l) - 2, least(l) - 1} {
			if 34 <= size && size < least(l) && !clearsJust(begun(size, room.ChangesSectors(l))) {
				t.Errorf("Recover of %v on %d sectors does other than to make the journal clean", l, size)
			}
		}
	}
	for size := 34; size < 512; size += 1 + size/40 {
		full := room.FullChange
		for _, l := range [][]api.Change{{{At: size}}, {full(0), full(size)}, {full(size), full(0)}, {full(0), {At: 511}}} {
			if !clearsJust(begun(size, room.ChangesSectors(l))) {
				t.Errorf("Recover of %v on %d sectors does other than to make the journal clean", l, size)
			}
		}
		l := []api.Change{full(0), full(max(size-1, 34))}
		if d := begun(max(size, 35), room.ChangesSectors(l)); !writesJust(d, recoverWrites(d, l), again) {
			t.Errorf("Recover of %v on %d sectors writes others, or tells another error", l, d.Size())
		}
	}
}

func TestRecoverOfADiskWithoutRoomForTheJournal(t *testing.T) {
	for size := 1; size < 34; size++ {
		if !tells(someDisk(size), api.OK, again) || !Clean(someDisk(size)) {
			t.Errorf("Recover of %d sectors, clean: not OK, or something is written", size)
		}
		for _, l := range append(room.FewChanges(), []api.Change{{At: 0}}, []api.Change{room.FullChange(0)}) {
			for _, more := range bodiesBehind() {
				if !clearsJust(begun(size, slices.Concat(room.ChangesSectors(l), more))) {
					t.Errorf("Recover of %v on %d sectors does other than to make the journal clean", l, size)
				}
			}
		}
	}
}

func TestRecoverOfNoChanges(t *testing.T) {
	for _, l := range room.FewChanges() {
		all := room.ChangesSectors(l)
		for k, own := range all {
			for _, other := range [][]byte{nil, room.Some(64, k), bytes.Repeat([]byte{255}, 64), room.Turned(own, 16*k%512, 1), room.Turned(own, 511-9*k, 1), room.Sealed(nil), room.Sealed([]byte{106, 1}), all[(k+1)%len(all)]} {
				all[k] = other
				if !clearsJust(begun(512, all)) {
					t.Errorf("Recover of %v with %v as number %d does other than to make the journal clean", l, other, k)
				}
			}
			all[k] = own
		}
		for _, others := range [][][]byte{all[1:], append([][]byte{nil}, all...), slices.Concat(all[1:], all[:1]), all[:len(all)-1], {all[0]}} {
			if !clearsJust(begun(512, others)) {
				t.Errorf("Recover of %v with its sectors in other places does other than to make the journal clean", l)
			}
		}
	}
	for seed := range 200 {
		var some [][]byte
		for k, b := range room.Some(33, seed) {
			some = append(some, [][]byte{nil, room.Some(64, seed+k), nil, room.Sealed([]byte{98, byte(k)})}[b%4])
		}
		if !clearsJust(begun(40, some)) {
			t.Errorf("Recover of many sectors, seed %d, does other than to make the journal clean", seed)
		}
	}
}

func TestRecoverOfChangesThatMayNotBe(t *testing.T) {
	for _, l := range [][]api.Change{{{At: 1}}, {{At: 2}}, {{At: 33}}, {room.FullChange(33)}, {{At: 512}}, {room.FullChange(0), {At: 1}}, {{At: 34}, {At: 34}}, {room.FullChange(0), {At: 0}}, room.Changes(28, 0, 1)} {
		if !clearsJust(begun(512, room.ChangesSectors(l))) {
			t.Errorf("Recover of %v does other than to make the journal clean", l)
		}
	}
}

func TestRecoverOfACleanJournal(t *testing.T) {
	for size := 1; size <= 512; size++ {
		for _, d := range []*disk.Disk{someDisk(size), disk.New(size)} {
			if !tells(d, api.OK, again) || !Clean(d) {
				t.Errorf("Recover of %d sectors, clean: not OK, or something is written", size)
			}
			image := d.Image()
			d.Power(0)
			d.Write(0, nil)
			if e := Recover(table, d); e != api.OK || !Clean(d) || !bytes.Equal(d.Image(), image) {
				t.Errorf("Recover of %d sectors, clean, when the power has failed: %d", size, e)
			}
		}
	}
}

func TestRecoverWhenThePowerHasFailed(t *testing.T) {
	for _, l := range room.FewChanges() {
		for _, sectors := range [][][]byte{room.ChangesSectors(l), room.ChangesSectors(l)[1:]} {
			d := begun(512, sectors)
			image := d.Image()
			d.Power(0)
			d.Write(0, nil)
			for range 3 {
				if e := Recover(table, d); e != api.ErrPower || Clean(d) || !bytes.Equal(d.Image(), image) {
					t.Errorf("Recover of %v, when the power has failed: %d, or something is written", l, e)
				}
			}
		}
	}
}

func TestCleanOfEachSector(t *testing.T) {
	for _, size := range []int{1, 2, 3, 20, 33, 34, 35, 512} {
		for at := range size {
			d := disk.New(size)
			for bit := 0; bit < 512; bit += 1 + at/34 { // of sectors behind the journal's fewer
				d.Rot(at, bit, 1)
				if Clean(d) != (at < 1 || at > 33) {
					t.Errorf("Clean of %d sectors with the bit %d of %d: %t", size, bit, at, Clean(d))
				}
				d.Rot(at, bit, 1)
			}
			d.Write(at, bytes.Repeat([]byte{255}, 64))
			if Clean(d) != (at < 1 || at > 33) {
				t.Errorf("Clean of %d sectors with %d full: %t", size, at, Clean(d))
			}
		}
		d := someDisk(size)
		image := d.Image()
		d.Power(0)
		if !Clean(d) || d.Dead() || !bytes.Equal(d.Image(), image) {
			t.Errorf("Clean of %d sectors, all full but the journal's: false, or it writes something", size)
		}
		if d.Write(0, nil); !Clean(d) || !d.Dead() {
			t.Errorf("Clean of %d sectors, when the power has failed: false", size)
		}
	}
}

func TestNilDisk(t *testing.T) {
	for range 2 {
		if Clean(nil) {
			t.Error("a nil disk is clean")
		}
		if e := Recover(table, nil); e != api.ErrPower {
			t.Errorf("Recover of a nil disk: %d", e)
		}
	}
}

// P19.3

// settles recovers copies of a disk, whose power may fail at any sector while it is, so often as is said, and tells whether behind each Recover that is OK it has some bytes, its journal is clean, and another Recover writes nothing.
func settles(d *disk.Disk, want []byte, often int) bool {
	for power := 0; ; power++ {
		c := d.Copy()
		c.Power(power)
		if Recover(table, c) == api.OK {
			return bytes.Equal(c.Image(), want) && Clean(c) && tells(c, api.OK, again)
		}
		if !c.Dead() || often > 0 && !settles(c, want, often-1) {
			return false
		}
	}
}

// someChanges tells changes whose power may fail, and be given again, at all sectors.
func someChanges() [][]api.Change {
	return [][]api.Change{{{At: 0}}, {room.FullChange(34)}, {room.FullChange(0), {At: 35}, room.FullChange(36)}, {{At: 34}, {At: 0}}, {{At: 35, Data: make([]byte, 64)}, room.FullChange(34)}, room.Changes(2, 3, 1)}
}

func TestAllChangesOrNoneWhereverThePowerFails(t *testing.T) {
	for _, l := range someChanges() {
		d := someDisk(least(l))
		none := d.Image()
		all := room.Written(none, l)
		bodies := len(room.ChangesSectors(l)) - 1
		for power := range len(room.JournalWrites(l)) + 2 {
			c := d.Copy()
			c.Power(power)
			e := Do(table, c, l)
			if e != api.OK && !c.Dead() || e == api.OK && (!bytes.Equal(c.Image(), all) || !Clean(c)) {
				t.Errorf("Do of %v with power for %d sectors: %d", l, power, e)
			}
			want := none
			if power > bodies { // the head is there
				want = all
			}
			if !settles(c, want, 2) {
				t.Errorf("behind Do of %v with power for %d sectors, recovered, there are neither all nor none, or the journal is not clean", l, power)
			}
		}
	}
}

func TestAllOfManyChangesOrNone(t *testing.T) {
	lists := room.RightChanges()
	met := map[bool]int{}
	for seed := range 1500 {
		b := room.Some(40, seed)
		l := lists[(7*seed+int(b[0]))%len(lists)]
		d := someDisk(least(l))
		none := d.Image()
		all := room.Written(none, l)
		d.Power(int(b[1]) * (len(room.JournalWrites(l)) + 1) / 256)
		if b[2]%3 == 0 { // while the bodies are written
			d.Power(int(b[1]) % len(room.ChangesSectors(l)))
		}
		told := Do(table, d, l)
		recovered := api.ErrPower
		for k := 3; recovered != api.OK; k++ {
			d.Power(-1)
			if k < len(b) {
				d.Power(int(b[k]) * (len(l) + 3) / 256)
			}
			recovered = Recover(table, d)
		}
		done := bytes.Equal(d.Image(), all)
		if !done && (told == api.OK || !bytes.Equal(d.Image(), none)) || !Clean(d) || !tells(d, api.OK, again) {
			t.Errorf("behind Do of %v, which told %d, recovered, seed %d: neither all nor none, or the journal is not clean", l, told, seed)
		}
		met[done]++
	}
	if met[true] < 300 || met[false] < 300 {
		t.Errorf("by whether all are there: %v", met)
	}
}

func TestManyOneBehindTheOther(t *testing.T) {
	for seed := range 30 {
		d := someDisk(512)
		image := d.Image()
		for k := range 40 {
			b := room.Some(8, 100*seed+k)
			l := room.Changes(int(b[0]%5), int(b[1]%5), 100*seed+k)
			d.Power(int(b[2] % 32))
			told := Do(table, d, l)
			for n := 3; told != api.OK && Recover(table, d) != api.OK; n++ { // what told OK needs no Recover
				d.Power(int(b[n%8] % 16))
			}
			all := room.Written(image, l)
			if done := bytes.Equal(d.Image(), all); !done && (told == api.OK || !bytes.Equal(d.Image(), image)) || !Clean(d) {
				t.Fatalf("seed %d, number %d, which told %d: neither all nor none, or the journal is not clean", seed, k, told)
			} else if done {
				image = all
			}
		}
	}
}

// The rules that hold everywhere, of each call.

func TestWhatIsHandedInIsNotChangedAndNotKept(t *testing.T) {
	before := *table
	for _, l := range append(room.FewChanges(), room.Changes(28, 0, 1), []api.Change{{At: 33}}, []api.Change{{At: 0}, {At: 0}}, []api.Change{{At: 40, Data: []byte{1}}}) {
		for _, size := range []int{20, 36, 512} {
			for _, power := range []int{-1, 0, 3} {
				list, unchanged := room.MarkedChanges(l)
				d := someDisk(size)
				d.Power(power)
				Do(table, d, list)
				if !unchanged() {
					t.Errorf("%v, or its spare room, was changed", l)
				}
				image := d.Image()
				for _, c := range list {
					room.Shared(c.Data) // which writes over it
				}
				if !bytes.Equal(d.Image(), image) {
					t.Errorf("%v, which was handed in, is kept", l)
				}
				d.Power(-1)
				Recover(table, d)
			}
		}
	}
	if *table != before {
		t.Error("the table was changed")
	}
}

func TestAnswersHangOnArgumentsAlone(t *testing.T) {
	other := crc.New()
	for _, l := range room.FewChanges() {
		for _, size := range []int{20, 36, 512} {
			for power := range 50 {
				a, b := someDisk(size), someDisk(size)
				a.Power(power)
				b.Power(power)
				for range 3 {
					d, e := Do(table, a, l), Do(other, b, l)
					if d != e || !bytes.Equal(a.Image(), b.Image()) {
						t.Errorf("Do of %v on %d sectors is another with another table", l, size)
					}
					a.Power(2)
					b.Power(2)
					if d, e = Recover(table, a), Recover(other, b); d != e || !bytes.Equal(a.Image(), b.Image()) || Clean(a) != Clean(b) {
						t.Errorf("Recover of %v on %d sectors is another with another table", l, size)
					}
				}
			}
		}
	}
}

func TestNothingIsDoneWithoutATable(t *testing.T) {
	without := func(l []api.Change) func(d *disk.Disk) api.Errno {
		return func(d *disk.Disk) api.Errno { return Do(nil, d, l) }
	}
	for _, l := range room.FewChanges() {
		want := api.ErrArg
		if len(l) == 0 {
			want = api.OK
		}
		if !tells(someDisk(512), want, without(l)) || !tells(someDisk(20), api.ErrRange, without(l)) || !tells(nil, api.ErrRange, without(l)) {
			t.Errorf("Do of %v without a table: another error, or something is written", l)
		}
		recovers := func(d *disk.Disk) api.Errno { return Recover(nil, d) }
		if !tells(begun(512, room.ChangesSectors(l)), api.ErrArg, recovers) || !tells(someDisk(512), api.OK, recovers) || Recover(nil, nil) != api.ErrPower {
			t.Errorf("Recover of %v without a table: another error, or something is written", l)
		}
	}
	room.EachFaulty(func(l []api.Change, want api.Errno) {
		if want != api.OK && !tells(someDisk(40), want, without(l)) {
			t.Errorf("Do of %v without a table: other than %d", l, want)
		}
	})
}

func TestNoCallPanicsOfWhatNewDidNotMake(t *testing.T) {
	for _, l := range append(room.FewChanges(), []api.Change{{At: 1}}) {
		for _, d := range []*disk.Disk{someDisk(512), someDisk(20), begun(512, room.ChangesSectors(l)), begun(40, room.Lists(33, 64, 1)), {}, nil} {
			for _, c := range []*crc.Table{{}, nil, table} {
				Do(c, d, l)
				Recover(c, d)
				Clean(d)
				Do(c, d, l)
			}
		}
	}
}

func TestDoOfAJournalThatIsNotCleanDoesNotPanic(t *testing.T) {
	for _, l := range room.FewChanges() {
		for _, sectors := range append(bodiesBehind(), room.ChangesSectors(room.Changes(3, 3, 1)), room.ChangesSectors(l)) {
			for power := -1; power < 8; power++ {
				d := begun(512, sectors)
				d.Power(power)
				Do(table, d, l)
				d.Power(-1)
				if e := Recover(table, d); e != api.OK || !Clean(d) {
					t.Errorf("Recover behind Do of %v on a journal that was not clean: %d", l, e)
				}
			}
		}
	}
}
