package volume

import (
	"bytes"
	"fmt"
	"math"
	"slices"
	"testing"

	"sherd/api"
	"sherd/crc"
	"sherd/disk"
	"sherd/index"
	"sherd/room"
)

// P24.3

// checkDo checks Do, of what may be, of what there is, with power for each number of sectors that is not skipped.
func checkDo(t *testing.T, s state, self api.Super, puts []api.Record, drops []index.Key, skip func(power, writes int) bool) {
	t.Helper()
	steps, want := s.do(self, puts, drops)
	x := doing{
		name:  fmt.Sprintf("Do of %v, %v and %v", self, puts, drops),
		make:  func() (*Volume, *disk.Disk, state) { v, d := volumeOf(t, s); return v, d, s },
		steps: steps,
		want:  want,
		call:  func(v *Volume) (api.Errno, bool) { return v.Do(self, puts, drops), true },
		skip:  skip,
	}
	x.check(t)
	v, d := volumeOf(t, s)
	if len(steps) > 0 {
		s = steps[len(steps)-1].behind
	}
	if e := v.Do(self, puts, drops); e != want || !has(v, d, s) {
		t.Fatalf("%s: %d, want %d, or there is another thing than %v", x.name, e, want, s)
	}
	if w, e := Open(table, d, s.slots); e != api.OK || !has(w, d, s) {
		t.Fatalf("%s, opened anew: %d, or there is another thing than %v", x.name, e, s)
	}
}

func TestDoOfTheExample(t *testing.T) {
	a := live("a", 2, 1)
	v, d := volumeOf(t, state{room.Sound(5, 3), 4, []lies{{1, a}}})
	if e := v.Do(room.Sound(5, 3), []api.Record{live("b", 3, 1)}, nil); e != api.ErrFull || !has(v, d, state{room.Sound(5, 3), 4, []lies{{0, a}}}) {
		t.Errorf("Do of one of 3 for another key: %d, or the one of 2 is not at the beginning", e)
	}
	if e := v.Do(room.Sound(6, 3), []api.Record{live("a", 3, 1)}, nil); e != api.OK || !has(v, d, state{room.Sound(6, 3), 4, []lies{{0, live("a", 3, 1)}}}) {
		t.Errorf("Do of one of 3 for its key: %d, or another thing is there", e)
	}
}

func TestDoOfKnownOnes(t *testing.T) {
	a, b, c := live("a", 2, 1), live("b", 1, 1), rec("a", 3, 1)
	v, d := volumeOf(t, state{room.Sound(5, 3), 9, []lies{{1, a}, {5, b}}})
	for _, test := range []struct {
		self  api.Super
		puts  []api.Record
		drops []index.Key
		e     api.Errno
		all   []lies
	}{
		{room.Sound(5, 3), []api.Record{c}, nil, api.OK, []lies{{1, a}, {5, b}, {6, c}}}, // one slot is free, two, and three
		{room.Sound(5, 4), []api.Record{a}, nil, api.OK, []lies{{0, a}, {5, b}, {6, c}}}, // its own slots count as free
		{room.Sound(6, 4), []api.Record{live("d", 1, 1), live("e", 2, 1)}, nil, api.OK, []lies{{0, a}, {2, live("d", 1, 1)}, {3, live("e", 2, 1)}, {5, b}, {6, c}}},
		{room.Sound(6, 4), []api.Record{live("f", 1, 1)}, nil, api.ErrFull, []lies{{0, a}, {2, live("d", 1, 1)}, {3, live("e", 2, 1)}, {5, b}, {6, c}}},
		{room.Sound(6, 5), nil, []index.Key{{Name: "z"}, {Name: "d", Role: 2}}, api.OK, []lies{{0, a}, {2, live("d", 1, 1)}, {3, live("e", 2, 1)}, {5, b}, {6, c}}},
		{room.Sound(7, 5), []api.Record{live("g", 4, 1)}, []index.Key{key(b), key(live("e", 1, 1)), key(live("d", 1, 1))}, api.OK, []lies{{0, a}, {2, live("g", 4, 1)}, {6, c}}},
		{room.Sound(7, 5), []api.Record{live("h", 3, 1)}, []index.Key{key(a)}, api.ErrFull, []lies{{0, a}, {2, live("g", 4, 1)}, {6, c}}}, // two slots count as free
		{room.Suspect(7, 7), []api.Record{live("h", 2, 1)}, []index.Key{key(a)}, api.OK, []lies{{0, live("h", 2, 1)}, {2, live("g", 4, 1)}, {6, c}}},
	} {
		if e := v.Do(test.self, test.puts, test.drops); e != test.e {
			t.Errorf("Do of %v and %v: %d, want %d", test.puts, test.drops, e, test.e)
		}
		if want := (state{test.self, 9, test.all}); !has(v, d, want) {
			t.Errorf("behind Do of %v and %v there is another thing than %v", test.puts, test.drops, want)
		}
	}
}

// putsFor tells lists of records that may be put: none, new ones, and such as are of a key that is there, one or two.
func putsFor(s state) [][]api.Record {
	all := [][]api.Record{nil, {live("n", 1, 1), live("a1", 2, 1)}, {rec("n", 2, 1), rec("n", 1, 2)}, {live("0", 1, 1), live("1", 1, 1), gone("2", 3)}}
	for n := 1; n <= min(6, s.slots+1); n++ {
		all = append(all, []api.Record{live("n", n, n)})
	}
	for i, one := range s.all {
		for n := 1; n <= 3; n++ {
			r := rec(one.r.Name, n, key(one.r).Role+3*n)
			all = append(all, []api.Record{r})
			if n == 1+i%3 {
				all = append(all, []api.Record{r, live("n", 2, 1)}, []api.Record{live("n", 1, 1), r})
			}
		}
	}
	return all
}

// dropsFor tells lists of keys that may be let go beside records that are put: none, those that are there, and others.
func dropsFor(s state, puts []api.Record) [][]index.Key {
	all := [][]index.Key{nil, {{Name: "none"}, {Name: "-"}, {}}}
	var keys []index.Key
	for _, k := range s.keys() {
		if !slices.ContainsFunc(puts, func(r api.Record) bool { return key(r) == k }) {
			keys = append(keys, k)
			all = append(all, []index.Key{k})
		}
	}
	slices.Reverse(keys)
	return append(all, append(keys, index.Key{Name: "none", Role: -5}))
}

func TestDoOfFewSlots(t *testing.T) {
	for slots := 1; slots <= 4; slots++ {
		for i, s := range states(slots) {
			for k, puts := range putsFor(s) {
				for n, drops := range dropsFor(s, puts) {
					self := []api.Super{s.self, room.Sound(259, 3), room.Suspect(258, 258), s.self}[(i+k+n)%4]
					checkDo(t, s, self, puts, drops, func(power, writes int) bool { return slots == 4 && (power+i+k+n)%5 != 0 })
				}
			}
		}
	}
}

func TestDoOfSomeSlots(t *testing.T) {
	met := map[int]int{}
	for slots := 5; slots <= 7; slots++ {
		for i, s := range states(slots) {
			puts := putsFor(s)
			for k := i % 3; k < len(puts); k += 3 + 4*(slots-5) {
				drops := dropsFor(s, puts[k])
				steps, _ := s.do(s.self, puts[k], drops[(i+k)%len(drops)])
				met[len(steps)]++
				checkDo(t, s, room.Sound(258, 3+i%2), puts[k], drops[(i+k)%len(drops)], func(power, writes int) bool { return (power+i)%29 != 0 })
			}
		}
	}
	for n := range 4 { // how many transactions there are
		if met[n] < 20 {
			t.Errorf("with %d transactions: %d", n, met[n])
		}
	}
}

// tells tells whether Do of what there is tells an error, or OK, and nothing is written, with power for no sector, and with more, and when the power has failed it tells the same, if it is no OK.
func tells(t *testing.T, s state, self api.Super, puts []api.Record, drops []index.Key, want api.Errno) bool {
	t.Helper()
	v, d := volumeOf(t, s)
	for _, power := range []int{0, 1, -1} {
		d.Power(power)
		if e := v.Do(self, puts, drops); e != want || d.Dead() || !has(v, d, s) {
			return false
		}
	}
	d.Power(0)
	if e := v.Do(room.Sound(258, 9), nil, nil); e != api.ErrPower {
		return false
	}
	d.Power(-1)
	return want == api.OK || v.Do(self, puts, drops) == want && has(v, d, s)
}

func TestDoOfWhatMayNotBeKnown(t *testing.T) {
	s := state{room.Sound(5, 3), 6, []lies{{1, live("a", 2, 1)}}}
	wrong := room.WrongSupers()
	for k, self := range wrong {
		if k%7 != 0 && k+200 < len(wrong) { // there are very many
			continue
		}
		for _, puts := range [][]api.Record{nil, {live("b", 1, 1)}, {live("b", 6, 1)}} {
			if !tells(t, s, self, puts, nil, api.ErrForm) {
				t.Errorf("Do of %v, which may not be: no ErrForm, or something is written", self)
			}
		}
	}
}

func TestDoOfWhatIsBlank(t *testing.T) {
	for _, known := range room.RightSupers() {
		s := state{known, 3, []lies{{1, live("a", 2, 1)}}}
		want := api.ErrForm
		if known == (api.Super{}) {
			want = api.OK
		}
		if !tells(t, s, api.Super{}, nil, nil, want) {
			t.Errorf("Do of what is Blank, when %v is known: other than %d, or something is written", known, want)
		}
		if want == api.ErrForm && !tells(t, s, api.Super{}, []api.Record{live("b", 1, 1)}, []index.Key{{Name: "a"}}, want) {
			t.Errorf("Do of what is Blank, and a record, when %v is known: other than %d, or something is written", known, want)
		}
	}
	blank := state{api.Super{}, 3, nil}
	checkDo(t, blank, api.Super{}, []api.Record{live("a", 2, 1)}, nil, nil)
	checkDo(t, blank, room.Suspect(0, 0), []api.Record{live("a", 2, 1)}, nil, nil)
	checkDo(t, blank, room.Sound(1<<32-1, 1<<32-1), nil, nil, nil)
	v, e := Open(table, diskOf(inSlots(room.Some(64, 1), nil)), 1)
	if e != api.OK || v.Do(api.Super{}, nil, nil) != api.ErrForm {
		t.Errorf("Do of what is Blank, when the first sector said nothing: no ErrForm, or Open %d", e)
	}
}

func TestDoOfWhatMayBeKnown(t *testing.T) {
	for k, self := range room.RightSupers()[1:] {
		s := state{room.Sound(258, 3), 3, []lies{{1, live("a", 2, 1)}}}
		if k%40 == 0 {
			s.self = self
		}
		checkDo(t, s, self, nil, nil, func(power, writes int) bool { return power%4 != k%4 })
		checkDo(t, s, self, []api.Record{live("b", 1, 1)}, nil, func(power, writes int) bool { return power%9 != k%9 })
	}
}

func TestDoOfRecordsThatMayNotBe(t *testing.T) {
	s := state{room.Sound(5, 3), 6, []lies{{1, live("a", 2, 1)}}}
	for k, r := range room.WrongRecords() {
		lists := [][]api.Record{{r}, {live("b", 1, 1), r}, {r, live("b", 6, 1)}, {live("b", 6, 1), live("c", 6, 1), r}}
		if !tells(t, s, s.self, lists[k%4], nil, api.ErrForm) {
			t.Errorf("Do of %v, which may not be: no ErrForm, or something is written", lists[k%4])
		}
	}
}

func TestDoOfOneKeyTwice(t *testing.T) {
	s := state{room.Sound(5, 3), 9, []lies{{1, live("a", 2, 1)}, {4, rec("a", 1, 1)}}}
	a, staged, b := live("a", 1, 1), rec("a", 1, 4), live("b", 1, 1)
	for _, test := range []struct {
		puts  []api.Record
		drops []index.Key
		want  api.Errno
	}{
		{[]api.Record{a, a}, nil, api.ErrForm}, {[]api.Record{a, b, gone("a", 3)}, nil, api.ErrForm}, {[]api.Record{staged, a, rec("a", 2, 1)}, nil, api.ErrForm}, {[]api.Record{b, gone("b", 1), live("c", 6, 1)}, nil, api.ErrForm},
		{nil, []index.Key{key(a), key(a)}, api.ErrForm}, {nil, []index.Key{{Name: "z"}, key(a), {Name: "z"}}, api.ErrForm}, {nil, []index.Key{{}, {}}, api.ErrForm}, {nil, []index.Key{{Name: "a", Role: 7}, {Name: "a", Role: 7}}, api.ErrForm},
		{[]api.Record{a}, []index.Key{key(a)}, api.ErrForm}, {[]api.Record{b, staged}, []index.Key{key(a), key(staged)}, api.ErrForm}, {[]api.Record{b}, []index.Key{key(b)}, api.ErrForm}, {[]api.Record{gone("b", 1)}, []index.Key{key(b)}, api.ErrForm},
		{nil, make([]index.Key, 1<<17), api.ErrForm}, {slices.Repeat([]api.Record{a}, 1<<14), nil, api.ErrForm},
	} {
		if !tells(t, s, s.self, test.puts, test.drops, test.want) {
			t.Errorf("Do of %d records and %d keys, of which two are one: no ErrForm, or something is written", len(test.puts), len(test.drops))
		}
	}
	checkDo(t, s, s.self, []api.Record{a, staged, rec("a", 2, 2)}, []index.Key{{Name: "a", Role: 3}, {Name: "a", Role: -1}, {Name: "A"}}, nil)
}

func TestDoOfNothing(t *testing.T) {
	for slots := 1; slots <= 4; slots++ {
		for _, s := range states(slots) {
			for _, drops := range [][]index.Key{nil, {}, {{Name: "none"}}, {{Name: "a", Role: math.MinInt}, {Name: "", Role: math.MaxInt}}} {
				if !tells(t, s, s.self, nil, drops, api.OK) {
					t.Errorf("Do of nothing new, and %v: not OK, or something is written", drops)
				}
			}
		}
	}
}

func TestDoOfWhatHasNoPlace(t *testing.T) {
	full := state{room.Sound(5, 3), 6, []lies{{0, live("b", 3, 1)}, {3, live("a", 2, 1)}}}
	for _, puts := range [][]api.Record{{live("c", 2, 1)}, {live("c", 1, 1), live("d", 1, 1)}, {live("b", 5, 1)}, {live("a", 4, 1)}, {live("a", 1, 1), live("b", 6, 1)}} {
		if !tells(t, full, room.Sound(6, 3), puts, nil, api.ErrFull) {
			t.Errorf("Do of %v: no ErrFull, or something is written", puts)
		}
	}
	var many []api.Record
	for k := range 1 << 13 {
		many = append(many, live(fmt.Sprint("n", k), 1, 1))
	}
	if !tells(t, full, full.self, many, nil, api.ErrFull) {
		t.Error("Do of very many records: no ErrFull, or something is written")
	}
	checkDo(t, full, room.Sound(6, 3), []api.Record{live("c", 1, 1)}, nil, nil)
	apart := state{room.Sound(5, 3), 6, []lies{{1, live("b", 3, 1)}, {5, live("a", 1, 1)}}}
	checkDo(t, apart, room.Sound(6, 3), []api.Record{live("c", 3, 1)}, nil, nil) // full, though all are moved
	checkDo(t, apart, room.Sound(6, 3), []api.Record{live("c", 2, 1)}, nil, nil)
	checkDo(t, apart, room.Sound(6, 3), []api.Record{live("b", 5, 1)}, nil, nil) // all of them, the one that goes too
	checkDo(t, apart, room.Sound(6, 3), []api.Record{live("c", 5, 1)}, []index.Key{key(apart.all[0].r)}, nil)
	checkDo(t, apart, room.Sound(6, 3), []api.Record{live("c", 6, 1)}, []index.Key{{Name: "a"}, {Name: "b"}}, nil)
	checkDo(t, apart, room.Sound(6, 3), []api.Record{live("c", 1, 1), live("d", 2, 1)}, nil, nil) // the first one has a place, the second one has none
}

// many tells records of names that rise, which have so many sectors together.
func many(sectors int) []api.Record {
	var all []api.Record
	for n := 0; n < sectors; n += 6 {
		all = append(all, live(fmt.Sprint("m", 10+n), min(6, sectors-n), n))
	}
	return all
}

func TestDoOfMoreThanTheJournalHasRoomFor(t *testing.T) {
	for _, first := range []bool{false, true} {
		for sectors := 24; sectors <= 30; sectors++ {
			for bare := range 34 {
				s := state{room.Sound(5, 3), 256, nil}
				var drops []index.Key
				for k := range bare {
					r := gone(fmt.Sprint("g", k), 1)
					s = s.with(250-2*k, r)
					drops = append(drops, key(r))
				}
				self := s.self
				if first {
					self.Dealt++
				}
				full := sectors
				if first {
					full++
				}
				fits := 2+67*full+3*bare <= 32*58
				v, d := volumeOf(t, s)
				image := d.Image()
				d.Power(0)
				e := v.Do(self, many(sectors), drops)
				if fits && e != api.ErrPower || !fits && (e != api.ErrFull || d.Dead()) || !bytes.Equal(d.Image(), image) || !isKnown(v, s) {
					t.Errorf("Do of %d sectors and %d that become clear, the first one changed %t: %d", sectors, bare, first, e)
				}
				d.Power(-1)
				want := api.ErrFull
				if fits { // then the power failed
					want = api.ErrPower
				}
				if e := v.Do(self, many(sectors), drops); e != want || !bytes.Equal(d.Image(), image) {
					t.Errorf("Do once more of %d sectors and %d that become clear: %d", sectors, bare, e)
				}
				v.Do(room.Sound(7, 7), nil, nil)
				if !fits && v.Do(self, many(sectors), drops) != api.ErrFull {
					t.Errorf("Do of %d sectors and %d that become clear: no ErrFull behind another one", sectors, bare)
				}
			}
		}
	}
}

func TestDoOfManyRecordsAtOnce(t *testing.T) {
	for sectors := 20; sectors <= 28; sectors++ {
		s := state{room.Sound(5, 3), 40, []lies{{1, live("a", 2, 1)}, {4, live("b", 4, 1)}}}
		checkDo(t, s, s.self, many(sectors), nil, func(power, writes int) bool { return power%11 != 0 })
		checkDo(t, s, room.Sound(5, 4), many(sectors), []index.Key{{Name: "a"}}, func(power, writes int) bool { return power%11 != 0 })
	}
	s := state{room.Sound(5, 3), 33, []lies{{1, live("a", 2, 1)}, {4, live("b", 2, 1)}}} // moved, and then there is no room in the journal
	checkDo(t, s, s.self, many(29), nil, nil)
}

func TestDoWhenThePowerHadFailedAhead(t *testing.T) {
	s := state{room.Sound(5, 3), 6, []lies{{1, live("a", 2, 1)}}}
	d := diskOf(s.image(40))
	d.Power(0)
	d.Write(0, nil)
	v, e := Open(table, d, 6)
	if e != api.OK || !has(v, d, s) {
		t.Fatalf("Open of a disk whose power has failed: %d", e)
	}
	if e := v.Do(s.self, nil, nil); e != api.OK {
		t.Errorf("Do of nothing new: %d", e)
	}
	if e := v.Do(s.self, []api.Record{live("b", 1, 1)}, nil); e != api.ErrPower || !has(v, d, s) {
		t.Errorf("Do of a record: %d", e)
	}
}

func TestDoLeavesWhatIsDamagedSo(t *testing.T) {
	for slots := 3; slots <= 6; slots++ {
		for _, s := range states(slots) {
			steps := s.together()
			for i, one := range s.all {
				v, d := volumeOf(t, s)
				bad := firstSlot + one.at + i%count(one.r)
				d.Rot(bad, 300, math.MaxUint32)
				hurt := d.Read(bad)
				if e := v.Do(room.Sound(258, 4), []api.Record{live("long", 6, 1), live("longer", 6, 1)}, nil); e != api.ErrFull {
					t.Fatalf("Do of two records of 6: %d", e)
				}
				want := s
				if len(steps) > 0 {
					want = steps[len(steps)-1].behind
				}
				image, at := want.image(d.Size()), want.all[want.find(key(one.r))].at
				copy(image[64*(firstSlot+at+i%count(one.r)):], hurt)
				if !bytes.Equal(d.Image(), image) || !isKnown(v, want) {
					t.Errorf("all records of %v moved, with one damaged: there is another thing", s)
				}
				if _, e := v.Get(key(one.r)); e != api.ErrSum || !has(v, d, want.without(key(one.r)).doubted()) {
					t.Errorf("all records of %v moved, with one damaged: Get of that tells %d", s, e)
				}
			}
		}
	}
}

func TestDoWritesTheFirstSectorWhenItSaysAnotherThing(t *testing.T) {
	s := state{room.Sound(5, 3), 3, []lies{{1, live("a", 2, 1)}}}
	for _, b := range [][]byte{nil, room.Some(64, 1), room.SuperSector(room.Sound(5, 4))} {
		v, d := volumeOf(t, s)
		d.Write(0, b)
		if v.Super() != s.self {
			t.Errorf("Super, when the first sector has changed: %v", v.Super())
		}
		if e := v.Do(s.self, nil, nil); e != api.OK || !has(v, d, s) {
			t.Errorf("Do of what was known, when the first sector has changed: %d, or it stays so", e)
		}
	}
}

// P24.4

// some tells one of some things, by a byte.
func some[T any](b byte, all ...T) T {
	return all[int(b)%len(all)]
}

// walk is what was done to a volume, one behind the other, and what it has by the document's words.
type walk struct {
	t *testing.T
	v *Volume
	d *disk.Disk
	s state
}

// reopen opens it anew, with power that may fail while it does; image are the disk's bytes when the journal is recovered.
func (w *walk) reopen(image []byte, b []byte) {
	want, l := opened(image, w.s.slots)
	e := api.ErrPower
	for k := 0; e != api.OK; k++ {
		w.d.Power(-1)
		if k < len(b) && k < 4 {
			w.d.Power(int(b[k]) % 40)
		}
		w.v, e = Open(table, w.d, w.s.slots)
	}
	w.d.Power(-1)
	w.s = want
	if !has(w.v, w.d, want) || !bytes.Equal(w.d.Image(), room.Written(image, l)) {
		w.t.Fatalf("opened anew, there is another thing than %v", want)
	}
}

// do does a transaction with power for some sectors, and opens it anew, if it fails.
func (w *walk) do(self api.Super, puts []api.Record, drops []index.Key, power int, b []byte) {
	steps, want := w.s.do(self, puts, drops)
	w.d.Power(power)
	e := w.v.Do(self, puts, drops)
	image := w.s.image(w.d.Size())
	for _, one := range steps {
		writes := room.JournalWrites(one.l)
		if 0 <= power && power < len(writes) {
			if e != api.ErrPower || !w.d.Dead() || !isKnown(w.v, w.s) {
				w.t.Fatalf("Do of %v, %v and %v with power that fails: %d", self, puts, drops, e)
			}
			if power >= len(room.ChangesSectors(one.l)) {
				image = room.Written(image, one.l)
			}
			w.reopen(image, b)
			return
		}
		w.s, image = one.behind, room.Written(image, one.l)
		if power >= 0 {
			power -= len(writes)
		}
	}
	if w.d.Power(-1); e != want || !has(w.v, w.d, w.s) {
		w.t.Fatalf("Do of %v, %v and %v: %d, want %d, or there is another thing than %v", self, puts, drops, e, want, w.s)
	}
}

// rot turns bits of a slot, and finds that out.
func (w *walk) rot(slot, bit int, mask uint32, b []byte) {
	w.d.Rot(firstSlot+slot, bit, mask)
	if image := w.d.Image(); b[0]%3 == 0 {
		w.reopen(image, b[1:])
		return
	}
	behind := w.s.doubted()
	is := slices.IndexFunc(w.s.all, func(one lies) bool { return one.at <= slot && slot < one.at+count(one.r) })
	if is >= 0 {
		behind = behind.without(key(w.s.all[is].r))
	}
	if b[0]%3 == 1 && is >= 0 {
		if _, e := w.v.Get(key(w.s.all[is].r)); e != api.ErrSum {
			w.t.Fatalf("Get of %v, with bits turned: %d", w.s.all[is], e)
		}
	} else if n, e := w.v.Scrub(); n != 1 || e != api.OK {
		w.t.Fatalf("Scrub with bits of slot %d turned: %d, %d", slot, n, e)
	}
	if w.s = behind; !has(w.v, w.d, w.s) {
		w.t.Fatalf("behind bits of slot %d turned there is another thing than %v", slot, w.s)
	}
}

// step does one thing, which hangs on the bytes.
func (w *walk) step(b []byte) {
	self := room.Sound(int(b[1]), int(b[1])*int(b[2])/256)
	if b[0]%8 == 0 {
		w.rot(int(b[1])%w.s.slots, int(b[2])*2+int(b[3]%2), uint32(b[4])<<some(b[5], 0, 5, 24)|1, b[6:])
		return
	}
	var puts []api.Record
	var drops []index.Key
	met := map[index.Key]int{}
	for k := range int(b[3]) % 4 {
		r := rec(some(b[4+k], "a", "b", "c", "d-1", "e"), 1+int(b[8+k])%6, int(b[12+k]))
		if met[key(r)]++; met[key(r)] == 1 {
			puts = append(puts, r)
		}
	}
	for k := range int(b[16]) % 3 {
		key := index.Key{Name: some(b[17+k], "a", "b", "c", "d-1", "f"), Role: int(b[19+k]) % 3}
		if met[key]++; met[key] == 1 {
			drops = append(drops, key)
		}
	}
	power := -1
	if b[21]%2 == 0 {
		power = int(b[22]) % some(b[23], 10, 40, 100)
	}
	w.do(self, puts, drops, power, b[24:])
}

func TestManyStepsWhereverThePowerFails(t *testing.T) {
	for seed := range 150 {
		slots := some(byte(seed), 1, 2, 5, 8, 12, 16, 20, 40, 256)
		w := &walk{t: t, d: disk.New(firstSlot + slots + seed%3), s: state{slots: slots}}
		w.reopen(w.d.Image(), nil)
		for k := range 60 {
			w.step(room.Some(40, 1000*seed+k))
		}
	}
}

func TestNothingIsDamagedByPowerThatFailsAgainAndAgain(t *testing.T) {
	s := state{room.Sound(5, 3), 6, []lies{{1, live("b", 1, 1)}, {3, live("a", 2, 1)}}}
	puts := []api.Record{live("c", 3, 1)}
	steps, _ := s.do(room.Sound(6, 3), puts, nil)
	may := []state{s}
	for _, one := range steps {
		may = append(may, one.behind)
	}
	for power := range 120 {
		for again := range 25 {
			v, d := volumeOf(t, s)
			d.Power(power)
			v.Do(room.Sound(6, 3), puts, nil)
			d.Power(again)
			Open(table, d, 6)
			d.Power(2)
			Open(table, d, 6)
			d.Power(-1)
			w, e := Open(table, d, 6)
			if e != api.OK || !slices.ContainsFunc(may, func(one state) bool { return has(w, d, one) }) {
				t.Fatalf("opened anew, when the power failed at %d sectors, and at %d: %d, or there is another thing", power, again, e)
			}
		}
	}
}

func TestAnyBitsNearOneAnother(t *testing.T) {
	s := state{room.Sound(5, 3), 7, []lies{{0, live("b", 2, 1)}, {3, live("a", 1, 1)}, {4, live("c", 2, 3)}}}
	v, d := volumeOf(t, s)
	for slot := range 7 {
		is := slices.IndexFunc(s.all, func(one lies) bool { return one.at <= slot && slot < one.at+count(one.r) })
		for bit := range 512 {
			for _, mask := range []uint32{1, 3, 1 << 31, 1<<31 | 1, math.MaxUint32, 0x80000100 | uint32(bit)} {
				d.Rot(firstSlot+slot, bit, mask)
				if bytes.Equal(d.Image(), s.image(d.Size())) { // there are no such bits
					continue
				}
				for i, one := range s.all {
					if _, e := v.Get(key(one.r)); i != is && e != api.OK || i == is && e != api.ErrSum {
						t.Fatalf("Get of %v with the bits %b of slot %d from %d on turned: %d", one, mask, slot, bit, e)
					}
				}
				n, e := v.Scrub()
				if want := (state{room.Suspect(5, 5), 7, s.all}); is >= 0 && (n != 0 || !has(v, d, want.without(key(s.all[is].r)))) || is < 0 && (n != 1 || !has(v, d, want)) || e != api.OK {
					t.Fatalf("behind the bits %b of slot %d from %d on turned there is another thing", mask, slot, bit)
				}
				v, d = unlooked(s)
			}
		}
	}
}

// unlooked tells a volume that has what there is, as volumeOf does, but is not looked at.
func unlooked(s state) (*Volume, *disk.Disk) {
	d := diskOf(s.image(firstSlot + s.slots))
	v, _ := Open(table, d, s.slots)
	return v, d
}

// The rules that hold everywhere, of each call.

func TestWhatIsHandedInIsNotChangedAndNotKept(t *testing.T) {
	for seed := range 40 {
		s := state{room.Sound(5, 3), 9, []lies{{1, live("a", 2, 1)}}}
		puts := []api.Record{live("b", 1+seed%6, 1), rec("c", 2, seed), gone("d", 1)}
		var before []api.Record
		var unchanged []func() bool
		for k := range puts {
			list, same := room.Of(puts[k].Share...)
			one := puts[k]
			one.Share = bytes.Clone(list)
			before = append(before, one)
			puts[k].Share = list
			unchanged = append(unchanged, same)
		}
		drops, same := room.Marked([]index.Key{{Name: "a"}, {Name: "z", Role: 3}}, index.Key{Name: "spare"}, index.Key{Role: 9})
		unchanged = append(unchanged, same)
		own := append(puts, live("spare", 1, 1))[:3]
		v, d := volumeOf(t, s)
		if seed%3 == 0 {
			d.Power(seed)
		}
		e := v.Do(room.Sound(6, 3), own, drops)
		for _, same := range unchanged {
			if !same() {
				t.Errorf("seed %d: what was handed in, or its spare room, was changed", seed)
			}
		}
		if !slices.EqualFunc(own, before, room.SameRecord) || own[:4][3].Name != "spare" {
			t.Errorf("seed %d: the records, or their spare room, were changed", seed)
		}
		for k := range own {
			room.Shared(own[k].Share) // which writes over it
			own[k] = live("other", 1, 1)
		}
		drops[0].Name, drops[1].Name = "b", "c"
		if e != api.OK {
			continue
		}
		for _, r := range before {
			if got, e := v.Get(key(r)); e != api.OK || !room.SameRecord(got, r) {
				t.Errorf("seed %d: Get of %v: %v, %d: what was handed in is kept", seed, r, got, e)
			}
		}
	}
}

func TestAnswersAreNewMemory(t *testing.T) {
	s := state{room.Sound(5, 3), 12, []lies{{0, live("b", 6, 1)}, {6, live("a", 2, 1)}, {8, rec("a", 2, 1)}}}
	v, d := volumeOf(t, s)
	for range 3 {
		var shares [][]byte
		for _, one := range append(s.all, s.all...) {
			r, _ := v.Get(key(one.r))
			shares = append(shares, r.Share)
		}
		if k := room.Shared(shares...); k >= 0 {
			t.Errorf("Get: the share of answer %d shares memory with one ahead of it", k)
		}
		names, keys := v.Names(), v.Keys()
		for k := range names[:cap(names)] {
			names[:cap(names)][k] = "other"
		}
		for k := range keys[:cap(keys)] {
			keys[:cap(keys)][k] = index.Key{Name: "other"}
		}
		if !has(v, d, s) {
			t.Error("what was handed out is the volume's own")
		}
	}
	names, keys := v.Names(), v.Keys()
	one, _ := v.Get(index.Key{Name: "b"})
	v.Do(room.Sound(6, 3), []api.Record{live("0", 1, 1), live("b", 2, 2)}, []index.Key{{Name: "a"}})
	if !slices.Equal(names, s.names()) || !slices.Equal(keys, s.keys()) || !room.SameRecord(one, s.all[0].r) {
		t.Error("what was handed out has changed")
	}
}

func TestAnswersHangOnTheDiskAlone(t *testing.T) {
	before := *table
	for seed := range 20 {
		a, b := disk.New(60), disk.New(60)
		v, _ := Open(table, a, 20)
		w, _ := Open(crc.New(), b, 20)
		for k := range 30 {
			one := room.Some(8, 100*seed+k)
			r := rec(some(one[0], "a", "b", "c"), 1+int(one[1])%6, int(one[2]))
			drops := []index.Key{{Name: some(one[3], "d", "a-"), Role: int(one[4]) % 3}}
			if one[5]%5 == 0 {
				drops[0] = index.Key{Name: some(one[3], "d", "a"), Role: 4}
				a.Rot(firstSlot+int(one[6])%20, int(one[7]), 5)
				b.Rot(firstSlot+int(one[6])%20, int(one[7]), 5)
			}
			d, e := v.Do(room.Sound(k+1, k), []api.Record{r}, drops), w.Do(room.Sound(k+1, k), []api.Record{r}, drops)
			m, f := v.Scrub()
			n, g := w.Scrub()
			if d != e || m != n || f != g || !bytes.Equal(a.Image(), b.Image()) || v.Super() != w.Super() || !slices.Equal(v.Keys(), w.Keys()) {
				t.Fatalf("seed %d, step %d: two volumes to which the same was done are unlike", seed, k)
			}
			if k%7 == 3 { // one of them opened anew
				w, _ = Open(table, b, 20)
			}
		}
	}
	if *table != before {
		t.Error("the table was changed")
	}
}

func TestTwoVolumesAreApart(t *testing.T) {
	s := state{room.Sound(5, 3), 5, []lies{{1, live("a", 2, 1)}}}
	v, d := volumeOf(t, s)
	w, c := volumeOf(t, s)
	v.Do(room.Sound(9, 9), []api.Record{live("b", 2, 1)}, []index.Key{{Name: "a"}})
	d.Power(0)
	v.Do(room.Sound(10, 9), nil, nil)
	if !has(w, c, s) || w.Do(room.Sound(6, 3), nil, nil) != api.OK {
		t.Error("a volume hangs on another one")
	}
}
