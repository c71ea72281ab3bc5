package index

import (
	"bytes"
	"math"
	"slices"
	"testing"

	"sherd/room"
)

// entry tells one of a key.
func entry(name string, role, at, n int) Entry {
	return Entry{Key: Key{Name: name, Role: role}, At: at, N: n}
}

// table is entries in the order in which they were put, by the words alone.
type table []Entry

// find tells the entry of a key, and whether there is one.
func (t table) find(k Key) (Entry, bool) {
	for _, e := range t {
		if e.Key == k {
			return e, true
		}
	}
	return Entry{}, false
}

// without tells the entries that are not of a key.
func (t table) without(k Key) table {
	return slices.DeleteFunc(slices.Clone(t), func(e Entry) bool { return e.Key == k })
}

// with tells the entries, one of which is e, and none other of its key.
func (t table) with(e Entry) table {
	return append(t.without(e.Key), e)
}

// less tells whether a key is less than another one, by the document's words.
func less(a, b Key) bool {
	if order := bytes.Compare([]byte(a.Name), []byte(b.Name)); order != 0 {
		return order < 0
	}
	return a.Role < b.Role
}

// rising tells the entries, each put behind those whose keys are less.
func (t table) rising() []Entry {
	var all []Entry
	for _, e := range t {
		place := 0
		for place < len(all) && less(all[place].Key, e.Key) {
			place++
		}
		all = slices.Insert(all, place, e)
	}
	return all
}

// names tells the names of the entries, each once, rising.
func (t table) names() []string {
	var all []string
	for _, e := range t.rising() {
		if !slices.Contains(all, e.Name) {
			all = append(all, e.Name)
		}
	}
	return all
}

// roles tells some roles: the ones of records, those about them, and those at the ends of int's range.
func roles() []int {
	all := append(room.Ends(), 0, 1, 2, 3, -1, -2, 7, 255, 256, 1<<32, 1<<32+1, math.MaxInt-1, math.MinInt+1)
	slices.Sort(all)
	return slices.Compact(all)
}

// texts tells names, and texts that are none, each once.
func texts() []string {
	all := append(room.Names(), room.WrongNames()...)
	slices.Sort(all)
	return slices.Compact(all)
}

// keys tells many keys, each once.
func keys() []Key {
	var all []Key
	for k, name := range texts() {
		all = append(all, Key{name, 0}, Key{name, 1}, Key{name, 2})
		if role := roles()[k%len(roles())]; role < 0 || role > 2 {
			all = append(all, Key{name, role})
		}
	}
	return all
}

// few tells a few keys that are near one another, each once.
func few() []Key {
	var all []Key
	for _, name := range []string{"", "a", "a-", "a0", "aa", "b", "\xff"} {
		for _, role := range []int{math.MinInt, -1, 0, 1, 2, math.MaxInt} {
			all = append(all, Key{name, role})
		}
	}
	return all
}

// mixed tells entries of some keys in an order that hangs on seed alone, with runs that are unlike.
func mixed(keys []Key, seed int) table {
	var all table
	b := room.Some(2*len(keys), seed)
	for i, k := range keys {
		place := (int(b[2*i])*256 + int(b[2*i+1])) % (i + 1)
		all = slices.Insert(all, place, Entry{k, 10*i + seed, i + 1})
	}
	return all
}

// holding makes an index of some entries, one by one.
func holding(t *testing.T, all table) *Index {
	x := New()
	for _, e := range all {
		if was, ok := x.Put(e); ok || was != (Entry{}) {
			t.Fatalf("Put of %v, the first one of its key: %v, %t", e, was, ok)
		}
	}
	return x
}

// isTable tells whether an index has these entries, by all that it tells of some keys.
func isTable(x *Index, all table, keys []Key) bool {
	for _, k := range keys {
		want, there := all.find(k)
		if e, ok := x.Find(k); e != want || ok != there {
			return false
		}
	}
	return slices.Equal(x.All(), all.rising()) && slices.Equal(x.Names(), all.names())
}

// P22.1

func TestNewHasNoEntry(t *testing.T) {
	x := New()
	if !isTable(x, nil, keys()) {
		t.Errorf("New: entries %v, names %q", x.All(), x.Names())
	}
	for _, k := range keys() {
		if was, ok := x.Drop(k); ok || was != (Entry{}) {
			t.Errorf("Drop of %v of a new one: %v, %t", k, was, ok)
		}
	}
}

func TestPutOfEachKey(t *testing.T) {
	for i, k := range keys() {
		x, e, again := New(), Entry{k, i, 2 * i}, Entry{k, -i, 7}
		if was, ok := x.Put(e); ok || was != (Entry{}) || !isTable(x, table{e}, []Key{k}) {
			t.Errorf("Put of %v: %v, %t, and the entries %v", e, was, ok, x.All())
		}
		if was, ok := x.Put(again); !ok || was != e || !isTable(x, table{again}, []Key{k}) {
			t.Errorf("Put of %v behind %v: %v, %t, and the entries %v", again, e, was, ok, x.All())
		}
	}
}

func TestPutOfTheSameEntryAgain(t *testing.T) {
	x, e := New(), entry("a", 1, 3, 2)
	x.Put(e)
	for range 3 {
		if was, ok := x.Put(e); !ok || was != e || !isTable(x, table{e}, few()) {
			t.Errorf("Put of %v again: %v, %t, and the entries %v", e, was, ok, x.All())
		}
	}
}

func TestPutOfRunsAtTheEnds(t *testing.T) {
	for _, at := range roles() {
		for _, n := range roles() {
			x, e, zero := New(), entry("pot", 2, at, n), entry("pot", 2, 0, 0)
			x.Put(e)
			if got, ok := x.Find(e.Key); !ok || got != e {
				t.Errorf("Find behind Put of %v: %v, %t", e, got, ok)
			}
			if was, ok := x.Put(zero); !ok || was != e {
				t.Errorf("Put of %v behind %v: %v, %t", zero, e, was, ok)
			}
			if got, ok := x.Find(e.Key); !ok || got != zero { // an entry of noughts is one
				t.Errorf("Find behind Put of %v: %v, %t", zero, got, ok)
			}
			if was, ok := x.Drop(e.Key); !ok || was != zero {
				t.Errorf("Drop behind Put of %v: %v, %t", zero, was, ok)
			}
		}
	}
}

func TestTheEntryWithoutAnythingIsOne(t *testing.T) {
	x, e := New(), Entry{}
	if was, ok := x.Put(e); ok || was != e {
		t.Errorf("Put of the zero entry: %v, %t", was, ok)
	}
	if got, ok := x.Find(Key{}); !ok || got != e || len(x.All()) != 1 || !slices.Equal(x.Names(), []string{""}) {
		t.Errorf("Find of the zero entry: %v, %t, all %v, names %q", got, ok, x.All(), x.Names())
	}
	if was, ok := x.Put(e); !ok || was != e || len(x.All()) != 1 {
		t.Errorf("Put of the zero entry again: %v, %t", was, ok)
	}
	if was, ok := x.Drop(Key{}); !ok || was != e || !isTable(x, nil, few()) {
		t.Errorf("Drop of the zero entry: %v, %t", was, ok)
	}
}

func TestPutOfManyKeysInManyOrders(t *testing.T) {
	for seed := range 4 {
		all := mixed(keys(), seed)
		x := holding(t, all)
		if !isTable(x, all, keys()) {
			t.Fatalf("seed %d: other entries are there than those that were put", seed)
		}
		for _, e := range mixed(keys(), seed+100)[:60] {
			want, _ := all.find(e.Key)
			all = all.with(e)
			if was, ok := x.Put(e); !ok || was != want {
				t.Fatalf("seed %d: Put of %v again: %v, %t, want %v", seed, e, was, ok, want)
			}
		}
		if !isTable(x, all, keys()) {
			t.Errorf("seed %d: other entries are there than those that were put again", seed)
		}
	}
}

func TestDropOfManyKeysInManyOrders(t *testing.T) {
	for seed := range 4 {
		all := mixed(keys(), seed)
		x, left := holding(t, all), all
		for i, e := range mixed(keys(), seed+50) {
			want, _ := all.find(e.Key)
			if was, ok := x.Drop(e.Key); !ok || was != want {
				t.Fatalf("seed %d: Drop of %v: %v, %t, want %v", seed, e.Key, was, ok, want)
			}
			if was, ok := x.Drop(e.Key); ok || was != (Entry{}) {
				t.Fatalf("seed %d: Drop of %v again: %v, %t", seed, e.Key, was, ok)
			}
			if left = left.without(e.Key); i%60 == 0 && !isTable(x, left, keys()) {
				t.Fatalf("seed %d: other entries are left behind Drop of %d keys", seed, i+1)
			}
		}
		if !isTable(x, nil, keys()) {
			t.Errorf("seed %d: entries are left: %v", seed, x.All())
		}
	}
}

func TestFindAndDropOfKeysThatAreNotThere(t *testing.T) {
	for i, k := range few() {
		all := mixed(few(), i).without(k)
		x := holding(t, all)
		if e, ok := x.Find(k); ok || e != (Entry{}) {
			t.Errorf("Find of %v, which is not there: %v, %t", k, e, ok)
		}
		if was, ok := x.Drop(k); ok || was != (Entry{}) || !isTable(x, all, few()) {
			t.Errorf("Drop of %v, which is not there: %v, %t, or other entries are there", k, was, ok)
		}
		if was, ok := x.Put(Entry{k, 1, 1}); ok || was != (Entry{}) || !isTable(x, all.with(Entry{k, 1, 1}), few()) {
			t.Errorf("Put of %v, which is not there: %v, %t, or other entries are there", k, was, ok)
		}
	}
}

func TestKeysWithOneNameOrOneRoleAreUnlike(t *testing.T) {
	x := New()
	x.Put(entry("a", 1, 3, 2))
	for _, k := range []Key{{"a", 0}, {"a", 2}, {"a", -1}, {"a", 1 << 32}, {"a", 1<<32 + 1}, {"a", 257}, {"b", 1}, {"", 1}, {"aa", 1}, {"a\x00", 1}, {"A", 1}, {"a-", 1}, {}} {
		if e, ok := x.Find(k); ok || e != (Entry{}) {
			t.Errorf("Find of %v, where there is a alone, role 1: %v, %t", k, e, ok)
		}
		if was, ok := x.Drop(k); ok || was != (Entry{}) {
			t.Errorf("Drop of %v, where there is a alone, role 1: %v, %t", k, was, ok)
		}
	}
	if e, ok := x.Find(Key{"a", 1}); !ok || e != entry("a", 1, 3, 2) {
		t.Errorf("Find of a, role 1: %v, %t", e, ok)
	}
}

// eachWay calls check with all orders of some entries.
func eachWay(all table, check func(way table)) {
	if len(all) < 2 {
		check(all)
		return
	}
	for i, first := range all {
		eachWay(slices.Concat(all[:i], all[i+1:]), func(way table) { check(append(table{first}, way...)) })
	}
}

func TestPutInAllOrdersOfAFewKeys(t *testing.T) {
	all := table{entry("a", 0, 5, 1), entry("a", 1, 4, 2), entry("a-", 0, 9, 3), entry("", 7, 1, 1), entry("b", -1, 2, 2), entry("a", 2, 0, 4)}
	eachWay(all, func(way table) {
		if x := holding(t, way); !isTable(x, all, few()) {
			t.Errorf("Put of %v: %v, names %q", way, x.All(), x.Names())
		}
	})
}

// eachStep is what may be done to an index with three keys, and to what it is held against.
func eachStep() []func(x *Index, all table, at int) (table, bool) {
	var steps []func(x *Index, all table, at int) (table, bool)
	for _, k := range []Key{{"b", 0}, {"a", 1}, {"a", 0}} {
		steps = append(steps, func(x *Index, all table, at int) (table, bool) {
			want, there := all.find(k)
			e := Entry{k, at, 1}
			was, ok := x.Put(e)
			return all.with(e), was == want && ok == there
		}, func(x *Index, all table, at int) (table, bool) {
			want, there := all.find(k)
			was, ok := x.Drop(k)
			return all.without(k), was == want && ok == there
		})
	}
	return steps
}

func TestAllStepsWithThreeKeys(t *testing.T) {
	steps := eachStep()
	const long = 5
	ways := 1
	for range long {
		ways *= len(steps)
	}
	for way := range ways {
		x, all, ok := New(), table(nil), true
		for at, left := 1, way; at <= long; at, left = at+1, left/len(steps) {
			if all, ok = steps[left%len(steps)](x, all, at); !ok || !isTable(x, all, few()[6:18]) {
				t.Fatalf("way %d, step %d: another answer, or the entries %v, want %v", way, at, x.All(), all.rising())
			}
		}
	}
}

// P22.2

func TestAllAndNamesOfKnownEntries(t *testing.T) {
	for _, test := range []struct {
		put   table
		all   []Entry
		names []string
	}{
		{nil, nil, nil},
		{table{entry("b", 0, 1, 1), entry("a", 1, 2, 2), entry("a", 0, 4, 1)}, []Entry{entry("a", 0, 4, 1), entry("a", 1, 2, 2), entry("b", 0, 1, 1)}, []string{"a", "b"}},
		{table{entry("a-", 0, 3, 1), entry("a", 2, 7, 2)}, []Entry{entry("a", 2, 7, 2), entry("a-", 0, 3, 1)}, []string{"a", "a-"}},
		{table{entry("aa", 0, 0, 1), entry("a", 2, 1, 1), entry("a0", 0, 2, 1), entry("a-", 1, 3, 1), entry("0", 5, 4, 1)}, []Entry{entry("0", 5, 4, 1), entry("a", 2, 1, 1), entry("a-", 1, 3, 1), entry("a0", 0, 2, 1), entry("aa", 0, 0, 1)}, []string{"0", "a", "a-", "a0", "aa"}},
		{table{entry("p", 0, 9, 1), entry("p", math.MaxInt, 8, 1), entry("p", -1, 7, 1), entry("p", math.MinInt, 6, 1)}, []Entry{entry("p", math.MinInt, 6, 1), entry("p", -1, 7, 1), entry("p", 0, 9, 1), entry("p", math.MaxInt, 8, 1)}, []string{"p"}},
		{table{entry("\xff", 0, 1, 1), entry("ä", 0, 2, 1), entry("Z", 0, 3, 1), entry("z", 0, 4, 1), entry("", 0, 5, 1)}, []Entry{entry("", 0, 5, 1), entry("Z", 0, 3, 1), entry("z", 0, 4, 1), entry("ä", 0, 2, 1), entry("\xff", 0, 1, 1)}, []string{"", "Z", "z", "ä", "\xff"}},
		{table{entry("b", 0, 1, 1), entry("a", 0, 2, 1), entry("b", 1, 3, 1), entry("a", 1, 4, 1), entry("b", 2, 5, 1)}, []Entry{entry("a", 0, 2, 1), entry("a", 1, 4, 1), entry("b", 0, 1, 1), entry("b", 1, 3, 1), entry("b", 2, 5, 1)}, []string{"a", "b"}},
	} {
		x := holding(t, test.put)
		if !slices.Equal(x.All(), test.all) || !slices.Equal(x.Names(), test.names) {
			t.Errorf("of %v: All %v, want %v, Names %q, want %q", test.put, x.All(), test.all, x.Names(), test.names)
		}
	}
}

func TestAllDoesNotRiseByRuns(t *testing.T) {
	x, all := New(), table(nil)
	for i, k := range keys() { // the runs fall, as the keys rise
		e := Entry{k, 1000 - i, 500 - i}
		x.Put(e)
		all = all.with(e)
	}
	if !isTable(x, all, keys()) {
		t.Error("keys that rise, with runs that fall: All or Names tell others")
	}
}

func TestANameIsToldTillItsLastEntryIsDropped(t *testing.T) {
	x := holding(t, table{entry("a", 0, 0, 1), entry("b", 0, 1, 1), entry("b", 1, 2, 1), entry("b", 2, 3, 1), entry("c", 0, 4, 1)})
	for _, role := range []int{1, 0} {
		if x.Drop(Key{"b", role}); !slices.Equal(x.Names(), []string{"a", "b", "c"}) {
			t.Errorf("Names behind Drop of b, role %d: %q", role, x.Names())
		}
	}
	if x.Drop(Key{"b", 2}); !slices.Equal(x.Names(), []string{"a", "c"}) {
		t.Errorf("Names behind Drop of the last entry of b: %q", x.Names())
	}
}

func TestWhatIsToldChangesNothing(t *testing.T) {
	for seed := range 6 {
		all := mixed(few(), seed)[:seed*8]
		x := holding(t, all)
		for _, k := range few() {
			x.Find(k)
			x.All()
			x.Names()
			x.Copy()
		}
		if !isTable(x, all, few()) {
			t.Errorf("seed %d: other entries are there behind what is told", seed)
		}
	}
}

func TestCopyIsOneOfItsOwn(t *testing.T) {
	for seed := range 20 {
		all := mixed(few(), seed)[:2*seed+1]
		first, last := all[0].Key, all[len(all)-1].Key
		for name, do := range map[string]func(x *Index){
			"Put of the first again": func(x *Index) { x.Put(Entry{first, 777, 7}) },
			"Put of the least":       func(x *Index) { x.Put(Entry{Key{"", math.MinInt}, 777, 7}) },
			"Put of one behind all":  func(x *Index) { x.Put(entry("\xff\xff", 0, 777, 7)) },
			"Drop of the first":      func(x *Index) { x.Drop(first) },
			"Drop of all": func(x *Index) {
				for _, e := range all {
					x.Drop(e.Key)
				}
			},
			"Drop and Put": func(x *Index) {
				x.Drop(last)
				x.Put(entry("a5", 5, 777, 7))
				x.Put(Entry{first, 778, 8})
			},
		} {
			x := holding(t, all)
			c := x.Copy()
			if c == x || !isTable(c, all, few()) || !isTable(x, all, few()) {
				t.Fatalf("seed %d: Copy is itself, or has other entries", seed)
			}
			if do(c); !isTable(x, all, few()) {
				t.Errorf("seed %d: %s of a copy changed the index", seed, name)
			}
			c = x.Copy()
			if do(x); !isTable(c, all, few()) {
				t.Errorf("seed %d: %s of an index changed the copy", seed, name)
			}
		}
	}
}

func TestCopyOfOneWithoutEntries(t *testing.T) {
	x := New()
	c := x.Copy()
	if c == nil || c == x || !isTable(c, nil, few()) {
		t.Fatal("Copy of a new index is none, itself, or has entries")
	}
	if c.Put(entry("a", 0, 1, 1)); !isTable(x, nil, few()) || !isTable(c, table{entry("a", 0, 1, 1)}, few()) {
		t.Error("Put into a copy of a new index: it is not there, or in the new one")
	}
}

func TestNilIndex(t *testing.T) {
	var x *Index
	for _, k := range keys() {
		if was, ok := x.Put(Entry{k, 1, 2}); ok || was != (Entry{}) {
			t.Errorf("Put of %v into nil: %v, %t", k, was, ok)
		}
		if was, ok := x.Drop(k); ok || was != (Entry{}) {
			t.Errorf("Drop of %v of nil: %v, %t", k, was, ok)
		}
		if e, ok := x.Find(k); ok || e != (Entry{}) {
			t.Errorf("Find of %v of nil: %v, %t", k, e, ok)
		}
	}
	if len(x.All()) != 0 || len(x.Names()) != 0 || x.Copy() != nil {
		t.Errorf("of nil: All %v, Names %q, or Copy is something", x.All(), x.Names())
	}
}

// All of it, by its words.

// step does one thing to an index, and to what it is held against; which one hangs on the bytes; it tells whether their answers are alike, and the entries behind it.
func step(x *Index, all table, keys []Key, b []byte) (bool, table) {
	k := keys[(int(b[1])*256+int(b[2]))%len(keys)]
	want, there := all.find(k)
	switch b[0] % 8 {
	case 0:
		*x = *x.Copy()
		return true, all
	case 1, 2:
		e, ok := x.Find(k)
		return e == want && ok == there, all
	case 3, 4:
		was, ok := x.Drop(k)
		return was == want && ok == there, all.without(k)
	default:
		e := Entry{k, int(b[3]), int(b[4]) % 7}
		was, ok := x.Put(e)
		return was == want && ok == there, all.with(e)
	}
}

func TestManySteps(t *testing.T) {
	for seed, own := range [][]Key{few()[:3], few()[5:10], few()[10:22], few(), few(), keys()[150:200]} {
		x, all := New(), table(nil)
		for k := range 600 {
			kept, before := x.Copy(), all
			b := room.Some(5, 1000*seed+k)
			ok, behind := step(x, all, own, b)
			if !ok || !isTable(x, behind, own) {
				t.Fatalf("seed %d, step %d, %v: another answer, or other entries are there", seed, k, b)
			}
			if all = behind; !isTable(kept, before, own[:3]) {
				t.Fatalf("seed %d, step %d, %v: what was copied ahead has changed", seed, k, b)
			}
		}
	}
}

// The rules that hold everywhere, of each call.

func TestAnswersAreNewMemory(t *testing.T) {
	for seed := range 6 {
		all := mixed(few(), seed)[:7*(seed+1)]
		x := holding(t, all)
		entries, names := x.All(), x.Names()
		for i := range entries[:cap(entries)] {
			entries[:cap(entries)][i] = entry("other", 9, 9, 9)
		}
		for i := range names[:cap(names)] {
			names[:cap(names)][i] = "other"
		}
		if !isTable(x, all, few()) {
			t.Errorf("seed %d: what was handed out is the index's own", seed)
		}
		x.Put(entry("other", 8, 8, 8)) // it must not be written where the answers are
		if slices.ContainsFunc(entries, func(e Entry) bool { return e != entry("other", 9, 9, 9) }) || slices.ContainsFunc(names, func(s string) bool { return s != "other" }) {
			t.Errorf("seed %d: a later Put changed what was handed out", seed)
		}
	}
}

func TestAnswersStayWhenTheIndexIsChanged(t *testing.T) {
	for seed := range 6 {
		all := mixed(few(), seed)
		x := holding(t, all)
		entries, names := x.All(), x.Names()
		for _, e := range all {
			x.Drop(e.Key)
			x.Put(entry("x", e.At, 1, 1))
		}
		if !slices.Equal(entries, all.rising()) || !slices.Equal(names, all.names()) {
			t.Errorf("seed %d: what was handed out has changed", seed)
		}
	}
}

func TestAnswersHangOnTheEntriesAlone(t *testing.T) {
	for seed := range 10 {
		all := mixed(few(), seed)
		x, other := holding(t, all), New()
		for i, e := range all.rising() { // with others on the way, which are dropped, and put another time
			other.Put(entry("on the way", i, 0, 0))
			other.Put(Entry{e.Key, -1, -1})
			other.Put(e)
		}
		for i := range all {
			other.Drop(Key{"on the way", i})
		}
		if !slices.Equal(x.All(), other.All()) || !slices.Equal(x.Names(), other.Names()) || !isTable(other, all, few()) {
			t.Errorf("seed %d: two indexes with the same entries tell other things", seed)
		}
	}
}

func TestTwoIndexesAreApart(t *testing.T) {
	x, other := New(), New()
	if x.Put(entry("a", 0, 1, 1)); !isTable(other, nil, few()) {
		t.Error("a new index has another one's entries")
	}
	if other.Put(entry("b", 0, 2, 2)); !isTable(x, table{entry("a", 0, 1, 1)}, few()) || !isTable(New(), nil, few()) {
		t.Error("an index hangs on another one")
	}
}
