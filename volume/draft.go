package volume

import (
	"bytes"
	"cmp"
	"maps"
	"slices"

	"sherd/api"
	"sherd/compact"
	"sherd/crc"
	"sherd/index"
	"sherd/journal"
	"sherd/record"
	"sherd/space"
	"sherd/super"
)

// known is what is known of a disk: what the first sector says, where records lie, which ones, and which slots are free. The records are known whole, as another one of the same key may lie there, when the power failed while it was put.
type known struct {
	self    api.Super
	where   *index.Index
	records map[index.Key]api.Record
	free    *space.Space
}

// nothing is what is known of so many slots, of which none has been looked at.
func nothing(slots int) known {
	return known{where: index.New(), records: map[index.Key]api.Record{}, free: space.New(slots)}
}

// copy tells one of its own.
func (k known) copy() known {
	return known{k.self, k.where.Copy(), maps.Clone(k.records), k.free.Copy()}
}

// hold has a record lie at n slots, which are not free any more.
func (k known) hold(r api.Record, at, n int) {
	k.where.Put(index.Entry{Key: keyOf(r), At: at, N: n})
	k.records[keyOf(r)] = r
}

// draft is a transaction that is gathered: what is known behind it, the new records' sectors, and which slots become clear.
type draft struct {
	known
	laid []api.Change
	left [api.MaxSlots]bool
}

// lay lays a record's sectors at slots, which are not free any more.
func (n *draft) lay(r api.Record, at int, sectors [][]byte) {
	n.hold(r, at, len(sectors))
	for k, b := range sectors {
		n.left[at+k] = false // it may have been another record's, or its own
		n.laid = append(n.laid, api.Change{At: api.FirstSlot + at + k, Data: b})
	}
}

// drop lets the record of a key go, if there is one.
func (n *draft) drop(k index.Key) {
	e, is := n.where.Drop(k)
	if !is {
		return
	}
	delete(n.records, k)
	n.free.Give(e.At, e.N)
	for slot := e.At; slot < e.At+e.N; slot++ {
		n.left[slot] = true
	}
}

// deed is a part of what a transaction does; it tells whether there was a place for it.
type deed func(n *draft) bool

// becoming has the node know something of itself.
func becoming(s api.Super) deed {
	return func(n *draft) bool {
		n.self = s
		return true
	}
}

// doubting has the node doubted.
func doubting() deed {
	return func(n *draft) bool {
		n.self.State, n.self.Dealt = api.Suspect, n.self.Fence
		return true
	}
}

// clearing makes slots clear in which no record lies.
func clearing(slots []int) deed {
	return func(n *draft) bool {
		for _, slot := range slots {
			n.left[slot] = true
		}
		return true
	}
}

// dropping lets the record of a key go, if there is one.
func dropping(k index.Key) deed {
	return func(n *draft) bool {
		n.drop(k)
		return true
	}
}

// putting puts a record where there is a place for it; none of its key is there.
func putting(t *crc.Table, r api.Record) deed {
	return func(n *draft) bool {
		sectors, _ := record.Put(t, r)
		at, is := n.free.Take(len(sectors))
		if is {
			r.Share = bytes.Clone(r.Share) // it was handed in
			n.lay(r, at, sectors)
		}
		return is
	}
}

// moving moves the record of a key, whose sectors are told, to slots that are free, or its own.
func moving(k index.Key, to int, sectors [][]byte) deed {
	return func(n *draft) bool {
		r := n.records[k]
		n.drop(k)
		is := n.free.Use(to, len(sectors))
		if is {
			n.lay(r, to, sectors)
		}
		return is
	}
}

// mend makes clear what is damaged, and has the node doubted.
func mend(do func(deeds ...deed) api.Errno, damaged deed) api.Errno {
	return do(damaged, doubting())
}

// together moves all records, so that they lie one behind the other, each by a transaction of its own.
func together(all []index.Entry, read func(at, n int) [][]byte, do func(deeds ...deed) api.Errno) api.Errno {
	byAt := func(a, b index.Entry) int { return cmp.Compare(a.At, b.At) }
	keys := map[int]index.Key{}
	var runs []compact.Run
	for _, e := range slices.SortedFunc(slices.Values(all), byAt) {
		keys[e.At] = e.Key
		runs = append(runs, compact.Run{At: e.At, N: e.N})
	}
	for _, m := range compact.Moves(runs) {
		sectors := read(m.From, m.N) // as they lie there: what is damaged stays so, till it is asked for, and told
		if e := do(moving(keys[m.From], m.To, sectors)); e != api.OK {
			return e
		}
	}
	return api.OK
}

// gathered gathers a transaction; false: there is no place for a part of it.
func (v *Volume) gathered(deeds ...deed) (*draft, bool) {
	n := &draft{known: v.known.copy()}
	for _, do := range deeds {
		if !do(n) {
			return nil, false
		}
	}
	return n, true
}

// transact gathers a transaction, and does it.
func (v *Volume) transact(deeds ...deed) api.Errno {
	n, placed := v.gathered(deeds...)
	if !placed {
		return api.ErrFull
	}
	return v.done(n)
}

// done does a transaction; what is known is what was known ahead of it, if it can't.
func (v *Volume) done(n *draft) api.Errno {
	e := journal.Do(v.t, v.target, v.changes(n))
	switch {
	case e == api.OK && v.target != v.d: // there was nothing to change, but what is on the disk may be another thing
		return api.ErrPower
	case e == api.ErrPower:
		v.target = v.target.Copy()
	case e == api.OK:
		v.known = n.known
	}
	return e
}

// changes tells what a transaction changes.
func (v *Volume) changes(n *draft) []api.Change {
	var l []api.Change
	change := func(at int, b []byte) { l = append(l, api.Change{At: at, Data: b}) }
	if was, says := super.Get(v.t, v.d.Read(selfAt)); !says || was != n.self {
		change(selfAt, super.Put(v.t, n.self))
	}
	l = append(l, n.laid...)
	for slot, left := range n.left {
		if left {
			change(api.FirstSlot+slot, nil)
		}
	}
	return l
}
