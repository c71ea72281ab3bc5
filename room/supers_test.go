package room

import (
	"bytes"
	"encoding/binary"
	"hash/crc32"
	"testing"

	"sherd/api"
	"sherd/super"
)

func TestSoundAndSuspect(t *testing.T) {
	if s := Sound(5, 3); s != (api.Super{Fence: 5, Dealt: 3, State: 1}) {
		t.Errorf("Sound: %v", s)
	}
	if s := Suspect(5, 3); s != (api.Super{Fence: 5, Dealt: 3, State: 2}) {
		t.Errorf("Suspect: %v", s)
	}
}

func TestRightSupersMayBe(t *testing.T) {
	all := RightSupers()
	if all[0] != (api.Super{}) {
		t.Errorf("RightSupers: %v is the first one", all[0])
	}
	met := map[api.Super]int{}
	for k, s := range all {
		met[s]++
		if met[s] > 1 || k > 0 && (s.State != 1 && s.State != 2 || s.Dealt < 0 || s.Dealt > s.Fence || s.Fence > 1<<32-1) || !super.Right(s) {
			t.Errorf("RightSupers: %v", s)
		}
	}
	for _, s := range []api.Super{Sound(0, 0), Suspect(0, 0), Sound(1<<32-1, 0), Suspect(1<<32-1, 1<<32-1), Sound(258, 3)} {
		if met[s] == 0 {
			t.Errorf("RightSupers: no %v", s)
		}
	}
}

func TestWrongSupersMayNotBe(t *testing.T) {
	met := map[api.Super]int{}
	for _, s := range WrongSupers() {
		met[s]++
		if super.Right(s) || (s.State == 1 || s.State == 2) && 0 <= s.Dealt && s.Dealt <= s.Fence && s.Fence <= 1<<32-1 {
			t.Errorf("WrongSupers: %v", s)
		}
	}
	for _, s := range []api.Super{{Fence: 1}, {Fence: 256, Dealt: 3}, {Fence: 256, Dealt: 3, State: 3}, Sound(0, 1), Suspect(3, 256), Sound(1<<32, 0), Suspect(1<<32, 1<<32), Sound(256, -1), Suspect(-1, -1)} {
		if met[s] == 0 {
			t.Errorf("WrongSupers: no %v", s)
		}
	}
}

func TestSuperSector(t *testing.T) {
	for _, s := range RightSupers() {
		want := make([]byte, 64)
		if s != (api.Super{}) {
			want[0], want[1] = 83, byte(s.State)
			binary.BigEndian.PutUint32(want[2:], uint32(s.Fence))
			binary.BigEndian.PutUint32(want[6:], uint32(s.Dealt))
			binary.LittleEndian.PutUint32(want[60:], crc32.ChecksumIEEE(want[:60]))
		}
		if got := SuperSector(s); !bytes.Equal(got, want) || Shared(got, SuperSector(s)) != -1 {
			t.Errorf("SuperSector of %v: %v, want %v, and one of its own", s, got, want)
		}
	}
}
