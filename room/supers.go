package room

import (
	"slices"

	"sherd/api"
)

// Sound tells what a node knows of itself that is sound, and Suspect what one that is suspect does.
func Sound(fence, dealt int) api.Super {
	return api.Super{Fence: fence, Dealt: dealt, State: api.Sound}
}

func Suspect(fence, dealt int) api.Super {
	return api.Super{Fence: fence, Dealt: dealt, State: api.Suspect}
}

// RightSupers tells much that a node may know of itself, that of what is Blank first.
func RightSupers() []api.Super {
	all := []api.Super{{}}
	for _, fence := range Ballots() {
		for _, dealt := range Ballots() {
			if dealt <= fence {
				all = append(all, Sound(fence, dealt), Suspect(fence, dealt))
			}
		}
	}
	return all
}

// WrongSupers tells much that no node may know of itself: each breaks one bound or more.
func WrongSupers() []api.Super {
	var all []api.Super
	for _, fence := range Ballots() {
		for _, dealt := range Ballots() {
			for _, state := range append(Ends(), 0, 3, 4, 83, 255, 256, 257, 258, 513, 1<<16+1, wide+1, wide+2) {
				all = append(all, api.Super{Fence: fence, Dealt: dealt, State: state})
			}
			if dealt > fence {
				all = append(all, Sound(fence, dealt), Suspect(fence, dealt))
			}
		}
	}
	for _, n := range WrongBallots() {
		for _, other := range append(WrongBallots(), Ballots()...) {
			for state := range 4 {
				all = append(all, api.Super{Fence: n, Dealt: other, State: state}, api.Super{Fence: other, Dealt: n, State: state})
			}
		}
	}
	return slices.DeleteFunc(all, func(s api.Super) bool { return s == api.Super{} })
}

// SuperSector tells the sector of what a node may know of itself by its words.
func SuperSector(s api.Super) []byte {
	if s.State == api.Blank {
		return make([]byte, api.Sector)
	}
	return Sealed(slices.Concat([]byte{83, byte(s.State)}, fourBytes(s.Fence), fourBytes(s.Dealt)))
}
