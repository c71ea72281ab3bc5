package room

import (
	"math"
	"slices"

	"sherd/api"
)

// Sum tells the sum of 32 bits by its words, bit by bit.
func Sum(b []byte) uint32 {
	rest := uint32(math.MaxUint32)
	for place := range 8 * len(b) {
		turned := rest&1 != uint32(b[place/8]>>(place%8)&1)
		rest >>= 1
		if turned {
			rest ^= 0xEDB88320
		}
	}
	return rest ^ math.MaxUint32
}

// Sealed tells a sealed sector by its words: a payload, bytes 0 up to the sixtieth, and their sum, the lowest byte first.
func Sealed(payload []byte) []byte {
	ahead := slices.Concat(payload, make([]byte, api.Payload-len(payload)))
	sum := Sum(ahead)
	return append(ahead, byte(sum), byte(sum>>8), byte(sum>>16), byte(sum>>24))
}

// AllSealed tells the sealed sectors of payloads.
func AllSealed(payloads [][]byte) [][]byte {
	var all [][]byte
	for _, payload := range payloads {
		all = append(all, Sealed(payload))
	}
	return all
}
