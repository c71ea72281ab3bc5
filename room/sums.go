package room

import (
	"bytes"
	"math"
	"slices"

	"sherd/api"
)

// Sum tells the sum of 32 bits by its words, bit by bit.
func Sum(b []byte) uint32 {
	rest := uint32(math.MaxUint32)
	for place := range 8 * len(b) {
		turned := rest&1 != uint32(b[place/8]>>(place%8)&1)
		rest >>= 1
		if turned {
			rest ^= 0xEDB88320
		}
	}
	return rest ^ math.MaxUint32
}

// Filled tells bytes, bytes 0 behind them up to the sixtieth, and a sum.
func Filled(payload []byte, sum ...byte) []byte {
	return slices.Concat(payload, make([]byte, api.Payload-len(payload)), sum)
}

// WithSum tells bytes, and their sum by its words behind them, the lowest byte first.
func WithSum(b []byte) []byte {
	sum := Sum(b)
	return slices.Concat(b, []byte{byte(sum), byte(sum >> 8), byte(sum >> 16), byte(sum >> 24)})
}

// Sealed tells a sealed sector by its words: a payload, bytes 0 up to the sixtieth, and their sum.
func Sealed(payload []byte) []byte {
	return WithSum(Filled(payload))
}

// AllSealed tells the sealed sectors of payloads.
func AllSealed(payloads [][]byte) [][]byte {
	var all [][]byte
	for _, payload := range payloads {
		all = append(all, Sealed(payload))
	}
	return all
}

// NoSectors tells lists that are no sector, clear ones and others that are not sealed, and sealed ones that say nothing.
func NoSectors() [][]byte {
	return [][]byte{nil, {}, {0}, {106}, {98}, {72}, {66}, make([]byte, 63), make([]byte, 64), make([]byte, 65), bytes.Repeat([]byte{255}, 64), Some(64, 1), Sealed(nil), Sealed([]byte{106}), Sealed([]byte{98}), Sealed([]byte{83, 1}), Sealed([]byte{72}), Sealed([]byte{66}), Some(1000, 1)}
}
