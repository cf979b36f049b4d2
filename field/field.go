// Package field packs numbers into words: heads of pools, states of towers, descriptors (layer 1, doc/01-field.md).
package field

import (
	"leapfrog/api"
)

const (
	kindBits = 3  // a state word has its entry from this bit on
	lowBits  = 16 // a head has its tag, and a state word its generation, from this bit on

	kindMask = 1<<kindBits - 1
	lowMask  = 1<<lowBits - 1
)

// Top returns the head of a pool with a tag and a tower (0: none).
func Top(tag uint64, tower int) (uint64, api.Errno) {
	if tag > api.MaxTag || tower < 0 || tower > api.MaxTowers {
		return 0, api.ErrArg
	}
	return uint64(tower) | tag<<lowBits, api.OK
}

// Tag returns the tag of a head.
func Tag(w uint64) uint64 {
	return w >> lowBits
}

// Tower returns the tower of a head.
func Tower(w uint64) int {
	return int(w & lowMask)
}

// State returns a state word.
func State(kind uint8, entry int, gen uint64) (uint64, api.Errno) {
	if !isState(kind, entry, gen) {
		return 0, api.ErrArg
	}
	return uint64(kind) | uint64(entry)<<kindBits | gen<<lowBits, api.OK
}

// isState reports whether there is a state word with these parts.
func isState(kind uint8, entry int, gen uint64) bool {
	switch kind {
	case api.StLinking, api.StLive, api.StDead:
		return entry == 0 && gen == 0
	case api.StBorn, api.StGone, api.StSwap:
		return 0 <= entry && entry < api.MaxLocks && gen <= api.MaxGen
	}
	return false
}

// Check returns an error unless w is a state word.
func Check(w uint64) api.Errno {
	// The three parts cover all bits of w, so that it has no bits to check beside them.
	if !isState(Kind(w), Entry(w), Gen(w)) {
		return api.ErrForm
	}
	return api.OK
}

// Kind returns the kind of a state word.
func Kind(w uint64) uint8 {
	return uint8(w & kindMask)
}

// Entry returns the entry of a state word.
func Entry(w uint64) int {
	return int((w & lowMask) >> kindBits)
}

// Gen returns the generation of a state word.
func Gen(w uint64) uint64 {
	return w >> lowBits
}

// Desc returns a descriptor.
func Desc(gen uint64, committed bool) (uint64, api.Errno) {
	if gen > api.MaxGen {
		return 0, api.ErrArg
	}
	w := gen << 1
	if committed {
		w++
	}
	return w, api.OK
}

// DescGen returns the generation of a descriptor.
func DescGen(w uint64) uint64 {
	return w >> 1
}

// Committed reports whether a descriptor is committed.
func Committed(w uint64) bool {
	return w&1 == 1
}

// Decide returns what a state word says, given the descriptor of its entry: whether the tower is in the map, and whether its alternative value counts.
func Decide(state, desc uint64) (present, alt bool, e api.Errno) {
	if Check(state) != api.OK || DescGen(desc) > api.MaxGen {
		return false, false, api.ErrForm
	}
	// A descriptor moves on to another generation only after its commit, so that one with another generation decides as well.
	decided := DescGen(desc) != Gen(state) || Committed(desc)
	switch Kind(state) {
	case api.StSwap:
		alt = decided
		fallthrough
	case api.StLive:
		present = true
	case api.StBorn:
		present = decided
	case api.StGone:
		present = !decided
	}
	return present, alt, api.OK
}
