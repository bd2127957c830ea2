// Package pack has several numbers in one word: see ../../shared/DOC.md and doc/02-pack.md.
package pack

import "ganglion/api"

// The widths of a word, and of the parts of refs, rings and entries.
const (
	wordBits  = 64
	slotBits  = 13
	genBits   = 40
	levelBits = 3
)

// Fields has the bits of w in parts of these widths, the lowest first.
func Fields(w uint64, widths ...int) ([]uint64, api.Errno) {
	if why := checkWidths(widths); why != api.OK {
		return nil, why
	}
	l := make([]uint64, len(widths))
	for i, width := range widths {
		l[i] = w & greatest(width)
		w >>= width
	}
	return l, api.OK
}

// Join is the word whose parts of these widths are the numbers of l, the lowest first.
func Join(l []uint64, widths ...int) (uint64, api.Errno) {
	if why := checkWidths(widths); why != api.OK {
		return 0, why
	}
	if len(l) != len(widths) {
		return 0, api.ErrForm
	}
	w, place := uint64(0), 0
	for i, width := range widths {
		if l[i] > greatest(width) {
			return 0, api.ErrRange
		}
		w |= l[i] << place
		place += width
	}
	return w, api.OK
}

// PutRef is the word of a ref.
func PutRef(r api.Ref) (uint64, api.Errno) {
	if !isSlot(r.Slot) {
		return 0, api.ErrRange
	}
	// A Gen below 0 becomes a number that is too great for its part.
	return Join([]uint64{uint64(r.Slot), uint64(r.Gen)}, slotBits, genBits)
}

// Ref is the ref whose word is w.
func Ref(w uint64) (api.Ref, api.Errno) {
	l, _ := Fields(w, slotBits, genBits)
	r := api.Ref{Slot: int(l[0]), Gen: int(l[1])}
	if back, why := PutRef(r); why != api.OK || back != w {
		return api.Ref{}, api.ErrRange
	}
	return r, api.OK
}

// PutRing is the word of a slot's places in the ring; -1 is none.
func PutRing(next, prev int) (uint64, api.Errno) {
	if next != -1 && !isSlot(next) || prev != -1 && !isSlot(prev) {
		return 0, api.ErrRange
	}
	return Join([]uint64{uint64(next + 1), uint64(prev + 1)}, slotBits, slotBits)
}

// Ring is the Next and the Prev whose word is w.
func Ring(w uint64) (int, int, api.Errno) {
	l, _ := Fields(w, slotBits, slotBits)
	next, prev := int(l[0])-1, int(l[1])-1
	if back, why := PutRing(next, prev); why != api.OK || back != w {
		return 0, 0, api.ErrRange
	}
	return next, prev, api.OK
}

// PutEntry is the word of an entry.
func PutEntry(slot, level int) (uint64, api.Errno) {
	if !isSlot(slot) || level < 0 || level > api.MaxLevel {
		return 0, api.ErrRange
	}
	return Join([]uint64{uint64(slot), uint64(level)}, slotBits, levelBits)
}

// Entry is the slot and the level of the entry whose word is w.
func Entry(w uint64) (int, int, api.Errno) {
	l, _ := Fields(w, slotBits, levelBits)
	slot, level := int(l[0]), int(l[1])
	if back, why := PutEntry(slot, level); why != api.OK || back != w {
		return 0, 0, api.ErrRange
	}
	return slot, level, api.OK
}

// Zig lays numbers of either sign out from 0 on, those near 0 first.
func Zig(n int64) uint64 {
	return uint64(n<<1) ^ uint64(n>>63)
}

// Zag is the number whose Zig is u.
func Zag(u uint64) int64 {
	return int64(u>>1) ^ -int64(u&1)
}

// checkWidths tells whether the widths fit side by side into a word.
func checkWidths(widths []int) api.Errno {
	left := wordBits
	for _, width := range widths {
		if width < 1 || width > left {
			return api.ErrRange
		}
		left -= width
	}
	return api.OK
}

// greatest is the greatest number of so many bits.
func greatest(width int) uint64 {
	return 1<<width - 1
}

// isSlot tells whether n may be a slot, or the ring's head.
func isSlot(n int) bool {
	return n >= 0 && n <= api.MaxCap
}
