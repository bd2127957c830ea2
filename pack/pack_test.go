package pack

import (
	"math"
	"slices"
	"testing"

	"ganglion/api"
)

// draws tells numbers that look like chance, the same ones each time.
type draws uint64

func (d *draws) next() uint64 {
	*d = *d*6364136223846793005 + 1442695040888963407
	return uint64(*d >> 32)
}

func (d *draws) word() uint64 { return d.next()<<32 ^ d.next() }

// someWidths has widths that fit into a word, some of them up to its last bit.
func someWidths(d *draws) []int {
	var widths []int
	for left := 64; left > 0 && d.next()%8 != 0; {
		width := 1 + int(d.next()%uint64(left))
		widths = append(widths, width)
		left -= width
	}
	return widths
}

const allBits = math.MaxUint64

// The widths that may not be, and the two ways in which they may not.
var wrongWidths = [][]int{
	{0}, {-1}, {65}, {math.MaxInt}, {math.MinInt}, {4, 0}, {4, 8, -8}, {64, 1}, {60, 5}, {1, 64}, {32, 32, 1},
	{math.MaxInt, math.MaxInt, 2}, {0, 64}, {33, 32}, slices.Repeat([]int{1}, 65),
}

// 2.1: the parts of a word, the lowest first.
func TestFields(t *testing.T) {
	for _, c := range []struct {
		w      uint64
		widths []int
		want   []uint64
	}{
		{0x1234, []int{4, 8}, []uint64{4, 0x23}},
		{0x1234, nil, nil},
		{allBits, []int{64}, []uint64{allBits}},
		{allBits, []int{1, 63}, []uint64{1, 1<<63 - 1}},
		{allBits, []int{63, 1}, []uint64{1<<63 - 1, 1}},
		{1 << 63, []int{63, 1}, []uint64{0, 1}},
		{1 << 63, []int{63}, []uint64{0}},
		{0x123456789abcdef0, []int{32, 32}, []uint64{0x9abcdef0, 0x12345678}},
		{5, []int{1, 1, 1, 1}, []uint64{1, 0, 1, 0}},
		{allBits, slices.Repeat([]int{1}, 64), slices.Repeat([]uint64{1}, 64)},
	} {
		got, why := Fields(c.w, c.widths...)
		if why != api.OK || !slices.Equal(got, c.want) {
			t.Errorf("Fields(%#x, %v) = %v, %v", c.w, c.widths, got, why)
		}
	}
}

// 2.1: the word of parts; the bits that are left are 0.
func TestJoin(t *testing.T) {
	for _, c := range []struct {
		l      []uint64
		widths []int
		want   uint64
	}{
		{[]uint64{4, 0x23}, []int{4, 8}, 0x234},
		{nil, nil, 0},
		{[]uint64{allBits}, []int{64}, allBits},
		{[]uint64{1, 1<<63 - 1}, []int{1, 63}, allBits},
		{[]uint64{0, 1}, []int{63, 1}, 1 << 63},
		{[]uint64{15, 255}, []int{4, 8}, 0xfff},
		{[]uint64{0x9abcdef0, 0x12345678}, []int{32, 32}, 0x123456789abcdef0},
	} {
		got, why := Join(c.l, c.widths...)
		if why != api.OK || got != c.want {
			t.Errorf("Join(%v, %v) = %#x, %v", c.l, c.widths, got, why)
		}
	}
}

// 2.1: widths that may not be, whatever else is wrong.
func TestWrongWidths(t *testing.T) {
	for _, widths := range wrongWidths {
		if l, why := Fields(allBits, widths...); len(l) != 0 || why != api.ErrRange {
			t.Errorf("Fields of widths %v: %v, %v", widths, l, why)
		}
		for _, n := range []int{len(widths), 0, len(widths) + 1} {
			if w, why := Join(slices.Repeat([]uint64{1}, n), widths...); w != 0 || why != api.ErrRange {
				t.Errorf("Join of %d numbers, widths %v: %v, %v", n, widths, w, why)
			}
		}
	}
}

// 2.1: as many numbers as widths, ahead of numbers that fit.
func TestWrongNumbers(t *testing.T) {
	for _, c := range []struct {
		l      []uint64
		widths []int
		want   api.Errno
	}{
		{nil, []int{1}, api.ErrForm},
		{[]uint64{1}, nil, api.ErrForm},
		{[]uint64{16}, []int{4, 8}, api.ErrForm},
		{[]uint64{16, 0, 0}, []int{4, 8}, api.ErrForm},
		{[]uint64{16, 0}, []int{4, 8}, api.ErrRange},
		{[]uint64{0, 256}, []int{4, 8}, api.ErrRange},
		{[]uint64{2}, []int{1}, api.ErrRange},
		{[]uint64{1 << 63}, []int{63}, api.ErrRange},
		{[]uint64{0, allBits}, []int{1, 63}, api.ErrRange},
	} {
		if got, why := Join(c.l, c.widths...); got != 0 || why != c.want {
			t.Errorf("Join(%v, %v) = %v, %v; want %v", c.l, c.widths, got, why, c.want)
		}
	}
}

// 2.1: what is handed in stays as it is, and what is told is new.
func TestFieldsAndJoinKeepTheirNumbers(t *testing.T) {
	widths, l := []int{4, 8}, []uint64{1, 2}
	Join(l, widths...)
	Fields(allBits, widths...)
	if !slices.Equal(widths, []int{4, 8}) || !slices.Equal(l, []uint64{1, 2}) {
		t.Errorf("became %v and %v", widths, l)
	}
	a, _ := Fields(allBits, widths...)
	a[0] = 0
	if b, _ := Fields(allBits, widths...); b[0] != 15 {
		t.Error("an answer is kept")
	}
}

// 2.2: the words of refs, and what is none.
func TestRefs(t *testing.T) {
	for _, c := range []struct {
		r api.Ref
		w uint64
	}{
		{api.Ref{}, 0},
		{api.Ref{Slot: 5, Gen: 2}, 5 + 2<<13},
		{api.Ref{Slot: 4096}, 4096},
		{api.Ref{Slot: 4096, Gen: 1<<40 - 1}, 4096 + (1<<40-1)<<13},
	} {
		if w, why := PutRef(c.r); w != c.w || why != api.OK {
			t.Errorf("PutRef(%v) = %#x, %v", c.r, w, why)
		}
		if r, why := Ref(c.w); r != c.r || why != api.OK {
			t.Errorf("Ref(%#x) = %v, %v", c.w, r, why)
		}
	}
	for _, r := range []api.Ref{
		{Slot: -1}, {Slot: 4097}, {Slot: 8191}, {Slot: 8192}, {Slot: math.MaxInt}, {Slot: math.MinInt},
		{Gen: -1}, {Gen: 1 << 40}, {Gen: math.MaxInt}, {Gen: math.MinInt}, {Slot: 1, Gen: 1 << 51}, {Slot: -1, Gen: -1},
	} {
		if w, why := PutRef(r); w != 0 || why != api.ErrRange {
			t.Errorf("PutRef(%v) = %#x, %v", r, w, why)
		}
	}
	for _, w := range []uint64{4097, 8191, 4097 + 5<<13, 1 << 53, 1<<53 + 1, 1 << 63, allBits} {
		if r, why := Ref(w); r != (api.Ref{}) || why != api.ErrRange {
			t.Errorf("Ref(%#x) = %v, %v", w, r, why)
		}
	}
}

// 2.2: the words of a slot's places in the ring, and what is none.
func TestRings(t *testing.T) {
	for _, c := range []struct {
		next, prev int
		w          uint64
	}{
		{-1, -1, 0},
		{-1, 0, 0x2000},
		{0, -1, 1},
		{0, 0, 0x2001},
		{2, 7, 3 + 8<<13},
		{4096, 4096, 4097 + 4097<<13},
		{4096, -1, 4097},
	} {
		if w, why := PutRing(c.next, c.prev); w != c.w || why != api.OK {
			t.Errorf("PutRing(%d, %d) = %#x, %v", c.next, c.prev, w, why)
		}
		if next, prev, why := Ring(c.w); next != c.next || prev != c.prev || why != api.OK {
			t.Errorf("Ring(%#x) = %d, %d, %v", c.w, next, prev, why)
		}
	}
	for _, n := range []int{-2, -8192, 4097, 8190, 8191, 8192, math.MaxInt, math.MinInt} {
		for _, c := range [][2]int{{n, 0}, {0, n}, {n, n}, {n, -1}} {
			if w, why := PutRing(c[0], c[1]); w != 0 || why != api.ErrRange {
				t.Errorf("PutRing(%d, %d) = %#x, %v", c[0], c[1], w, why)
			}
		}
	}
	for _, w := range []uint64{4098, 8191, 4098 << 13, 8191 << 13, 1 << 26, 1<<26 + 1, 1 << 63, allBits} {
		if next, prev, why := Ring(w); next != 0 || prev != 0 || why != api.ErrRange {
			t.Errorf("Ring(%#x) = %d, %d, %v", w, next, prev, why)
		}
	}
}

// 2.2: the words of entries, and what is none.
func TestEntries(t *testing.T) {
	for _, c := range []struct {
		slot, level int
		w           uint64
	}{
		{0, 0, 0},
		{3, 7, 3 + 7<<13},
		{4096, 0, 4096},
		{4096, 7, 4096 + 7<<13},
		{0, 1, 1 << 13},
	} {
		if w, why := PutEntry(c.slot, c.level); w != c.w || why != api.OK {
			t.Errorf("PutEntry(%d, %d) = %#x, %v", c.slot, c.level, w, why)
		}
		if slot, level, why := Entry(c.w); slot != c.slot || level != c.level || why != api.OK {
			t.Errorf("Entry(%#x) = %d, %d, %v", c.w, slot, level, why)
		}
	}
	for _, c := range [][2]int{
		{-1, 0}, {4097, 0}, {8192, 0}, {math.MaxInt, 0}, {math.MinInt, 0},
		{0, -1}, {3, 8}, {3, 1 << 51}, {0, math.MaxInt}, {0, math.MinInt},
	} {
		if w, why := PutEntry(c[0], c[1]); w != 0 || why != api.ErrRange {
			t.Errorf("PutEntry(%d, %d) = %#x, %v", c[0], c[1], w, why)
		}
	}
	for _, w := range []uint64{4097, 8191, 4097 + 3<<13, 1 << 16, 1<<16 + 1, 1 << 63, allBits} {
		if slot, level, why := Entry(w); slot != 0 || level != 0 || why != api.ErrRange {
			t.Errorf("Entry(%#x) = %d, %d, %v", w, slot, level, why)
		}
	}
}

// 2.3: numbers of either sign, those near 0 first.
func TestZigAndZag(t *testing.T) {
	for _, c := range []struct {
		n int64
		u uint64
	}{
		{0, 0}, {-1, 1}, {1, 2}, {-2, 3}, {2, 4}, {3, 6},
		{1 << 31, 1 << 32}, {-1 << 31, 1<<32 - 1},
		{math.MaxInt64, allBits - 1}, {math.MinInt64, allBits}, {math.MinInt64 + 1, allBits - 2},
	} {
		if got := Zig(c.n); got != c.u {
			t.Errorf("Zig(%d) = %d, want %d", c.n, got, c.u)
		}
		if got := Zag(c.u); got != c.n {
			t.Errorf("Zag(%d) = %d, want %d", c.u, got, c.n)
		}
	}
}

// 2.4: what was put into a word by parts is read, and a word's parts make it again, but for the bits that are left.
func TestPartsThereAndBack(t *testing.T) {
	d := draws(1)
	for range 2000 {
		widths, w := someWidths(&d), d.word()
		l, why := Fields(w, widths...)
		if why != api.OK || len(l) != len(widths) {
			t.Fatalf("Fields(%#x, %v) = %v, %v", w, widths, l, why)
		}
		sum := 0
		for i, width := range widths {
			if want := w >> sum << (64 - width) >> (64 - width); l[i] != want {
				t.Fatalf("Fields(%#x, %v) has %#x at %d, not %#x", w, widths, l[i], i, want)
			}
			sum += width
		}
		joined, why := Join(l, widths...)
		if why != api.OK || joined != w&(1<<sum-1) {
			t.Fatalf("Join(%v, %v) = %#x, %v", l, widths, joined, why)
		}
		again, why := Fields(joined, widths...)
		if why != api.OK || !slices.Equal(again, l) {
			t.Fatalf("Fields(%#x, %v) = %v, %v", joined, widths, again, why)
		}
	}
}

// 2.4: of the words of slots, all that there may be.
func TestSlotsThereAndBack(t *testing.T) {
	d := draws(2)
	for slot := -1; slot <= api.MaxCap; slot++ {
		other := int(d.next()%(api.MaxCap+2)) - 1
		for _, c := range [][2]int{{slot, other}, {other, slot}} {
			w, why := PutRing(c[0], c[1])
			if next, prev, whyNot := Ring(w); why != api.OK || whyNot != api.OK || next != c[0] || prev != c[1] {
				t.Fatalf("the ring's word of %d and %d is read as %d and %d", c[0], c[1], next, prev)
			}
		}
		if slot < 0 {
			continue
		}
		r := api.Ref{Slot: slot, Gen: int(d.word() >> 24)}
		w, why := PutRef(r)
		if back, whyNot := Ref(w); why != api.OK || whyNot != api.OK || back != r {
			t.Fatalf("the word of %v is read as %v", r, back)
		}
		for level := 0; level <= api.MaxLevel; level++ {
			w, why := PutEntry(slot, level)
			if s, l, whyNot := Entry(w); why != api.OK || whyNot != api.OK || s != slot || l != level {
				t.Fatalf("the word of slot %d, level %d is read as %d, %d", slot, level, s, l)
			}
		}
	}
}

// 2.4: a word is read as what has that word, or as nothing.
func TestWordsThereAndBack(t *testing.T) {
	d := draws(3)
	for range 20000 {
		w := d.word() >> (d.next() % 64)
		if r, why := Ref(w); why == api.OK {
			if back, why := PutRef(r); back != w || why != api.OK {
				t.Fatalf("Ref(%#x) = %v, whose word is %#x", w, r, back)
			}
		}
		if next, prev, why := Ring(w); why == api.OK {
			if back, why := PutRing(next, prev); back != w || why != api.OK {
				t.Fatalf("Ring(%#x) = %d, %d, whose word is %#x", w, next, prev, back)
			}
		}
		if slot, level, why := Entry(w); why == api.OK {
			if back, why := PutEntry(slot, level); back != w || why != api.OK {
				t.Fatalf("Entry(%#x) = %d, %d, whose word is %#x", w, slot, level, back)
			}
		}
	}
}

// 2.4: Zag is the way back from Zig, and Zig from Zag.
func TestZigThereAndBack(t *testing.T) {
	d := draws(4)
	for range 20000 {
		u := d.word() >> (d.next() % 64)
		if Zig(Zag(u)) != u || Zag(Zig(int64(u))) != int64(u) {
			t.Fatalf("%d is not read again", u)
		}
		if n := int64(u >> 2); Zig(n) != uint64(2*n) || Zig(-n-1) != uint64(2*n+1) {
			t.Fatalf("Zig of %d or %d", n, -n-1)
		}
	}
}
