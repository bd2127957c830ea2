package ask

import (
	"fmt"
	"math"
	"slices"
	"testing"

	"ganglion/api"
	"ganglion/probe"
	"ganglion/rank"
	"ganglion/vec"
)

const (
	most  = math.MaxInt
	least = math.MinInt
)

// draws tells numbers that look like chance, the same ones each time.
type draws uint64

func (d *draws) next() uint64 {
	*d = *d*6364136223846793005 + 1442695040888963407
	return uint64(*d >> 32)
}

// below has a number from 0 to below n.
func (d *draws) below(n int) int {
	return int(d.next() % uint64(n))
}

// slot is one of few, or a number that is none.
func (d *draws) slot() int {
	if d.below(12) == 0 {
		return []int{0, -1, least}[d.below(3)]
	}
	return 1 + d.below(8)
}

// answer is any answer, of which the item hangs mostly on the slot.
func (d *draws) answer(op api.Op) api.Got {
	g := api.Got{Ok: d.below(2) == 0, N: d.slot(), M: d.slot(), Item: api.Item{Id: uint64(op.A) % 3, Vec: []int32{int32(op.A * 7 % 11), 1}}}
	if d.below(4) == 0 {
		g.Item.Vec[0] = int32(d.below(12))
	}
	for range d.below(6) {
		g.List = append(g.List, d.slot())
	}
	return g
}

// vector is one of two components.
func (d *draws) vector() []int32 {
	return []int32{int32(d.below(12)), int32(d.below(3))}
}

// talk has what was asked for, and answered, one behind the other.
type talk struct {
	d    *draws
	ops  []api.Op
	gots []api.Got
}

// do is the answer to one operation.
func (k *talk) do(op api.Op) api.Got {
	g := k.d.answer(op)
	k.ops, k.gots = append(k.ops, op), append(k.gots, g)
	return g
}

// read is a reading.
func (k *talk) read(slot int) Place {
	g := k.do(api.Op{Kind: api.OpRead, A: slot})
	return Place{Slot: slot, Item: g.Item, Gen: g.M}
}

// again fails unless next asks for the same, if it is told the same.
func (k *talk) again(t *testing.T, next func(g api.Got) (api.Op, bool)) {
	t.Helper()
	for i, want := range append(k.ops, api.Op{}, api.Op{}) {
		g := api.Got{Ok: true, N: 1, List: []int{1, 2}}
		if i > 0 && i <= len(k.gots) {
			g = k.gots[i-1]
		}
		op, is := next(g)
		if is != (i < len(k.ops)) || fmt.Sprint(op) != fmt.Sprint(want) {
			t.Fatalf("at %d of %v, told %v, it asks for %v, %v", i, k.ops, k.gots, op, is)
		}
	}
}

// counts has the slots that count, by the words of the document.
func counts(l []int, left ...int) []int {
	var slots []int
	for i, slot := range l {
		if slot >= 1 && !slices.Contains(l[:i], slot) && !slices.Contains(left, slot) {
			slots = append(slots, slot)
		}
	}
	return slots
}

// spotOf is a place's spot.
func spotOf(q []int32, p Place) api.Spot {
	return api.Spot{Hit: api.Hit{Dist: vec.Dist(p.Item.Vec, q), Id: p.Item.Id}, Slot: p.Slot}
}

// descends is a descent, by the words of the document.
func (k *talk) descends(q []int32, slot, level, lowest, left int) Place {
	at := k.read(slot)
	for level >= lowest {
		best := at
		for _, other := range counts(k.do(api.Op{Kind: api.OpList, A: at.Slot, B: level}).List, left) {
			if other == at.Slot {
				continue
			}
			if p := k.read(other); rank.Spot(spotOf(q, p), spotOf(q, best)) {
				best = p
			}
		}
		if best.Slot == at.Slot {
			level--
		}
		at = best
	}
	return at
}

// looks is a look, by the words of the document; it has all places that were offered.
func (k *talk) looks(p *probe.Probe, level, left int, from ...Place) []Place {
	offered := slices.Clone(from)
	for _, place := range from {
		p.Offer(place.Slot, place.Item)
	}
	offer := func(slots ...int) {
		for _, slot := range counts(slots, left) {
			if !p.Knows(slot) {
				place := k.read(slot)
				p.Offer(slot, place.Item)
				offered = append(offered, place)
			}
		}
	}
	ring := func(slot int) {
		if level == 0 {
			g := k.do(api.Op{Kind: api.OpRing, A: slot})
			offer(g.N, g.M)
		}
	}
	ring(0)
	for slot, is := p.Want(); is; slot, is = p.Want() {
		offer(k.do(api.Op{Kind: api.OpList, A: slot, B: level}).List...)
		ring(slot)
	}
	return offered
}

// 29 (words): of a list those count that are from 1 on, each once, but those left out.
func TestCounting(t *testing.T) {
	for _, c := range []struct{ l, left, want []int }{
		{nil, nil, nil},
		{nil, []int{1}, nil},
		{[]int{0, -1, least}, nil, nil},
		{[]int{3, 1, 2}, nil, []int{3, 1, 2}},
		{[]int{3, 1, 3, 1, 2, 3}, nil, []int{3, 1, 2}},
		{[]int{3, 0, 1, 0, -3}, []int{0}, []int{3, 1}},
		{[]int{3, 1, 3, 2}, []int{3}, []int{1, 2}},
		{[]int{3, 1, 2, 4}, []int{3, 4}, []int{1, 2}},
		{[]int{3, 1}, []int{3, 1, 9}, nil},
		{[]int{3, 1}, []int{-3, 0, most}, []int{3, 1}},
		{[]int{most, api.MaxCap, api.MaxCap + 1, most}, nil, []int{most, api.MaxCap, api.MaxCap + 1}},
	} {
		l := slices.Clone(c.l)
		got := Counting(l, c.left...)
		if !slices.Equal(got, c.want) || !slices.Equal(l, c.l) {
			t.Errorf("Counting(%v, %v) = %v, want %v", c.l, c.left, got, c.want)
		}
		if clear(got); !slices.Equal(l, c.l) {
			t.Errorf("what Counting(%v, %v) tells is not new memory", c.l, c.left)
		}
	}
}

// 29 (words): descents go from the slot by the nearest of the neighbours, on a level as long as one is nearer, and one is left out.
func TestDescents(t *testing.T) {
	d := draws(29)
	for range 20000 {
		q, slot, level, lowest, left := d.vector(), d.slot(), d.below(5)-1, d.below(4), d.below(6)
		k := talk{d: &d}
		want := k.descends(q, slot, level, lowest, left)
		to := NewDescent(q, slot, level, lowest, left)
		clear(q)
		k.again(t, to.Next)
		if end := to.End(); fmt.Sprint(end) != fmt.Sprint(want) {
			t.Fatalf("%v, told %v, ends at %v, want %v", k.ops, k.gots, end, want)
		}
	}
}

// 29 (words): of a descent's end the item is new memory.
func TestEndIsNew(t *testing.T) {
	d := NewDescent([]int32{0}, 3, 0, 1, 0)
	d.Next(api.Got{})
	read := api.Got{N: 9, M: 5, Item: api.Item{Id: 4, Vec: []int32{7}}}
	if op, is := d.Next(read); is {
		t.Errorf("below the lowest level it asks for %v", op)
	}
	read.Item.Vec[0] = 99
	end := d.End()
	end.Item.Vec[0] = 98
	if end = d.End(); fmt.Sprint(end) != "{3 {4 [7] 0} 5}" {
		t.Errorf("it ends at %v", end)
	}
}

// 29 (words): looks offer what they come to, each once, on level 0 by the ring, too, and note how each was read.
func TestLooks(t *testing.T) {
	d := draws(92)
	for range 20000 {
		q, mask, ef, level, left := d.vector(), d.next()%2, d.below(6), d.below(3), d.below(6)
		k := talk{d: &d}
		var from []Place
		if d.below(2) == 0 {
			from = append(from, Place{Slot: d.slot(), Item: api.Item{Id: 2, Vec: d.vector()}, Gen: 7})
		}
		model := probe.New(q, mask, ef)
		want := k.looks(model, level, left, from...)
		p, noted := probe.New(q, mask, ef), []Place(nil)
		l := NewLook(p, level, left, func(p Place) { noted = append(noted, p) }, from...)
		k.again(t, l.Next)
		if fmt.Sprint(noted) != fmt.Sprint(want) {
			t.Fatalf("%v, told %v, noted %v, want %v", k.ops, k.gots, noted, want)
		}
		if !slices.Equal(p.Found(), model.Found()) {
			t.Fatalf("%v, told %v, found %v, want %v", k.ops, k.gots, p.Found(), model.Found())
		}
	}
}

// 28.2: what a task tells is new memory.
func TestToldIsNew(t *testing.T) {
	told := api.Told{
		Worker: 1,
		Call:   api.Call{Kind: api.CallSearch, Item: api.Item{Id: 2, Vec: []int32{3}, Tags: 4}, K: 5, Ef: 6, Draw: 7},
		Err:    8,
		Item:   api.Item{Id: 9, Vec: []int32{10}, Tags: 11},
		Hits:   []api.Hit{{Dist: 12, Id: 13}},
		Len:    14,
		From:   15,
		Marks:  []int{16},
		To:     17,
	}
	before := fmt.Sprint(told)
	out := Told(told)
	if after := fmt.Sprint(out); after != before {
		t.Errorf("of %v it tells %v", before, after)
	}
	clear(out.Call.Item.Vec)
	clear(out.Item.Vec)
	clear(out.Hits)
	clear(out.Marks)
	if after := fmt.Sprint(told); after != before {
		t.Errorf("%v became %v", before, after)
	}
}
