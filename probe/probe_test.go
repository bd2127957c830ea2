package probe

import (
	"fmt"
	"math"
	"slices"
	"testing"

	"ganglion/api"
	"ganglion/queue"
	"ganglion/rank"
	"ganglion/tag"
	"ganglion/vec"
)

const (
	top   = math.MaxUint64
	most  = math.MaxInt
	least = math.MinInt
)

// draws tells numbers that look like chance, the same ones each time.
type draws uint64

func (d *draws) next() uint64 {
	*d = *d*6364136223846793005 + 1442695040888963407
	return uint64(*d >> 32)
}

// vector has few components, or none, so that many distances are equal.
func (d *draws) vector() []int32 {
	v := make([]int32, d.next()%3)
	for i := range v {
		v[i] = int32(d.next()%7) - 3
	}
	return v
}

func (d *draws) item() api.Item {
	return api.Item{Id: d.next() % 3, Vec: d.vector(), Tags: d.next() % 8}
}

// slot has few slots, so that many are offered again, and those at both ends.
func (d *draws) slot() int {
	if d.next()%8 == 0 {
		return []int{0, -1, least, most}[d.next()%4]
	}
	return int(d.next() % 40)
}

// at is an item with this id, at this place of a line, with no tags.
func at(id uint64, place int32) api.Item {
	return api.Item{Id: id, Vec: []int32{place}}
}

// tagged is an item with these tags, at this place of a line.
func tagged(place int32, tags uint64) api.Item {
	return api.Item{Id: 7, Vec: []int32{place}, Tags: tags}
}

// spot is that with this distance, id and slot.
func spot(dist, id uint64, slot int) api.Spot {
	return api.Spot{Hit: api.Hit{Dist: dist, Id: id}, Slot: slot}
}

// said is a probe by the document's words: lists that are sorted each time.
type said struct {
	q             []int32
	mask          uint64
	ef            int
	known, waits  []api.Spot
	tagged, found []api.Spot
}

func (p *said) offer(slot int, it api.Item) bool {
	if slices.ContainsFunc(p.known, func(s api.Spot) bool { return s.Slot == slot }) {
		return false
	}
	s := spot(vec.Dist(p.q, it.Vec), it.Id, slot)
	p.known, p.waits = append(p.known, s), rank.Sort(append(p.waits, s))
	if it.Tags&p.mask == p.mask {
		p.tagged = append(p.tagged, s)
	}
	// 11.4: the least of all that it knows and that has the tags.
	p.found = rank.Least(p.tagged, min(p.ef, api.MaxEf))
	return true
}

func (p *said) want() (int, bool) {
	if len(p.waits) == 0 || p.ef <= 0 {
		return 0, false
	}
	if len(p.found) == min(p.ef, api.MaxEf) && rank.Spot(p.found[len(p.found)-1], p.waits[0]) {
		return 0, false
	}
	first := p.waits[0]
	p.waits = p.waits[1:]
	return first.Slot, true
}

// checkOffer fails unless Offer tells want.
func checkOffer(t *testing.T, p *Probe, slot int, it api.Item, want bool) {
	t.Helper()
	if got := p.Offer(slot, it); got != want {
		t.Fatalf("Offer(%d, %v) = %v", slot, it, got)
	}
}

// offerAll offers items that stand in the slots from 1 on.
func offerAll(t *testing.T, p *Probe, items ...api.Item) {
	t.Helper()
	for i, it := range items {
		checkOffer(t, p, i+1, it, true)
	}
}

// checkWants fails unless just these slots are wanted, in this order, and none behind them, while so many are left.
func checkWants(t *testing.T, p *Probe, left int, slots ...int) {
	t.Helper()
	for i, slot := range slots {
		if n := p.Waits(); n != left+len(slots)-i {
			t.Fatalf("ahead of %d there wait %d, want %d", slot, n, left+len(slots)-i)
		}
		if got, ok := p.Want(); got != slot || !ok {
			t.Fatalf("Want is %d, %v; want %d", got, ok, slot)
		}
	}
	for range 2 {
		if got, ok := p.Want(); got != 0 || ok {
			t.Fatalf("Want is %d, %v; want none", got, ok)
		}
		if n := p.Waits(); n != left {
			t.Fatalf("there wait %d, want %d", n, left)
		}
	}
}

// checkFound fails unless just these are found, in this order.
func checkFound(t *testing.T, p *Probe, want ...api.Spot) {
	t.Helper()
	if got := p.Found(); !slices.Equal(got, want) {
		t.Fatalf("Found is %v, want %v", got, want)
	}
}

// 11.1 to 11.3: a new probe knows nothing, wants nothing, and has found nothing.
func TestNew(t *testing.T) {
	for _, ef := range []int{least, -1, 0, 1, api.MaxEf, api.MaxEf + 1, most} {
		for _, q := range [][]int32{nil, {}, {1, 2}} {
			p := New(q, 5, ef)
			checkWants(t, p, 0)
			checkFound(t, p)
			for _, slot := range []int{0, 1, -1, least, most} {
				if p.Knows(slot) {
					t.Errorf("a new probe knows %d", slot)
				}
			}
		}
	}
}

// 11.1: a slot that is known is refused, whatever its item, and nothing happens.
func TestOfferTwice(t *testing.T) {
	p := New([]int32{0}, 1, 9)
	checkOffer(t, p, 4, tagged(3, 1), true)
	want := spot(9, 7, 4)
	for _, it := range []api.Item{tagged(3, 1), tagged(1, 1), tagged(9, 0), {}, at(0, 0)} {
		checkOffer(t, p, 4, it, false)
		checkFound(t, p, want)
		if n := p.Waits(); n != 1 {
			t.Fatalf("behind a second offer of %v there wait %d", it, n)
		}
	}
	checkWants(t, p, 0, 4)
	// One that waits no more is known still; so is one that was not among the best.
	checkOffer(t, p, 4, tagged(1, 1), false)
	checkOffer(t, p, 5, tagged(1, 0), true)
	checkOffer(t, p, 5, tagged(1, 1), false)
	checkFound(t, p, want)
	checkWants(t, p, 0, 5)
	checkOffer(t, p, 5, tagged(0, 1), false)
	checkWants(t, p, 0)
}

// 11.1: one whose place among the best is lost, or was never won, is known, and waits.
func TestOfferBeyondTheBest(t *testing.T) {
	p := New([]int32{0}, 0, 1)
	offerAll(t, p, at(1, 5), at(2, 3), at(3, 9))
	checkFound(t, p, spot(9, 2, 2))
	for slot, want := range []bool{false, true, true, true, false} {
		if got := p.Knows(slot); got != want {
			t.Errorf("Knows(%d) = %v", slot, got)
		}
		if want {
			checkOffer(t, p, slot, at(1, 0), false)
		}
	}
	checkFound(t, p, spot(9, 2, 2))
	checkWants(t, p, 2, 2)
}

// 11.1: each number can be a slot's.
func TestSlotsOfAllKinds(t *testing.T) {
	p := New([]int32{0}, 0, 9)
	slots := []int{1, 0, -1, least, most, 1<<32 + 1, api.MaxCap}
	for _, slot := range slots {
		checkOffer(t, p, slot, at(1, 1), true)
		checkOffer(t, p, slot, at(1, 1), false)
	}
	for _, slot := range []int{2, -2, 1 << 32, least + 1} {
		if p.Knows(slot) {
			t.Errorf("it knows %d", slot)
		}
	}
	slices.Sort(slots)
	var want []api.Spot
	for _, slot := range slots {
		if !p.Knows(slot) {
			t.Errorf("it does not know %d", slot)
		}
		want = append(want, spot(1, 1, slot))
	}
	checkFound(t, p, want...)
	checkWants(t, p, 0, slots...)
}

// 11.1: a spot has the squared distance of the probe's vector to the item's, whatever their lengths, the item's id, and the slot.
func TestSpots(t *testing.T) {
	p := New([]int32{1, 2}, 0, 9)
	far := math.MaxInt32
	offerAll(t, p,
		api.Item{Id: 4, Vec: []int32{4, 6}},
		api.Item{Id: top, Vec: []int32{2}},
		api.Item{},
		api.Item{Id: 5, Vec: []int32{1, 2, -3}, Tags: top},
		api.Item{Id: 6, Vec: []int32{math.MinInt32, math.MinInt32, int32(far), int32(far), math.MinInt32}},
	)
	checkFound(t, p, spot(5, 0, 3), spot(5, top, 2), spot(9, 5, 4), spot(25, 4, 1), spot(top, 6, 5))
	p = New(nil, 0, 9)
	offerAll(t, p, api.Item{Id: 1, Vec: []int32{3, -4}}, api.Item{Id: 2})
	checkFound(t, p, spot(0, 2, 2), spot(25, 1, 1))
}

// 11.1: only what has all tags is among the best; the others wait all the same.
func TestMask(t *testing.T) {
	const mask = 5 | 1<<63
	p := New([]int32{0}, mask, 9)
	offerAll(t, p, tagged(1, 0), tagged(2, 5), tagged(3, mask), tagged(4, 1<<63), tagged(5, top), tagged(6, ^uint64(1)), tagged(7, mask|2))
	checkFound(t, p, spot(9, 7, 3), spot(25, 7, 5), spot(49, 7, 7))
	checkWants(t, p, 0, 1, 2, 3, 4, 5, 6, 7)
	// Without a mask all count, those without tags, too.
	p = New([]int32{0}, 0, 9)
	offerAll(t, p, tagged(1, 0), tagged(2, top))
	checkFound(t, p, spot(1, 7, 1), spot(4, 7, 2))
}

// 11.2 and example 1: of one that may find 1, with items 3 and 1 away, the nearer one is wanted first, then none.
func TestWantOfOne(t *testing.T) {
	p := New([]int32{0}, 0, 1)
	offerAll(t, p, at(1, 3), at(2, 1))
	checkWants(t, p, 1, 2)
	checkFound(t, p, spot(1, 2, 2))
}

// 11.2: while there are fewer than may be, all that wait are wanted, the first of them first.
func TestWantWithRoom(t *testing.T) {
	p := New([]int32{0}, 0, 6)
	offerAll(t, p, at(5, 9), at(9, 1), at(1, -9), at(8, 1), at(8, -1))
	checkWants(t, p, 0, 4, 5, 2, 3, 1)
	// There is room, since those without the tags do not count.
	p = New([]int32{0}, 1, 2)
	offerAll(t, p, tagged(1, 1), tagged(2, 0), tagged(9, 2), tagged(-3, 0))
	checkWants(t, p, 0, 1, 2, 4, 3)
	checkFound(t, p, spot(1, 7, 1))
}

// 11.2: where the best are as many as may be, the last of them tells whether one is wanted, by all fields.
func TestWantAtTheLast(t *testing.T) {
	best := tagged(4, 1)
	for _, c := range []struct {
		slot int
		it   api.Item
		want bool
	}{
		{1, api.Item{Id: 9, Vec: []int32{3}}, true},
		{1, api.Item{Id: 0, Vec: []int32{5}}, false},
		{1, api.Item{Id: 6, Vec: []int32{-4}}, true},
		{1, api.Item{Id: 8, Vec: []int32{-4}}, false},
		{2, api.Item{Id: 7, Vec: []int32{-4}}, true},
		{4, api.Item{Id: 7, Vec: []int32{-4}}, false},
		{-1, api.Item{Id: 7, Vec: []int32{4}}, true},
	} {
		p := New([]int32{0}, 1, 1)
		checkOffer(t, p, 3, best, true)
		// The last of the best is not ahead of itself.
		checkWants(t, p, 0, 3)
		checkOffer(t, p, c.slot, c.it, true)
		if c.want {
			checkWants(t, p, 0, c.slot)
		} else {
			checkWants(t, p, 1)
		}
		checkFound(t, p, spot(16, 7, 3))
	}
}

// 11.2: one that is nearer is wanted, though others that are none the better wait; these never are.
func TestWantAgain(t *testing.T) {
	p := New([]int32{0}, 0, 2)
	offerAll(t, p, at(1, 10), at(2, 20), at(3, 30))
	checkWants(t, p, 1, 1, 2)
	checkOffer(t, p, 4, at(4, 15), true)
	checkWants(t, p, 1, 4)
	checkOffer(t, p, 5, at(5, 16), true)
	checkOffer(t, p, 6, at(6, 1), true)
	checkWants(t, p, 2, 6)
	checkFound(t, p, spot(1, 6, 6), spot(100, 1, 1))
	checkOffer(t, p, 7, at(7, -9), true)
	checkWants(t, p, 2, 7)
	checkFound(t, p, spot(1, 6, 6), spot(81, 7, 7))
}

// 11.1 and 11.2: one that may find none wants none, though it knows what it is offered.
func TestProbeOfNone(t *testing.T) {
	for _, ef := range []int{0, -1, least} {
		p := New([]int32{0}, 0, ef)
		offerAll(t, p, at(1, 1), at(2, 2))
		checkOffer(t, p, 2, at(3, 3), false)
		checkWants(t, p, 2)
		checkFound(t, p)
		if !p.Knows(1) || !p.Knows(2) || p.Knows(3) {
			t.Errorf("with ef %d it knows the wrong slots", ef)
		}
	}
}

// 11.1: ef is held at MaxEf, and may be that.
func TestMostEf(t *testing.T) {
	for _, ef := range []int{api.MaxEf - 1, api.MaxEf, api.MaxEf + 1, 1 << 32, most} {
		p, has := New([]int32{0}, 0, ef), min(ef, api.MaxEf)
		for i := range has {
			checkOffer(t, p, i+1, at(uint64(i), int32(has-i)), true)
		}
		// As long as there is room, one that is far is wanted; then one that is near alone.
		checkOffer(t, p, has+1, at(0, int32(has+1)), true)
		found := p.Found()
		if len(found) != has || found[has-1].Slot != 1 {
			t.Fatalf("with ef %d it has found %d", ef, len(found))
		}
		for i := range has {
			if slot, ok := p.Want(); slot != has-i || !ok {
				t.Fatalf("with ef %d Want is %d, %v", ef, slot, ok)
			}
		}
		checkWants(t, p, 1)
	}
}

// 11.3: a nil probe has nothing, and nothing happens to it.
func TestNil(t *testing.T) {
	var p *Probe
	for range 2 {
		checkOffer(t, p, 1, at(1, 1), false)
		checkWants(t, p, 0)
		checkFound(t, p)
		if p.Knows(1) || p.Knows(0) {
			t.Error("a nil probe knows something")
		}
	}
	knows := p.Knows
	if knows(1) {
		t.Error("a nil probe knows something")
	}
}

// 11.1 to 11.4: offers and wants in turns, held against the document's words.
func TestInTurns(t *testing.T) {
	for seed := range draws(1500) {
		d := seed
		q, mask, ef := d.vector(), d.next()%4, []int{-1, 0, 1, 2, 3, 5, 8, 50, api.MaxEf + 1}[d.next()%9]
		p, want := New(q, mask, ef), &said{q: q, mask: mask, ef: ef}
		for range 80 {
			if d.next()%3 < 2 {
				slot, it := d.slot(), d.item()
				checkOffer(t, p, slot, it, want.offer(slot, it))
			} else {
				slot, ok := want.want()
				if got, is := p.Want(); got != slot || is != ok {
					t.Fatalf("seed %d: Want is %d, %v; want %d, %v", seed, got, is, slot, ok)
				}
			}
			checkFound(t, p, want.found...)
			if n := p.Waits(); n != len(want.waits) {
				t.Fatalf("seed %d: there wait %d, want %d", seed, n, len(want.waits))
			}
			slot := d.slot()
			if got := p.Knows(slot); got != slices.ContainsFunc(want.known, func(s api.Spot) bool { return s.Slot == slot }) {
				t.Fatalf("seed %d: Knows(%d) = %v", seed, slot, got)
			}
		}
	}
}

// 11.4: what is found of many is what the best list, and a sort, of all that have the tags have.
func TestFoundOfMany(t *testing.T) {
	d := draws(3)
	q, mask := []int32{1, -1}, uint64(2)
	for _, ef := range []int{1, 10, 500, 5000} {
		p, best, all := New(q, mask, ef), queue.NewBest(ef), []api.Spot(nil)
		for slot := range 6000 {
			it := d.item()
			checkOffer(t, p, slot, it, true)
			if s := spot(vec.Dist(q, it.Vec), it.Id, slot); tag.Has(it.Tags, mask) {
				best.Offer(s)
				all = append(all, s)
			}
		}
		checkFound(t, p, best.List()...)
		checkFound(t, p, rank.Least(all, min(ef, api.MaxEf))...)
	}
}

// 11.1: what was handed in is neither changed nor kept.
func TestHandedIn(t *testing.T) {
	q, it := []int32{3, 4}, api.Item{Id: 1, Vec: []int32{0, 0}, Tags: 1}
	p := New(q, 1, 2)
	clear(q)
	checkOffer(t, p, 1, it, true)
	it.Vec[0], it.Id, it.Tags = 3, 9, 0
	checkOffer(t, p, 2, api.Item{Id: 2, Vec: []int32{3, 4}, Tags: 1}, true)
	checkFound(t, p, spot(0, 2, 2), spot(25, 1, 1))
	q, it = []int32{1}, at(5, 6)
	p = New(q, 0, 2)
	checkOffer(t, p, 1, it, true)
	checkWants(t, p, 0, 1)
	if before := fmt.Sprint(q, it); before != "[1] {5 [6] 0}" {
		t.Errorf("what was handed in became %s", before)
	}
}

// 11.3: what was told is new memory.
func TestToldIsNew(t *testing.T) {
	p := New([]int32{0}, 0, 3)
	offerAll(t, p, at(1, 2), at(2, 1))
	clear(p.Found())
	checkFound(t, p, spot(1, 2, 2), spot(4, 1, 1))
	before := p.Found()
	offerAll(t, New(nil, 0, 3), at(9, 9))
	checkOffer(t, p, 3, at(3, 0), true)
	checkWants(t, p, 0, 3, 2, 1)
	if fmt.Sprint(before) != fmt.Sprint([]api.Spot{spot(1, 2, 2), spot(4, 1, 1)}) {
		t.Errorf("what was told became %v", before)
	}
}
