package beam

import (
	"fmt"
	"math"
	"slices"
	"testing"

	"ganglion/api"
	"ganglion/exact"
	"ganglion/plane"
)

const (
	top   = math.MaxUint64
	most  = math.MaxInt
	least = math.MinInt
)

// draws tells numbers that look like chance, the same ones each time.
type draws uint64

func (d *draws) next() uint64 {
	*d = *d*6364136223846793005 + 1442695040888963407
	return uint64(*d >> 32)
}

// below has a number from 0 to below n.
func (d *draws) below(n int) int {
	return int(d.next() % uint64(n))
}

// number has few numbers, and now and then those at both ends.
func (d *draws) number() int {
	if d.below(12) == 0 {
		return []int{least, -2, 1 << 32, most}[d.below(4)]
	}
	return d.below(16) - 1
}

// slots has some of the numbers that there are, also twice.
func (d *draws) slots() []int {
	l := make([]int, d.below(5))
	for i := range l {
		l[i] = d.number()
	}
	return l
}

// item is one of an id, with few components, or none, so that many distances are equal, and few tags.
func (d *draws) item(id uint64) api.Item {
	v := make([]int32, d.below(3))
	for i := range v {
		v[i] = int32(d.below(9)) - 4
	}
	return api.Item{Id: id, Vec: v, Tags: d.mask()}
}

// mask has few bits, at both ends.
func (d *draws) mask() uint64 {
	m := d.next() & d.next()
	return m&3 | m&4<<61
}

// wrong is a plane of few nodes that name whatever there may be: hardly one is right.
func (d *draws) wrong() api.Plane {
	g := api.Plane{Nodes: make([]api.Node, d.below(16)), Entry: d.number(), Top: d.number()}
	for i := range g.Nodes {
		n := &g.Nodes[i]
		n.Item = d.item(uint64(d.below(4)))
		n.Next, n.Prev, n.Level = d.number(), d.number(), d.below(3)
		n.Lists = make([][]int, d.below(4))
		for level := range n.Lists {
			for range d.below(4) {
				n.Lists[level] = append(n.Lists[level], d.number())
			}
		}
	}
	return g
}

// right is a plane of few nodes that is right for these links, with an entry or without.
func (d *draws) right(links int) api.Plane {
	g, n := plane.New(), 1+d.below(14)
	for range n {
		g = put(g, d.item(uint64(1000+d.below(500))), d.below(3), links)
	}
	for range d.below(3 * n) {
		g, _ = plane.Link(g, 1+d.below(n), 1+d.below(n), d.below(3), links)
	}
	for range d.below(3) {
		g, _ = plane.Drop(g, 1+d.below(n), links)
	}
	if slot := d.below(n + 1); plane.There(g, slot) {
		g.Entry, g.Top = slot, d.below(g.Nodes[slot].Level+1)
	}
	return g
}

// put is g with one more node, if it can be had.
func put(g api.Plane, it api.Item, level, links int) api.Plane {
	if out, _, why := plane.Put(g, it, level, links); why == api.OK {
		return out
	}
	return g
}

// items has those that are there.
func items(g api.Plane) []api.Item {
	var l []api.Item
	for _, slot := range plane.Live(g) {
		l = append(l, g.Nodes[slot].Item)
	}
	return l
}

// node is one of an id at a place of a line, with those next to it in the ring, and a list for each level; its tags are its id.
func node(id uint64, place int32, next, prev int, lists ...[]int) api.Node {
	it := api.Item{Id: id, Vec: []int32{place}, Tags: id}
	return api.Node{Item: it, Level: len(lists) - 1, Lists: lists, Next: next, Prev: prev}
}

// some is a plane whose nodes stand on a line, each with its slot as id, at ten times that, but slot 3, that is not there.
//
//	level 2: 7
//	level 1: 7 - 6 - 2
//	level 0: 7 - 6 - 5 - 4 - 2 - 1
//	ring: 0 1 5 2 6 4 7 0
func some() api.Plane {
	return api.Plane{
		Nodes: []api.Node{
			node(top, 25, 1, 7),
			node(1, 10, 5, 0, []int{2}),
			node(2, 20, 6, 5, []int{4, 1}, []int{6}),
			node(top, 30, -1, -1, []int{2}, []int{2}),
			node(4, 40, 7, 6, []int{5, 2}),
			node(5, 50, 2, 1, []int{6, 4}),
			node(6, 60, 4, 2, []int{7, 5}, []int{7, 2}),
			node(7, 70, 0, 4, []int{6}, []int{6}, nil),
		},
		Entry: 7,
		Top:   2,
	}
}

// hill is a plane of level 1 alone, where one goes from 1 by 2 to 3, 2 lies far off from 0, and 3 at it.
func hill() api.Plane {
	return api.Plane{Nodes: []api.Node{
		{},
		node(1, 5, 0, 0, nil, []int{2}),
		node(2, 9, 0, 0, nil, []int{1, 3}),
		node(4, 0, 0, 0, nil, []int{2}),
	}}
}

// there is a slot that is there, by the document's words.
func there(g api.Plane, slot int) bool {
	return slot >= 1 && slot < len(g.Nodes) && !(g.Nodes[slot].Next < 0)
}

// near are the slots next to one, by the document's words: some may be told twice, or not be there.
func near(g api.Plane, slot, level int) []int {
	if slot < 0 || slot >= len(g.Nodes) {
		return nil
	}
	n := g.Nodes[slot]
	var l []int
	if slot > 0 && level >= 0 && level < len(n.Lists) {
		l = append(l, n.Lists[level]...)
	}
	if level == 0 {
		l = append(l, n.Next, n.Prev)
	}
	return l
}

// spotOf is a slot's spot by the document's words; all components are small.
func spotOf(g api.Plane, q []int32, slot int) api.Spot {
	it, sum := g.Nodes[slot].Item, 0
	for i := range max(len(it.Vec), len(q)) {
		by := 0
		if i < len(it.Vec) {
			by = int(it.Vec[i])
		}
		if i < len(q) {
			by -= int(q[i])
		}
		sum += by * by
	}
	return api.Spot{Hit: api.Hit{Dist: uint64(sum), Id: it.Id}, Slot: slot}
}

// ahead tells by the document's words whether a is ahead of b.
func ahead(a, b api.Spot) bool {
	if a.Hit.Dist != b.Hit.Dist {
		return a.Hit.Dist < b.Hit.Dist
	}
	if a.Hit.Id != b.Hit.Id {
		return a.Hit.Id < b.Hit.Id
	}
	return a.Slot < b.Slot
}

// into puts a spot into a list that is in order.
func into(l []api.Spot, s api.Spot) []api.Spot {
	i := 0
	for i < len(l) && ahead(l[i], s) {
		i++
	}
	return slices.Insert(l, i, s)
}

// said is a look around by the document's words: lists in order.
type said struct {
	g            api.Plane
	q            []int32
	mask         uint64
	ef, level    int
	known        []int
	waits, found []api.Spot
	wanted       int
}

func (l *said) offer(slots []int) {
	for _, slot := range slots {
		if !there(l.g, slot) || slices.Contains(l.known, slot) {
			continue
		}
		s := spotOf(l.g, l.q, slot)
		l.known, l.waits = append(l.known, slot), into(l.waits, s)
		if l.mask&^l.g.Nodes[slot].Item.Tags == 0 {
			l.found = into(l.found, s)
		}
	}
	l.found = l.found[:min(len(l.found), max(l.ef, 0), 4096)]
}

func (l *said) wants() bool {
	if len(l.waits) == 0 || l.ef <= 0 {
		return false
	}
	return len(l.found) < min(l.ef, 4096) || !ahead(l.found[len(l.found)-1], l.waits[0])
}

func (l *said) around(from []int) *said {
	l.offer(from)
	for l.wants() {
		slot := l.waits[0].Slot
		l.waits, l.wanted = l.waits[1:], l.wanted+1
		l.offer(near(l.g, slot, l.level))
	}
	return l
}

// down is where one comes to from the entry, by the document's words, or nothing.
func down(g api.Plane, q []int32) []int {
	if !there(g, g.Entry) {
		return nil
	}
	slot := g.Entry
	for level := min(g.Top, 7); level >= 1; level-- {
		for next := 0; next != slot; {
			next = slot
			for _, other := range near(g, next, level) {
				if there(g, other) && ahead(spotOf(g, q, other), spotOf(g, q, slot)) {
					slot = other
				}
			}
		}
	}
	return []int{slot}
}

// finds is the look around of Find, by the document's words.
func finds(g api.Plane, q []int32, mask uint64, ef int) *said {
	l := &said{g: g, q: q, mask: mask, ef: ef}
	return l.around(append(down(g, q), near(g, 0, 0)...))
}

// spots are those of these slots.
func spots(g api.Plane, q []int32, slots ...int) []api.Spot {
	var l []api.Spot
	for _, slot := range slots {
		l = append(l, spotOf(g, q, slot))
	}
	return l
}

// hits are those of spots.
func hits(l []api.Spot) []api.Hit {
	var out []api.Hit
	for _, s := range l {
		out = append(out, s.Hit)
	}
	return out
}

// checkAround fails unless just these are found from some slots on, in this order.
func checkAround(t *testing.T, g api.Plane, place int32, mask uint64, ef int, from []int, level int, want ...int) {
	t.Helper()
	q := []int32{place}
	if got := Around(g, q, mask, ef, from, level); !slices.Equal(got, spots(g, q, want...)) {
		t.Errorf("Around(%v, %v, %b, %d, %v, %d) = %v, want %v", g, q, mask, ef, from, level, got, want)
	}
}

// checkFind fails unless just these are found, in this order, at that cost, and Search has them as hits.
func checkFind(t *testing.T, g api.Plane, place int32, mask uint64, ef, cost int, want ...int) {
	t.Helper()
	q := []int32{place}
	found := spots(g, q, want...)
	if got := Find(g, q, mask, ef); !slices.Equal(got, found) {
		t.Errorf("Find(%v, %v, %b, %d) = %v, want %v", g, q, mask, ef, got, want)
	}
	if got := Cost(g, q, mask, ef); got != cost {
		t.Errorf("Cost(%v, %v, %b, %d) = %d, want %d", g, q, mask, ef, got, cost)
	}
	for k := -1; k <= ef; k++ {
		checkSearch(t, g, q, mask, k, ef, hits(found[:min(max(k, 0), len(found))]))
	}
}

// checkSearch fails unless just these are found, in this order.
func checkSearch(t *testing.T, g api.Plane, q []int32, mask uint64, k, ef int, want []api.Hit) {
	t.Helper()
	if got := Search(g, q, mask, k, ef); !slices.Equal(got, want) {
		t.Errorf("Search(%v, %v, %b, %d, %d) = %v, want %v", g, q, mask, k, ef, got, want)
	}
}

// 15.1: from some slots on, by the lists of that level alone, and on level 0 by the ring, too.
func TestAround(t *testing.T) {
	g := some()
	for _, c := range []struct {
		place int32
		from  []int
		level int
		want  []int
	}{
		{0, []int{7}, 1, []int{2, 6, 7}},
		{99, []int{2}, 1, []int{7, 6, 2}},
		{58, []int{6}, 1, []int{6, 7, 2}},
		{0, []int{7}, 2, []int{7}},
		{0, []int{7, 2, 4}, 2, []int{2, 4, 7}},
		{0, []int{4, 1}, 1, []int{1, 4}},
		{0, []int{4, 6}, 1, []int{2, 4, 6, 7}},
		{0, []int{7}, 0, []int{1, 2, 4, 5, 6, 7}},
		{99, []int{1}, 0, []int{7, 6, 5, 4, 2, 1}},
		{45, []int{1, 7}, 0, []int{4, 5, 6, 2, 7, 1}},
		// A level that no node has has no neighbours.
		{0, []int{7, 2}, 3, []int{2, 7}},
		{0, []int{7, 2}, 8, []int{2, 7}},
		{0, []int{7, 2}, -1, []int{2, 7}},
		{0, []int{7, 2}, most, []int{2, 7}},
		{0, []int{7, 2}, least, []int{2, 7}},
	} {
		checkAround(t, g, c.place, 0, 9, c.from, c.level, c.want...)
	}
	// By the ring alone.
	for slot := range g.Nodes {
		clear(g.Nodes[slot].Lists)
	}
	checkAround(t, g, 0, 0, 9, []int{4}, 0, 1, 2, 4, 5, 6, 7)
	checkAround(t, g, 0, 0, 9, []int{4}, 1, 4)
}

// 15.1: slots that are not there are not offered, nor is the head; one that is handed in twice is found once.
func TestAroundFromNowhere(t *testing.T) {
	g := some()
	for _, level := range []int{0, 1, 2, -1} {
		for _, from := range [][]int{nil, {}, {0}, {3}, {8}, {-1}, {0, 3, 8, -1, least, most, 1<<32 + 7}} {
			checkAround(t, g, 30, 0, 9, from, level)
			for _, bare := range []api.Plane{{}, plane.New(), {Entry: 7, Top: 2}} {
				checkAround(t, bare, 30, 0, 9, append(from, 1, 7), level)
			}
		}
	}
	checkAround(t, g, 30, 0, 9, []int{0, 7, 3, 7, most, 1, 7, -1}, 2, 1, 7)
	// Neighbours that are not there are not offered either.
	g.Nodes[6].Lists[1] = []int{3, 0, -1, 8, most, 7, 7, 2, 6}
	checkAround(t, g, 30, 0, 9, []int{6}, 1, 2, 6, 7)
}

// 15.1: with few that may be found one stops at the first hill.
func TestAroundOfFew(t *testing.T) {
	g := hill()
	for ef, want := range [][]int{{}, {1}, {3, 1}, {3, 1, 2}, {3, 1, 2}} {
		checkAround(t, g, 0, 0, ef, []int{1}, 1, want...)
	}
	// From the far side of it, and from both.
	checkAround(t, g, 0, 0, 1, []int{2}, 1, 3)
	checkAround(t, g, 0, 0, 1, []int{1, 3}, 1, 3)
	// On the way to 40 the ring has shortcuts.
	checkAround(t, some(), 40, 0, 1, []int{7}, 0, 4)
	checkAround(t, some(), 0, 0, 1, []int{7}, 0, 1)
	checkAround(t, some(), 0, 0, 2, []int{7}, 0, 1, 2)
}

// 15.1: those without the tags lead on, but are not found.
func TestAroundByTags(t *testing.T) {
	g := hill()
	checkAround(t, g, 0, 4, 1, []int{1}, 1, 3)
	checkAround(t, g, 0, 2, 1, []int{1}, 1, 2)
	checkAround(t, g, 0, 1, 1, []int{1}, 1, 1)
	checkAround(t, g, 0, 5, 1, []int{1}, 1)
	g = some()
	checkAround(t, g, 0, 1, 9, []int{4}, 0, 1, 5, 7)
	checkAround(t, g, 0, 2, 9, []int{4}, 0, 2, 6, 7)
	checkAround(t, g, 0, 3, 9, []int{4}, 0, 7)
	checkAround(t, g, 99, 4, 2, []int{1}, 0, 7, 6)
	checkAround(t, g, 0, 8, 9, []int{4}, 0)
	checkAround(t, g, 0, top, 9, []int{4}, 0)
	checkAround(t, g, 0, 2, 9, []int{4, 6}, 1, 2, 6, 7)
}

// 15.1: of ef below 1 nothing is found; one beyond the greatest is that.
func TestAroundOfEf(t *testing.T) {
	for _, ef := range []int{0, -1, least} {
		checkAround(t, some(), 0, 0, ef, []int{1, 7}, 0)
		checkAround(t, some(), 0, 0, ef, []int{1, 7}, 1)
		checkFind(t, some(), 0, 0, ef, 0)
	}
	for _, ef := range []int{6, 7, api.MaxEf, api.MaxEf + 1, 1 << 32, most} {
		checkAround(t, some(), 0, 0, ef, []int{7}, 0, 1, 2, 4, 5, 6, 7)
	}
}

// 15.1 and 15.2: from where one comes to from the entry down, and what that costs.
func TestFind(t *testing.T) {
	g := some()
	checkFind(t, g, 20, 0, 1, 1, 2)
	checkFind(t, g, 60, 0, 1, 1, 6)
	checkFind(t, g, 40, 0, 1, 2, 4)
	checkFind(t, g, 0, 0, 1, 1, 1)
	checkFind(t, g, 20, 0, 3, 3, 2, 1, 4)
	checkFind(t, g, 99, 0, 2, 2, 7, 6)
	checkFind(t, g, 45, 0, 9, 6, 4, 5, 6, 2, 7, 1)
	checkFind(t, g, 20, 4, 1, 3, 4)
	checkFind(t, g, 0, 3, 1, 6, 7)
	checkFind(t, g, 0, 8, 1, 6)
	// On level 0 alone: the neighbours of level 1 are not offered.
	g.Nodes[2].Lists[0], g.Nodes[2].Next, g.Nodes[2].Prev, g.Top = nil, 0, 0, 1
	g.Nodes[0].Next, g.Nodes[0].Prev = 0, 0
	checkFind(t, g, 20, 0, 9, 1, 2)
}

// ends is a right plane, where the entry lies behind a hill of 0, and the ring's both ends are 1 and 3, at these places.
func ends(first, last int32) api.Plane {
	return api.Plane{
		Nodes: []api.Node{
			{Next: 1, Prev: 3},
			node(1, first, 4, 0, nil),
			node(2, 20, 5, 4, nil),
			node(4, last, 0, 5, nil),
			node(8, 90, 2, 1, nil),
			node(16, 90, 3, 2, nil),
		},
		Entry: 2,
	}
}

// 15.1: both ends of the ring are offered, too, whether there is an entry or none.
func TestFindFromHead(t *testing.T) {
	for _, c := range []struct {
		first, last int32
		want        int
	}{
		{5, 7, 1}, {7, 5, 3}, {50, 60, 2}, {50, 10, 3}, {10, 50, 1},
	} {
		g := ends(c.first, c.last)
		if why := plane.Check(g, 1); why != api.OK {
			t.Fatalf("%v is not right: %d", g, why)
		}
		checkFind(t, g, 0, 0, 1, 1, c.want)
	}
	g := ends(50, 60)
	for _, entry := range []int{0, 6, -1, least, most} {
		g.Entry, g.Top = entry, 0
		// From 50 and 60 on nothing but 90 comes next: 20 lies behind a hill.
		checkFind(t, g, 0, 0, 1, 1, 1)
		checkFind(t, g, 0, 0, 3, 4, 2, 1, 3)
	}
	// One that is not there is no entry, whatever else its node says.
	g = some()
	g.Entry = 3
	checkFind(t, g, 20, 0, 1, 2, 2)
	g.Nodes[0].Next, g.Nodes[0].Prev = 3, -1
	checkFind(t, g, 20, 0, 9, 0)
	// The head's list says nothing.
	g.Nodes[0].Lists = [][]int{{1, 2}}
	checkFind(t, g, 20, 0, 9, 0)
}

// 15.1 and 15.2, example 1: in an empty plane nothing is found, at no cost.
func TestEmpty(t *testing.T) {
	for _, g := range []api.Plane{{}, plane.New(), {Entry: 1, Top: 7}, {Nodes: make([]api.Node, 1), Entry: -1}} {
		for _, ef := range []int{least, 0, 1, 9, most} {
			if found, cost := Find(g, nil, 0, ef), Cost(g, nil, 0, ef); len(found) != 0 || cost != 0 {
				t.Errorf("in %v there is %v, at the cost %d", g, found, cost)
			}
			for _, k := range []int{least, 0, 1, most} {
				checkSearch(t, g, nil, 0, k, ef, nil)
			}
		}
	}
}

// 15.2: the first k alone, where the greater one of k and ef tells how many are looked at.
func TestSearch(t *testing.T) {
	g, q := some(), []int32{45}
	all := hits(spots(g, q, 4, 5, 6, 2, 7, 1))
	for _, k := range []int{least, -1, 0, 1, 2, 5, 6, 7, api.MaxEf, api.MaxEf + 1, most} {
		for _, ef := range []int{6, 9, api.MaxEf, api.MaxEf + 1, most} {
			checkSearch(t, g, q, 0, k, ef, all[:min(max(k, 0), 6)])
		}
	}
	for _, ef := range []int{least, -1, 0, 1, 5, 6} {
		checkSearch(t, g, q, 0, 6, ef, all)
		checkSearch(t, g, q, 0, 9, ef, all)
		checkSearch(t, g, q, 0, -1, ef, nil)
	}
	// Behind a hill there is something better, for more of either.
	g = ends(50, 60)
	g.Entry = 0
	q = []int32{0}
	checkSearch(t, g, q, 0, 1, 1, hits(spots(g, q, 1)))
	checkSearch(t, g, q, 0, 1, 0, hits(spots(g, q, 1)))
	checkSearch(t, g, q, 0, 1, 3, hits(spots(g, q, 2)))
	checkSearch(t, g, q, 0, 2, 3, hits(spots(g, q, 2, 1)))
	checkSearch(t, g, q, 0, 3, 1, hits(spots(g, q, 2, 1, 3)))
	checkSearch(t, g, q, 0, 3, -5, hits(spots(g, q, 2, 1, 3)))
	checkSearch(t, g, q, 2, 1, 1, hits(spots(g, q, 2)))
	checkSearch(t, g, q, 32, 9, 9, nil)
}

// ringOf is a plane of so many nodes in a ring, each at the place of its slot, without lists and entry.
func ringOf(n int) api.Plane {
	g := api.Plane{Nodes: make([]api.Node, n+1)}
	for slot := range g.Nodes {
		g.Nodes[slot] = node(uint64(slot), int32(slot), (slot+1)%(n+1), (slot+n)%(n+1), nil)
	}
	g.Nodes[0] = api.Node{Next: 1, Prev: n}
	return g
}

// 15.2 and 15.3: all that a right plane may have are found with the greatest ef; of more that are there, no more.
func TestMostEf(t *testing.T) {
	g, q := ringOf(api.MaxCap), []int32{2000}
	if why := plane.Check(g, 1); why != api.OK {
		t.Fatalf("it is not right: %d", why)
	}
	want := exact.Search(items(g), q, 0, api.MaxCap)
	if len(want) != api.MaxEf {
		t.Fatalf("there are %d", len(want))
	}
	for _, k := range []int{1, 4000, api.MaxEf, api.MaxEf + 1, most} {
		for _, ef := range []int{api.MaxEf, api.MaxEf + 1, most} {
			if got := Search(g, q, 0, k, ef); !slices.Equal(got, want[:min(k, len(want))]) {
				t.Errorf("with k %d and ef %d there are %d", k, ef, len(got))
			}
		}
	}
	if cost := Cost(g, q, 0, most); cost != api.MaxCap {
		t.Errorf("the cost is %d", cost)
	}
	if got := Search(ringOf(api.MaxCap+9), []int32{0}, 0, most, most); len(got) != api.MaxEf || got[api.MaxEf-1].Id != api.MaxEf {
		t.Errorf("of too many there are %d", len(got))
	}
	if cost := Cost(ringOf(api.MaxCap+9), []int32{0}, 0, 2); cost != 2 {
		t.Errorf("the cost of few is %d", cost)
	}
}

// 15.3: in right planes all that is nearest is found, with ef no less than how many are there.
func TestExact(t *testing.T) {
	d, missed := draws(5), 0
	for range 6000 {
		links := 1 + d.below(3)
		g := d.right(links)
		if why := plane.Check(g, links); why != api.OK {
			t.Fatalf("%v is not right: %d", g, why)
		}
		l, q, mask := items(g), d.item(0).Vec, d.mask()
		for _, ef := range []int{len(l), len(l) + 1, len(l) + d.below(20), api.MaxEf} {
			for _, k := range []int{-1, 0, 1, d.below(len(l) + 1), len(l), len(l) + 3} {
				checkSearch(t, g, q, mask, k, ef, exact.Search(l, q, mask, k))
			}
		}
		for _, ef := range []int{least, -1, 0, 1, len(l)} {
			checkSearch(t, g, q, mask, len(l), ef, exact.Search(l, q, mask, len(l)))
		}
		if t.Failed() {
			return
		}
		if !slices.Equal(Search(g, q, mask, 1, 1), exact.Search(l, q, mask, 1)) {
			missed++
		}
	}
	// Else it would tell nothing that the others miss nothing.
	if missed < 300 {
		t.Errorf("where one is looked at, %d searches alone miss something", missed)
	}
}

// checkTrue fails unless all that is found is there, has the tags, and rises: 15.4.
func checkTrue(t *testing.T, g api.Plane, q []int32, mask uint64, found []api.Spot) {
	t.Helper()
	for i, s := range found {
		if !there(g, s.Slot) || g.Nodes[s.Slot].Item.Tags&mask != mask || s != spotOf(g, q, s.Slot) {
			t.Fatalf("in %v there is no %v for the mask %b", g, s, mask)
		}
		if i > 0 && !ahead(found[i-1], s) {
			t.Fatalf("%v do not rise", found)
		}
	}
}

// 15.1, 15.2 and 15.4: planes of all kinds, held against the document's words.
func TestOfMany(t *testing.T) {
	d, long := draws(1), 0
	for i := range 40000 {
		g := d.wrong()
		if i%4 == 0 {
			g = d.right(2)
		}
		q, mask, level, from := d.item(0).Vec, d.mask(), d.below(5)-1, d.slots()
		k, ef := d.below(8)-1, []int{least, -1, 0, 1, 2, 3, 5, 8, 20, most}[d.below(10)]
		around := (&said{g: g, q: q, mask: mask, ef: ef, level: level}).around(from)
		if got := Around(g, q, mask, ef, from, level); !slices.Equal(got, around.found) {
			t.Fatalf("Around(%v, %v, %b, %d, %v, %d) = %v, want %v", g, q, mask, ef, from, level, got, around.found)
		}
		found := finds(g, q, mask, ef)
		if got := Find(g, q, mask, ef); !slices.Equal(got, found.found) {
			t.Fatalf("Find(%v, %v, %b, %d) = %v, want %v", g, q, mask, ef, got, found.found)
		}
		if got := Cost(g, q, mask, ef); got != found.wanted {
			t.Fatalf("Cost(%v, %v, %b, %d) = %d, want %d", g, q, mask, ef, got, found.wanted)
		}
		more := finds(g, q, mask, max(k, ef)).found
		checkSearch(t, g, q, mask, k, ef, hits(more[:min(max(k, 0), len(more))]))
		checkTrue(t, g, q, mask, Around(g, q, mask, ef, from, level))
		checkTrue(t, g, q, mask, Find(g, q, mask, ef))
		if t.Failed() {
			return
		}
		if found.wanted > 5 {
			long++
		}
	}
	if long < 3000 {
		t.Errorf("%d alone want many slots", long)
	}
}

// 15.1 and 15.2: what is handed in stays as it is, and answers are new.
func TestPlaneStays(t *testing.T) {
	g, q, from := some(), []int32{30}, []int{7, 3, 1}
	before := fmt.Sprint(g, q, from)
	for range 2 {
		around, found, hits := Around(g, q, 0, 9, from, 1), Find(g, q, 0, 9), Search(g, q, 0, 5, 9)
		Cost(g, q, 0, 9)
		told := fmt.Sprint(around, found, hits)
		clear(around[:cap(around)])
		clear(found[:cap(found)])
		clear(hits[:cap(hits)])
		if after := fmt.Sprint(g, q, from); after != before {
			t.Fatalf("%s became %s", before, after)
		}
		if again := fmt.Sprint(Around(g, q, 0, 9, from, 1), Find(g, q, 0, 9), Search(g, q, 0, 5, 9)); again != told {
			t.Errorf("an answer is kept: %s, it was %s", again, told)
		}
	}
}
