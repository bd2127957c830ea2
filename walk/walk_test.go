package walk

import (
	"fmt"
	"math"
	"slices"
	"testing"

	"ganglion/api"
)

const (
	top   = math.MaxUint64
	most  = math.MaxInt
	least = math.MinInt
)

// draws tells numbers that look like chance, the same ones each time.
type draws uint64

func (d *draws) next() uint64 {
	*d = *d*6364136223846793005 + 1442695040888963407
	return uint64(*d >> 32)
}

// below has a number from 0 to below n.
func (d *draws) below(n int) int {
	return int(d.next() % uint64(n))
}

// number has few numbers, and now and then those at both ends.
func (d *draws) number() int {
	if d.below(12) == 0 {
		return []int{least, -2, 1 << 32, most}[d.below(4)]
	}
	return d.below(16) - 1
}

// vector has few components, or none, so that many distances are equal.
func (d *draws) vector() []int32 {
	v := make([]int32, d.below(3))
	for i := range v {
		v[i] = int32(d.below(7)) - 3
	}
	return v
}

// plane has few nodes, that name whatever there may be: few such planes are right.
func (d *draws) plane() api.Plane {
	g := api.Plane{Nodes: make([]api.Node, d.below(16)), Entry: d.number(), Top: d.number()}
	for i := range g.Nodes {
		n := &g.Nodes[i]
		n.Item = api.Item{Id: uint64(d.below(4)), Vec: d.vector()}
		n.Next, n.Prev, n.Level = d.number(), d.number(), d.below(3)
		n.Lists = make([][]int, d.below(12))
		for level := range n.Lists {
			for range d.below(4) {
				n.Lists[level] = append(n.Lists[level], d.number())
			}
		}
	}
	return g
}

// spot is that with this distance, id and slot.
func spot(dist, id uint64, slot int) api.Spot {
	return api.Spot{Hit: api.Hit{Dist: dist, Id: id}, Slot: slot}
}

// node is one of an id at a place of a line, with those next to it in the ring, and a list for each level.
func node(id uint64, place int32, next, prev int, lists ...[]int) api.Node {
	return api.Node{Item: api.Item{Id: id, Vec: []int32{place}}, Level: len(lists) - 1, Lists: lists, Next: next, Prev: prev}
}

// some is a plane whose nodes stand on a line, each in its slot at ten times its place, but slot 3, that is not there.
//
//	level 2: 7
//	level 1: 7 - 6 - 2
//	level 0: 7 - 6 - 5 - 4 - 2 - 1
//	ring: 0 1 5 2 6 4 7 0
func some() api.Plane {
	return api.Plane{
		Nodes: []api.Node{
			node(77, 25, 1, 7),
			node(11, 10, 5, 0, []int{2}),
			node(12, 20, 6, 5, []int{4, 1}, []int{6}),
			node(13, 30, -1, -1),
			node(14, 40, 7, 6, []int{5, 2}),
			node(15, 50, 2, 1, []int{6, 4}),
			node(16, 60, 4, 2, []int{7, 5}, []int{7, 2}),
			node(17, 70, 0, 4, []int{6}, []int{6}, nil),
		},
		Entry: 7,
		Top:   2,
	}
}

// ladder is a plane where on each level a step leads from the slot of that number alone, to the one below it: so the way down tells which levels are gone through.
func ladder() api.Plane {
	g := api.Plane{Nodes: make([]api.Node, 11), Entry: 10, Top: 10}
	for slot := range g.Nodes {
		g.Nodes[slot] = node(uint64(slot), int32(slot), 0, 0)
		g.Nodes[slot].Lists = make([][]int, 11)
		g.Nodes[slot].Lists[slot] = []int{slot - 1}
	}
	return g
}

// there is a slot that is there, by the document's words.
func there(g api.Plane, slot int) bool {
	return slot >= 1 && slot < len(g.Nodes) && !(g.Nodes[slot].Next < 0)
}

// near are the slots next to one, by the document's words: some may be told twice, and those that are not there are left out.
func near(g api.Plane, slot, level int) []int {
	if slot < 0 || slot >= len(g.Nodes) {
		return nil
	}
	n := g.Nodes[slot]
	var l []int
	if slot > 0 && level >= 0 && level < len(n.Lists) {
		l = append(l, n.Lists[level]...)
	}
	if level == 0 {
		l = append(l, n.Next, n.Prev)
	}
	return slices.DeleteFunc(l, func(other int) bool { return !there(g, other) })
}

// spotOf is a slot's spot by the document's words; all components are small.
func spotOf(g api.Plane, q []int32, slot int) api.Spot {
	var it api.Item
	if slot >= 0 && slot < len(g.Nodes) {
		it = g.Nodes[slot].Item
	}
	sum := 0
	for i := range max(len(it.Vec), len(q)) {
		by := 0
		if i < len(it.Vec) {
			by = int(it.Vec[i])
		}
		if i < len(q) {
			by -= int(q[i])
		}
		sum += by * by
	}
	return spot(uint64(sum), it.Id, slot)
}

// ahead tells by the document's words whether a is ahead of b.
func ahead(a, b api.Spot) bool {
	if a.Hit.Dist != b.Hit.Dist {
		return a.Hit.Dist < b.Hit.Dist
	}
	if a.Hit.Id != b.Hit.Id {
		return a.Hit.Id < b.Hit.Id
	}
	return a.Slot < b.Slot
}

// stepOf is where a step goes, by the document's words: to the neighbour that none other is ahead of, if it is ahead of the slot.
func stepOf(g api.Plane, q []int32, slot, level int) (int, bool) {
	l := near(g, slot, level)
	for _, to := range l {
		s := spotOf(g, q, to)
		beaten := slices.ContainsFunc(l, func(other int) bool { return ahead(spotOf(g, q, other), s) })
		if !beaten && ahead(s, spotOf(g, q, slot)) {
			return to, true
		}
	}
	return slot, false
}

// downOf is where one comes to from the entry, by the document's words.
func downOf(g api.Plane, q []int32) (int, bool) {
	if !there(g, g.Entry) {
		return 0, false
	}
	slot := g.Entry
	for level := 7; level >= 1; level-- {
		for is := level <= g.Top; is; {
			slot, is = stepOf(g, q, slot, level)
		}
	}
	return slot, true
}

// checkSpot fails unless the spot of a slot is want.
func checkSpot(t *testing.T, g api.Plane, q []int32, want api.Spot) {
	t.Helper()
	if got := Spot(g, q, want.Slot); got != want {
		t.Errorf("Spot(%v, %v, %d) = %v, want %v", g, q, want.Slot, got, want)
	}
}

// checkStep fails unless the step from a slot goes to want, or there is none, if that is the slot.
func checkStep(t *testing.T, g api.Plane, q []int32, slot, level, want int) {
	t.Helper()
	if got, is := Step(g, q, slot, level); got != want || is != (want != slot) {
		t.Errorf("Step(%v, %v, %d, %d) = %d, %v; want %d", g, q, slot, level, got, is, want)
	}
}

// checkLevel fails unless just these are come by, in this order, from the first of them on.
func checkLevel(t *testing.T, g api.Plane, q []int32, level int, want ...int) {
	t.Helper()
	if got := Level(g, q, want[0], level); !slices.Equal(got, want) {
		t.Errorf("Level(%v, %v, %d, %d) = %v, want %v", g, q, want[0], level, got, want)
	}
}

// checkDown fails unless down from the entry one comes to want; where that is 0, to nothing.
func checkDown(t *testing.T, g api.Plane, q []int32, want int) {
	t.Helper()
	if got, is := Down(g, q); got != want || is != (want != 0) {
		t.Errorf("Down(%v, %v) = %d, %v; want %d", g, q, got, is, want)
	}
}

// 14.1: spots of slots that are there, of the head, and of one that is not there, but has a node.
func TestSpot(t *testing.T) {
	g := some()
	checkSpot(t, g, []int32{30}, spot(100, 12, 2))
	checkSpot(t, g, []int32{30, 5, -2}, spot(129, 12, 2))
	checkSpot(t, g, []int32{70}, spot(0, 17, 7))
	checkSpot(t, g, nil, spot(100, 11, 1))
	checkSpot(t, g, []int32{30}, spot(25, 77, 0))
	checkSpot(t, g, []int32{29}, spot(1, 13, 3))
	g.Nodes[0].Item = api.Item{Id: top, Vec: []int32{0, 3}, Tags: 9}
	checkSpot(t, g, []int32{4}, spot(25, top, 0))
	// A distance is held at the greatest number.
	g.Nodes[4].Item.Vec = slices.Repeat([]int32{math.MinInt32}, 4)
	checkSpot(t, g, nil, spot(top, 14, 4))
}

// 14.1: the spots of slots that have no node are those of a zero item.
func TestSpotOfNoNode(t *testing.T) {
	for _, slot := range []int{8, 9, -1, least, most, 1<<32 + 1} {
		checkSpot(t, some(), []int32{3, -4}, spot(25, 0, slot))
		checkSpot(t, some(), nil, spot(0, 0, slot))
	}
	for _, slot := range []int{0, 1, -1, least, most} {
		checkSpot(t, api.Plane{}, []int32{6}, spot(36, 0, slot))
	}
}

// 14.1: steps to the best of some neighbours, of lists and of the ring, and none.
func TestStep(t *testing.T) {
	g := some()
	for _, c := range []struct {
		place             int32
		slot, level, want int
	}{
		// By the list alone.
		{0, 7, 1, 6}, {0, 6, 1, 2}, {0, 2, 1, 2}, {99, 6, 1, 7}, {99, 2, 1, 6}, {64, 7, 1, 6}, {66, 6, 1, 7}, {66, 7, 1, 7},
		// On level 0 by the ring, too, ahead and behind.
		{10, 7, 0, 4}, {0, 6, 0, 2}, {60, 4, 0, 6}, {90, 1, 0, 5}, {90, 2, 0, 6}, {20, 5, 0, 2}, {10, 5, 0, 1},
		// Of two neighbours that are ahead to the one that is ahead of the other, wherever it stands.
		{10, 4, 0, 2}, {52, 4, 0, 5}, {58, 4, 0, 6}, {66, 4, 0, 7},
		// None: there is no neighbour, or none is ahead.
		{0, 7, 2, 7}, {70, 7, 0, 7}, {70, 7, 1, 7}, {68, 7, 0, 7}, {40, 4, 0, 4}, {0, 1, 0, 1},
		// None: the slot has not that level.
		{0, 7, 3, 7}, {0, 7, 8, 7}, {0, 7, -1, 7}, {0, 7, least, 7}, {0, 7, most, 7}, {0, 4, 1, 4},
	} {
		checkStep(t, g, []int32{c.place}, c.slot, c.level, c.want)
	}
}

// 14.1: from the head on to those next to it in the ring, on level 0 alone; its list says nothing, and none leads to it.
func TestStepAndHead(t *testing.T) {
	g := some()
	g.Nodes[0].Lists = [][]int{{4}, {4}}
	checkStep(t, g, []int32{40}, 0, 0, 0)
	checkStep(t, g, []int32{17}, 0, 0, 1)
	checkStep(t, g, []int32{60}, 0, 0, 7)
	checkStep(t, g, []int32{40}, 0, 1, 0)
	g.Nodes[1].Lists[0] = []int{0, 2}
	checkStep(t, g, []int32{25}, 1, 0, 2)
	g.Nodes[1].Lists[0] = []int{0}
	checkStep(t, g, []int32{14}, 1, 0, 1)
	checkStep(t, g, []int32{72}, 7, 0, 7)
	g.Nodes[0].Item.Vec[0] = 72
	checkStep(t, g, []int32{72}, 7, 0, 7)
}

// 14.1: no step leads to a slot that is not there, though it is near; from one that has no node none leads on.
func TestStepAndNotThere(t *testing.T) {
	g := some()
	g.Nodes[2].Lists[0] = []int{3, -1, least, most, 8, 4, 1}
	checkStep(t, g, []int32{30}, 2, 0, 2)
	checkStep(t, g, []int32{31}, 2, 0, 4)
	for _, slot := range []int{8, -1, least, most, 1<<32 + 1} {
		for _, level := range []int{-1, 0, 1} {
			checkStep(t, g, []int32{70}, slot, level, slot)
			checkLevel(t, g, []int32{70}, level, slot)
		}
	}
	for _, slot := range []int{0, 1, -1, most} {
		checkStep(t, api.Plane{}, nil, slot, 0, slot)
		checkLevel(t, api.Plane{}, nil, 0, slot)
	}
	// One that is not there, but has neighbours, is next to them.
	g.Nodes[3].Lists = [][]int{{4, 2}}
	checkStep(t, g, []int32{39}, 3, 0, 4)
	checkLevel(t, g, []int32{0}, 0, 3, 2, 1)
}

// 14.1: where distances are equal the id tells, and where ids are the slot does.
func TestStepOfEquals(t *testing.T) {
	for _, c := range []struct {
		ids  [5]uint64
		want [5]int // by slots
	}{
		{[5]uint64{0, 9, 8, 7, 6}, [5]int{0, 4, 4, 4, 4}},
		{[5]uint64{0, 6, 7, 8, 9}, [5]int{0, 1, 1, 1, 1}},
		{[5]uint64{0, 5, 5, 5, 5}, [5]int{0, 1, 1, 1, 1}},
		{[5]uint64{0, 6, 5, 5, 6}, [5]int{0, 2, 2, 2, 2}},
		{[5]uint64{0, top, top, top - 1, top - 1}, [5]int{0, 3, 3, 3, 3}},
	} {
		for _, places := range [][]int32{{4, 4, 4, 4}, {4, -4, 4, -4}} {
			g := api.Plane{Nodes: make([]api.Node, 5)}
			for slot := 1; slot < 5; slot++ {
				g.Nodes[slot] = node(c.ids[slot], places[slot-1], 0, 0, nil, []int{3, 1, 4, 2})
			}
			for slot := 1; slot < 5; slot++ {
				checkStep(t, g, []int32{0}, slot, 1, c.want[slot])
			}
		}
	}
}

// 14.1: all slots that are come by, the first and the last, too.
func TestLevel(t *testing.T) {
	g := some()
	checkLevel(t, g, []int32{0}, 1, 7, 6, 2)
	checkLevel(t, g, []int32{0}, 1, 2)
	checkLevel(t, g, []int32{99}, 1, 2, 6, 7)
	checkLevel(t, g, []int32{0}, 2, 7)
	checkLevel(t, g, []int32{0}, 9, 7)
	checkLevel(t, g, []int32{0}, -1, 7)
	checkLevel(t, g, []int32{0}, 0, 7, 4, 2, 1)
	checkLevel(t, g, []int32{52}, 0, 7, 6, 5)
	checkLevel(t, g, []int32{17}, 0, 0, 1, 2)
	checkLevel(t, g, []int32{25}, 0, 0)
}

// 14.2: from the entry on, on all levels down to 1, and not on level 0.
func TestDown(t *testing.T) {
	g := some()
	for _, c := range []struct {
		place int32
		want  int
	}{
		{0, 2}, {10, 2}, {20, 2}, {39, 2}, {41, 6}, {50, 6}, {64, 6}, {66, 7}, {99, 7},
	} {
		checkDown(t, g, []int32{c.place}, c.want)
	}
	// Where it stands in the middle two are as far off, and the id tells.
	checkDown(t, g, []int32{65}, 6)
	g.Entry, g.Top = 2, 1
	checkDown(t, g, []int32{99}, 7)
	g.Entry, g.Top = 1, 0
	checkDown(t, g, []int32{99}, 1)
	g.Entry = 5
	checkDown(t, g, []int32{0}, 5)
}

// 14.2: a top below 1 has no levels, one above the most has that many; the entry may have fewer.
func TestDownFromTop(t *testing.T) {
	g := some()
	for _, level := range []int{0, -1, least} {
		g.Top = level
		checkDown(t, g, []int32{0}, 7)
	}
	for _, level := range []int{1, 2, 3, 7, 8, most} {
		g.Top = level
		checkDown(t, g, []int32{0}, 2)
	}
	g = ladder()
	for _, c := range []struct{ entry, top, want int }{
		// Levels fall, so each has its step.
		{7, 7, 1}, {6, 7, 1}, {5, 5, 1}, {7, 8, 1}, {7, most, 1}, {3, 7, 1},
		// Below its own level the entry has no neighbours, and above the most none is looked at.
		{7, 6, 7}, {8, 7, 8}, {8, 8, 8}, {8, most, 8}, {9, 9, 9}, {10, 10, 10}, {2, 1, 2}, {2, 0, 2}, {1, 1, 1},
	} {
		g.Entry, g.Top = c.entry, c.top
		checkDown(t, g, []int32{0}, c.want)
	}
}

// 14.2: an entry that is not there leads nowhere.
func TestDownFromNowhere(t *testing.T) {
	for _, entry := range []int{0, 3, 8, -1, least, most, 1<<32 + 7} {
		g := some()
		g.Entry = entry
		checkDown(t, g, []int32{0}, 0)
		g.Nodes = nil
		checkDown(t, g, []int32{0}, 0)
	}
	checkDown(t, api.Plane{}, nil, 0)
	checkDown(t, api.Plane{Nodes: make([]api.Node, 1)}, nil, 0)
}

// checkSteps fails unless each step of a way leads to a spot ahead, and none leads on from its end: 14.3.
func checkSteps(t *testing.T, g api.Plane, q []int32, level int, way []int) {
	t.Helper()
	for i := 1; i < len(way); i++ {
		if !ahead(spotOf(g, q, way[i]), spotOf(g, q, way[i-1])) {
			t.Fatalf("in %v on level %d, for %v, the way %v does not lead downhill", g, level, q, way)
		}
		if !slices.Contains(near(g, way[i-1], level), way[i]) {
			t.Fatalf("in %v on level %d the way %v leaps", g, level, way)
		}
	}
	if next, is := Step(g, q, way[len(way)-1], level); is || next != way[len(way)-1] {
		t.Fatalf("in %v on level %d the way %v leads on to %d", g, level, way, next)
	}
}

// 14.1 to 14.3: planes of all kinds, right ones and others, held against the document's words.
func TestOfMany(t *testing.T) {
	d, long, downs := draws(1), 0, 0
	for range 60000 {
		g, q, slot, level := d.plane(), d.vector(), d.number(), d.below(10)-1
		checkSpot(t, g, q, spotOf(g, q, slot))
		want, _ := stepOf(g, q, slot, level)
		checkStep(t, g, q, slot, level, want)
		way := []int{slot}
		for next, is := stepOf(g, q, slot, level); is; next, is = stepOf(g, q, next, level) {
			way = append(way, next)
		}
		checkLevel(t, g, q, level, way...)
		end, _ := downOf(g, q)
		checkDown(t, g, q, end)
		if t.Failed() {
			return
		}
		checkSteps(t, g, q, level, Level(g, q, slot, level))
		if len(way) > 2 {
			long++
		}
		if end != 0 && end != g.Entry {
			downs++
		}
	}
	if long < 300 || downs < 3000 {
		t.Errorf("%d ways are long, and %d lead down", long, downs)
	}
}

// 14.1 and 14.2: a long way, with a list for each slot.
func TestLongWay(t *testing.T) {
	const n = api.MaxCap
	g := api.Plane{Nodes: make([]api.Node, n+1), Entry: n, Top: 1}
	for slot := range g.Nodes {
		g.Nodes[slot] = node(uint64(slot), int32(slot), (slot+1)%(n+1), (slot+n)%(n+1), nil, []int{slot - 1, slot + 1})
	}
	for _, level := range []int{0, 1} {
		way := Level(g, nil, n, level)
		slices.Reverse(way)
		if len(way) != n || way[0] != 1 || !slices.IsSorted(way) {
			t.Errorf("on level %d the way has %d slots, the last is %d", level, len(way), way[0])
		}
	}
	checkDown(t, g, nil, 1)
	checkDown(t, g, []int32{1000}, 1000)
}

// 14.1 and 14.2: what is handed in stays as it is, and a way is new.
func TestPlaneStays(t *testing.T) {
	g, q := some(), []int32{0}
	before := fmt.Sprint(g, q)
	for _, level := range []int{0, 1} {
		Spot(g, q, 7)
		Step(g, q, 7, level)
		Down(g, q)
		way := Level(g, q, 7, level)
		told := fmt.Sprint(way)
		clear(way[:cap(way)])
		if after := fmt.Sprint(g, q); after != before {
			t.Fatalf("%s became %s", before, after)
		}
		if again := fmt.Sprint(Level(g, q, 7, level)); again != told {
			t.Errorf("an answer is kept: %s, it was %s", again, told)
		}
	}
}
