package reach

import (
	"fmt"
	"math"
	"slices"
	"testing"

	"ganglion/api"
	"ganglion/plane"
)

const (
	most  = math.MaxInt
	least = math.MinInt
)

// draws tells numbers that look like chance, the same ones each time.
type draws uint64

func (d *draws) next() uint64 {
	*d = *d*6364136223846793005 + 1442695040888963407
	return uint64(*d >> 32)
}

// below has a number from 0 to below n.
func (d *draws) below(n int) int {
	return int(d.next() % uint64(n))
}

// number has few numbers, and now and then those at both ends.
func (d *draws) number() int {
	if d.below(12) == 0 {
		return []int{least, -2, 1 << 32, most}[d.below(4)]
	}
	return d.below(14) - 1
}

// slots has some of the numbers that there are, also twice.
func (d *draws) slots() []int {
	l := make([]int, d.below(4))
	for i := range l {
		l[i] = d.number()
	}
	return l
}

// wrong is a plane of few nodes that name whatever there may be: hardly one is right.
func (d *draws) wrong() api.Plane {
	g := api.Plane{Nodes: make([]api.Node, d.below(13)), Entry: d.number(), Top: d.number()}
	for i := range g.Nodes {
		n := &g.Nodes[i]
		n.Next, n.Prev, n.Level = d.number(), d.number(), d.below(5)-1
		n.Lists = make([][]int, d.below(4))
		for level := range n.Lists {
			for range d.below(3) {
				n.Lists[level] = append(n.Lists[level], d.number())
			}
		}
	}
	return g
}

// right is a plane of few nodes that is right for these links.
func (d *draws) right(links int) api.Plane {
	g, n := plane.New(), d.below(14)
	for id := range n {
		g, _, _ = plane.Put(g, api.Item{Id: uint64(id)}, d.below(3), links)
	}
	for range d.below(2*n + 1) {
		g, _ = plane.Link(g, 1+d.below(n), 1+d.below(n), d.below(3), links)
	}
	for range d.below(4) {
		g, _ = plane.Drop(g, 1+d.below(n+1), links)
	}
	return g
}

// node is one with those next to it in the ring, and a list for each level.
func node(next, prev int, lists ...[]int) api.Node {
	return api.Node{Level: len(lists) - 1, Lists: lists, Next: next, Prev: prev}
}

// some is a plane whose slot 3 is not there, but says that 2 is next to it.
//
//	level 2: 7
//	level 1: 7 - 6 - 2, 8 - 4
//	level 0: 7 - 6 - 5
//	ring: 0 1 5 2 8 6 4 7 0
func some() api.Plane {
	return api.Plane{
		Nodes: []api.Node{
			node(1, 7),
			node(5, 0, nil),
			node(8, 5, nil, []int{6}),
			node(-1, 2, []int{2}, []int{2}),
			node(7, 6, nil, []int{8}),
			node(2, 1, []int{6}),
			node(4, 8, []int{7, 5}, []int{7, 2}),
			node(0, 4, []int{6}, []int{6}, nil),
			node(6, 2, nil, []int{4}),
		},
		Entry: 7,
		Top:   2,
	}
}

// oneWay is a plane without a ring, where each slot but the first names the one below it on the levels 0 and 1, and nothing leads back.
func oneWay(n int) api.Plane {
	g := api.Plane{Nodes: make([]api.Node, n+1)}
	for slot := 1; slot <= n; slot++ {
		g.Nodes[slot] = node(0, 0, []int{slot - 1}, []int{slot - 1})
	}
	return g
}

// there is a slot that is there, by the document's words.
func there(g api.Plane, slot int) bool {
	return slot >= 1 && slot < len(g.Nodes) && !(g.Nodes[slot].Next < 0)
}

// near are the slots next to one that are there, by the document's words: some may be told twice.
func near(g api.Plane, slot, level int) []int {
	if slot < 0 || slot >= len(g.Nodes) {
		return nil
	}
	n := g.Nodes[slot]
	var l []int
	if slot > 0 && level >= 0 && level < len(n.Lists) {
		l = append(l, n.Lists[level]...)
	}
	if level == 0 {
		l = append(l, n.Next, n.Prev)
	}
	return slices.DeleteFunc(l, func(other int) bool { return !there(g, other) })
}

// stepsOf tells by the document's words of each slot that is there in how many steps it is reached, or -1: each round takes one step more.
func stepsOf(g api.Plane, starts []int, level int) []int {
	steps := slices.Repeat([]int{-1}, len(g.Nodes))
	for _, slot := range starts {
		if there(g, slot) {
			steps[slot] = 0
		}
	}
	for n := 1; n <= len(g.Nodes); n++ {
		from := slices.Clone(starts)
		for slot, by := range steps {
			if by >= 0 {
				from = append(from, slot)
			}
		}
		for _, slot := range from {
			for _, to := range near(g, slot, level) {
				if steps[to] < 0 {
					steps[to] = n
				}
			}
		}
	}
	return steps
}

// fromOf is what is reached, by the document's words.
func fromOf(g api.Plane, starts []int, level int) []int {
	var l []int
	for slot, n := range stepsOf(g, starts, level) {
		if n >= 0 {
			l = append(l, slot)
		}
	}
	return l
}

// groupsOf are the groups, by the document's words.
func groupsOf(g api.Plane, level int) [][]int {
	var groups [][]int
	for slot := range g.Nodes {
		in := func(group []int) bool { return slices.Contains(group, slot) }
		if there(g, slot) && g.Nodes[slot].Level >= level && !slices.ContainsFunc(groups, in) {
			groups = append(groups, fromOf(g, []int{slot}, level))
		}
	}
	return groups
}

// checkFrom fails unless just these are reached, rising.
func checkFrom(t *testing.T, g api.Plane, starts []int, level int, want ...int) {
	t.Helper()
	if got := From(g, starts, level); !slices.Equal(got, want) {
		t.Errorf("From(%v, %v, %d) = %v, want %v", g, starts, level, got, want)
	}
}

// checkGroups fails unless just these are the groups, in this order.
func checkGroups(t *testing.T, g api.Plane, level int, want ...[]int) {
	t.Helper()
	if got := Groups(g, level); !slices.EqualFunc(got, want, slices.Equal) {
		t.Errorf("Groups(%v, %d) = %v, want %v", g, level, got, want)
	}
}

// checkWhole fails unless g is whole, or is not, as wanted.
func checkWhole(t *testing.T, g api.Plane, want bool) {
	t.Helper()
	if got := Whole(g); got != want {
		t.Errorf("Whole(%v) = %v", g, got)
	}
}

// checkSteps fails unless it takes so many steps; where that is below 0, none may lead there.
func checkSteps(t *testing.T, g api.Plane, from, to, level, want int) {
	t.Helper()
	if got, is := Steps(g, from, to, level); got != max(want, 0) || is != (want >= 0) {
		t.Errorf("Steps(%v, %d, %d, %d) = %d, %v; want %d", g, from, to, level, got, is, want)
	}
}

// 16.1: what is reached, by the lists of that level alone, and on level 0 by the ring, too.
func TestFrom(t *testing.T) {
	g := some()
	for _, c := range []struct {
		starts []int
		level  int
		want   []int
	}{
		{[]int{7}, 1, []int{2, 6, 7}},
		{[]int{2}, 1, []int{2, 6, 7}},
		{[]int{8}, 1, []int{4, 8}},
		{[]int{8, 2}, 1, []int{2, 4, 6, 7, 8}},
		{[]int{5}, 1, []int{5}},
		{[]int{5, 1, 5, 4, 1}, 1, []int{1, 4, 5, 8}},
		{[]int{7}, 2, []int{7}},
		{[]int{7, 1}, 2, []int{1, 7}},
		{[]int{5}, 0, []int{1, 2, 4, 5, 6, 7, 8}},
		// A level that no node has has no neighbours.
		{[]int{7, 2}, 3, []int{2, 7}},
		{[]int{7, 2}, 8, []int{2, 7}},
		{[]int{7, 2}, -1, []int{2, 7}},
		{[]int{7, 2}, most, []int{2, 7}},
		{[]int{7, 2}, least, []int{2, 7}},
	} {
		checkFrom(t, g, c.starts, c.level, c.want...)
	}
	for _, level := range []int{0, 1, 2, -1} {
		checkFrom(t, g, nil, level)
		checkFrom(t, g, []int{}, level)
	}
}

// 16.1: the head may be a start: from there one comes to both ends of the ring, on level 0 alone; it is never reached.
func TestFromHead(t *testing.T) {
	g := some()
	g.Nodes[0].Lists = [][]int{{4}, {4, 7}}
	checkFrom(t, g, []int{0}, 0, 1, 2, 4, 5, 6, 7, 8)
	checkFrom(t, g, []int{0}, 1)
	checkFrom(t, g, []int{0, 6}, 1, 2, 6, 7)
	g = oneWay(3)
	checkFrom(t, g, []int{0}, 0)
	g.Nodes[0].Next = 2
	checkFrom(t, g, []int{0}, 0, 1, 2)
	g.Nodes[0].Next, g.Nodes[0].Prev = -1, 2
	checkFrom(t, g, []int{0}, 0, 1, 2)
	g.Nodes[1].Lists[0] = []int{0}
	g.Nodes[0].Prev = 3
	checkFrom(t, g, []int{1}, 0, 1)
}

// 16.1: a start that is not there is not reached, though its neighbours are; one without a node has none.
func TestFromNotThere(t *testing.T) {
	g := some()
	checkFrom(t, g, []int{3}, 1, 2, 6, 7)
	checkFrom(t, g, []int{3, 8, 3}, 1, 2, 4, 6, 7, 8)
	checkFrom(t, g, []int{3}, 2)
	g.Nodes[3].Lists = nil
	checkFrom(t, g, []int{3}, 1)
	checkFrom(t, g, []int{3}, 0, 1, 2, 4, 5, 6, 7, 8)
	for _, level := range []int{0, 1, 2, -1} {
		checkFrom(t, g, []int{9, -1, least, most, 1<<32 + 1}, level)
		checkFrom(t, api.Plane{}, []int{0, 1, -1, most}, level)
		checkFrom(t, plane.New(), []int{0, 1, -1, most}, level)
	}
	checkFrom(t, g, []int{9, -1, 7, least, most}, 1, 2, 6, 7)
	// None leads through one that is not there.
	g = oneWay(5)
	g.Nodes[3].Next = -1
	checkFrom(t, g, []int{5}, 1, 4, 5)
	checkFrom(t, g, []int{3}, 1, 1, 2)
}

// 16.1: neighbours are followed one way, where the others do not name them.
func TestFromOneWay(t *testing.T) {
	for _, level := range []int{0, 1} {
		g := oneWay(5)
		checkFrom(t, g, []int{1}, level, 1)
		checkFrom(t, g, []int{3}, level, 1, 2, 3)
		checkFrom(t, g, []int{2, 4, 2}, level, 1, 2, 3, 4)
		// What is reached may be of a lower level.
		g.Nodes[2].Level, g.Nodes[1].Level = 0, -1
		checkFrom(t, g, []int{3}, level, 1, 2, 3)
	}
}

// 16.1: whole is what is reached from the head on level 0, by lists, or by the ring.
func TestWhole(t *testing.T) {
	checkWhole(t, some(), true)
	g := oneWay(4)
	checkWhole(t, g, false)
	g.Nodes[0].Next = 3
	checkWhole(t, g, false)
	g.Nodes[4].Next = -1
	checkWhole(t, g, true)
	g.Nodes[4].Next, g.Nodes[0].Next, g.Nodes[0].Prev = 0, 0, 4
	checkWhole(t, g, true)
	g.Nodes[2].Lists[0] = nil
	checkWhole(t, g, false)
	// Neither its level nor its lists of others help one, nor that it leads to others, nor the entry, nor the head's lists.
	g.Nodes[2].Lists[1], g.Nodes[2].Next, g.Entry, g.Top = []int{1}, 2, 1, 1
	g.Nodes[0].Lists = [][]int{{1}, {1}}
	checkWhole(t, g, false)
	g.Nodes[1].Level = -4
	checkWhole(t, g, false)
	g.Nodes[2].Prev = 1
	checkWhole(t, g, true)
}

// 16.1, example 1: an empty plane is whole, and has no groups.
func TestEmpty(t *testing.T) {
	gone := api.Node{Next: -1, Prev: -1}
	for _, g := range []api.Plane{{}, plane.New(), {Entry: 1, Top: 1}, {Nodes: []api.Node{gone}}, {Nodes: []api.Node{{Next: 1, Prev: 2}, gone, gone}}} {
		checkWhole(t, g, true)
		for _, level := range []int{0, 1, 7, 8, -1, least, most} {
			checkGroups(t, g, level)
			checkSteps(t, g, 0, 1, level, -1)
			checkSteps(t, g, 0, 0, level, -1)
			checkSteps(t, g, 1, 1, level, -1)
		}
	}
}

// 16.1: groups of some levels, each of which has the slots of that level alone.
func TestGroups(t *testing.T) {
	g := some()
	checkGroups(t, g, 0, []int{1, 2, 4, 5, 6, 7, 8})
	checkGroups(t, g, 1, []int{2, 6, 7}, []int{4, 8})
	checkGroups(t, g, 2, []int{7})
	for _, level := range []int{3, 7, 8, most} {
		checkGroups(t, g, level)
	}
	// Each one that is there has a level that is below 0, but no neighbours on it.
	alone := [][]int{{1}, {2}, {4}, {5}, {6}, {7}, {8}}
	checkGroups(t, g, -1, alone...)
	checkGroups(t, g, least, alone...)
	// One without neighbours is a group.
	g.Nodes[6].Lists[1], g.Nodes[7].Lists[1], g.Nodes[2].Lists[1] = []int{2}, nil, []int{6}
	checkGroups(t, g, 1, []int{2, 6}, []int{4, 8}, []int{7})
	// Groups that are woven into each other stand as their least slots do.
	g.Nodes[2].Lists[1], g.Nodes[7].Lists[1] = []int{7}, []int{2}
	g.Nodes[4].Lists[1], g.Nodes[6].Lists[1] = []int{6, 8}, []int{4}
	checkGroups(t, g, 1, []int{2, 7}, []int{4, 6, 8})
}

// 16.1: in a plane that is not right each group is what is reached from its first slot, whatever else that has.
func TestGroupsOneWay(t *testing.T) {
	g := oneWay(3)
	checkGroups(t, g, 1, []int{1}, []int{1, 2}, []int{1, 2, 3})
	g.Nodes[1].Lists[1] = []int{3}
	checkGroups(t, g, 1, []int{1, 2, 3})
	// One that has not the level begins no group, but may be reached.
	g = oneWay(3)
	g.Nodes[1].Level = 0
	checkGroups(t, g, 1, []int{1, 2}, []int{1, 2, 3})
	g.Nodes[1].Level, g.Nodes[2].Level, g.Nodes[3].Level = -1, -3, 0
	checkGroups(t, g, 0, []int{1, 2, 3})
	checkGroups(t, g, -2, []int{1}, []int{3})
	// One that has the level, but no list of it, is a group; one that is not there is none.
	g.Nodes[2] = api.Node{Level: 1}
	g.Nodes[3] = api.Node{Next: -1, Prev: -1, Level: 1, Lists: [][]int{{2}, {2}}}
	checkGroups(t, g, 1, []int{2})
}

// 16.2: the least number of steps, where there are ways of several lengths, and none.
func TestSteps(t *testing.T) {
	g := some()
	for _, c := range []struct{ from, to, level, want int }{
		{7, 7, 1, 0}, {7, 6, 1, 1}, {7, 2, 1, 2}, {2, 7, 1, 2}, {4, 8, 1, 1},
		{7, 4, 1, -1}, {4, 2, 1, -1}, {7, 1, 1, -1}, {1, 7, 1, -1},
		// By the ring, ahead and behind, or by lists, whichever is less.
		{1, 5, 0, 1}, {5, 1, 0, 1}, {1, 2, 0, 2}, {1, 6, 0, 2}, {5, 7, 0, 2}, {1, 7, 0, 3}, {1, 4, 0, 3}, {1, 8, 0, 3}, {2, 7, 0, 3}, {4, 2, 0, 3},
		// From where one is it is none, on each level, if it is there.
		{1, 1, 0, 0}, {1, 1, 1, 0}, {1, 1, -1, 0}, {1, 1, least, 0}, {1, 1, most, 0}, {3, 3, 0, -1}, {0, 0, 0, -1}, {9, 9, 0, -1},
		// On levels that none has there is no step.
		{7, 6, 2, -1}, {7, 6, 8, -1}, {7, 6, -1, -1}, {7, 6, most, -1},
		// From the head on, on level 0 alone; and none leads to it.
		{0, 1, 0, 1}, {0, 7, 0, 1}, {0, 6, 0, 2}, {0, 2, 0, 3}, {0, 7, 1, -1}, {1, 0, 0, -1}, {7, 0, 0, -1},
		// From one that is not there, but has neighbours; to it none leads.
		{3, 2, 1, 1}, {3, 7, 1, 3}, {3, 4, 1, -1}, {2, 3, 1, -1}, {2, 3, 0, -1},
		// From and to what has no node.
		{9, 1, 0, -1}, {-1, 1, 0, -1}, {least, 1, 0, -1}, {most, 1, 0, -1}, {1<<32 + 1, 1, 0, -1},
		{1, 9, 0, -1}, {1, -1, 0, -1}, {1, least, 0, -1}, {1, most, 0, -1}, {1, 1<<32 + 1, 0, -1},
	} {
		checkSteps(t, g, c.from, c.to, c.level, c.want)
	}
	g = oneWay(6)
	checkSteps(t, g, 6, 1, 1, 5)
	checkSteps(t, g, 1, 6, 1, -1)
	g.Nodes[6].Lists[1] = []int{5, 2}
	checkSteps(t, g, 6, 1, 1, 2)
	checkSteps(t, g, 6, 3, 1, 3)
	g.Nodes[3].Next = -1
	checkSteps(t, g, 6, 3, 1, -1)
	checkSteps(t, g, 5, 1, 1, -1)
}

// checkAll holds all calls of a plane against the document's words.
func checkAll(t *testing.T, d *draws, g api.Plane) {
	t.Helper()
	starts, level := d.slots(), d.below(6)-2
	checkFrom(t, g, starts, level, fromOf(g, starts, level)...)
	checkGroups(t, g, level, groupsOf(g, level)...)
	live := 0
	for slot := range g.Nodes {
		if there(g, slot) {
			live++
		}
	}
	checkWhole(t, g, len(fromOf(g, []int{0}, 0)) == live)
	from, to, want := d.number(), d.number(), -1
	if there(g, to) {
		want = stepsOf(g, []int{from}, level)[to]
	}
	checkSteps(t, g, from, to, level, want)
}

// 16.1 and 16.2: planes of all kinds, held against the document's words.
func TestOfMany(t *testing.T) {
	d, whole, many := draws(1), 0, 0
	for range 30000 {
		g := d.wrong()
		checkAll(t, &d, g)
		if t.Failed() {
			return
		}
		if len(plane.Live(g)) > 4 && Whole(g) {
			whole++
		}
		if len(Groups(g, 1)) > 2 {
			many++
		}
	}
	if whole < 1000 || many < 3000 {
		t.Errorf("%d planes alone are whole, %d have groups", whole, many)
	}
}

// 16.3: right planes are whole, and their groups have each slot of a level once; in each of them all are reached from each other, and from no other one.
func TestRightOnes(t *testing.T) {
	d, many := draws(2), 0
	for range 8000 {
		links := 1 + d.below(3)
		g := d.right(links)
		if why := plane.Check(g, links); why != api.OK {
			t.Fatalf("%v is not right: %d", g, why)
		}
		checkAll(t, &d, g)
		checkWhole(t, g, true)
		for level := range 4 {
			groups := Groups(g, level)
			checkOnce(t, g, level, groups)
			for _, group := range groups {
				for _, slot := range group {
					checkFrom(t, g, []int{slot}, level, group...)
				}
			}
			if level > 0 && len(groups) > 2 {
				many++
			}
		}
		if t.Failed() {
			return
		}
	}
	if many < 1000 {
		t.Errorf("%d levels alone have groups", many)
	}
}

// checkOnce fails unless the groups have each slot of the level once, and no other one.
func checkOnce(t *testing.T, g api.Plane, level int, groups [][]int) {
	t.Helper()
	all := slices.Concat(groups...)
	slices.Sort(all)
	var want []int
	for slot := range g.Nodes {
		if there(g, slot) && g.Nodes[slot].Level >= level {
			want = append(want, slot)
		}
	}
	if !slices.Equal(all, want) {
		t.Errorf("in %v on level %d the groups are %v", g, level, groups)
	}
}

// 16.1 and 16.2: many slots, in one ring and in as many groups.
func TestLongRing(t *testing.T) {
	const n = api.MaxCap
	g := api.Plane{Nodes: make([]api.Node, n+1)}
	for slot := range g.Nodes {
		g.Nodes[slot] = node((slot+1)%(n+1), (slot+n)%(n+1), nil, nil)
		g.Nodes[slot].Item.Id = uint64(slot)
	}
	if why := plane.Check(g, 1); why != api.OK {
		t.Fatalf("it is not right: %d", why)
	}
	checkWhole(t, g, true)
	if l := From(g, []int{7}, 0); len(l) != n || !slices.IsSorted(l) {
		t.Errorf("there are %d", len(l))
	}
	if l := Groups(g, 0); len(l) != 1 || len(l[0]) != n {
		t.Errorf("there are %d groups", len(l))
	}
	if l := Groups(g, 1); len(l) != n || l[n-1][0] != n {
		t.Errorf("there are %d groups", len(l))
	}
	if got, is := Steps(g, 1, n, 0); got != n-1 || !is {
		t.Errorf("there are %d steps, %v", got, is)
	}
	if got, is := Steps(g, 0, n/2, 0); got != n/2 || !is {
		t.Errorf("there are %d steps, %v", got, is)
	}
}

// 16.1 and 16.2: what is handed in stays as it is, and answers are new, also those of one call.
func TestPlaneStays(t *testing.T) {
	g, starts := some(), []int{7, 3, 1, 7}
	before := fmt.Sprint(g, starts)
	for range 2 {
		from, groups := From(g, starts, 1), Groups(g, 1)
		Whole(g)
		Steps(g, 1, 7, 0)
		told := fmt.Sprint(from, groups)
		second := fmt.Sprint(groups[1])
		clear(from[:cap(from)])
		clear(groups[0][:cap(groups[0])])
		if after := fmt.Sprint(groups[1]); after != second {
			t.Errorf("a group became %s, it was %s", after, second)
		}
		clear(groups[:cap(groups)])
		if after := fmt.Sprint(g, starts); after != before {
			t.Fatalf("%s became %s", before, after)
		}
		if again := fmt.Sprint(From(g, starts, 1), Groups(g, 1)); again != told {
			t.Errorf("an answer is kept: %s, it was %s", again, told)
		}
	}
}
