package plane

import (
	"fmt"
	"math"
	"slices"
	"testing"

	"ganglion/api"
)

const (
	top   = math.MaxUint64
	most  = math.MaxInt
	least = math.MinInt
)

// draws tells numbers that look like chance, the same ones each time.
type draws uint64

func (d *draws) next() uint64 {
	*d = *d*6364136223846793005 + 1442695040888963407
	return uint64(*d >> 32)
}

// below has a number from 0 to below n.
func (d *draws) below(n int) int {
	return int(d.next() % uint64(n))
}

// number has few numbers, and now and then those at both ends.
func (d *draws) number() int {
	if d.below(12) == 0 {
		return []int{least, -2, 1 << 32, most}[d.below(4)]
	}
	return d.below(8) - 1
}

// list has up to so many numbers.
func (d *draws) list(n int) []int {
	l := make([]int, d.below(n+1))
	for i := range l {
		l[i] = d.number()
	}
	return l
}

// item is that of an id, with a vector of its own.
func item(id int) api.Item {
	return api.Item{Id: uint64(id), Vec: []int32{int32(id), -1}, Tags: uint64(id) << 8}
}

// node is one of an id, with those next to it in the ring, and a list for each level.
func node(id, next, prev int, lists ...[]int) api.Node {
	return api.Node{Item: item(id), Level: len(lists) - 1, Lists: lists, Next: next, Prev: prev}
}

// gone is the node of a slot that is not there.
func gone() api.Node {
	return api.Node{Next: -1, Prev: -1}
}

// same tells whether two planes are one: lists that are nil, and those without elements, are.
func same(a, b api.Plane) bool {
	return fmt.Sprint(a) == fmt.Sprint(b)
}

// kept calls see, and fails unless g is behind it what it was ahead.
func kept(t *testing.T, g api.Plane, see func()) {
	t.Helper()
	before := fmt.Sprint(g)
	see()
	if after := fmt.Sprint(g); after != before {
		t.Fatalf("a plane that was handed in became %s, it was %s", after, before)
	}
}

// spoil changes all that g's memory has.
func spoil(g api.Plane) {
	for i := range g.Nodes {
		n := &g.Nodes[i]
		for k := range n.Item.Vec {
			n.Item.Vec[k] = -99
		}
		for k := range n.Lists {
			for j := range n.Lists[k] {
				n.Lists[k][j] = -99
			}
			// What stands behind a list could be another's.
			n.Lists[k] = append(n.Lists[k], -99)
		}
		n.Lists = append(n.Lists, []int{-99})
		n.Level, n.Next, n.Prev, n.Item.Id, n.Item.Tags = -99, -99, -99, 99, 99
	}
	clear(g.Nodes)
}

// some is a right plane of links 1 with four nodes that are there, in the slots 1, 2, 4 and 5; slot 3 is not.
//
//	level 1: 2 - 4
//	level 0: 1 - 2 - 4, 5
func some() api.Plane {
	return api.Plane{
		Nodes: []api.Node{
			{Next: 4, Prev: 5},
			node(10, 2, 4, []int{2}),
			node(20, 5, 1, []int{1, 4}, []int{4}),
			gone(),
			node(40, 1, 0, []int{2}, []int{2}, nil),
			node(50, 0, 2, nil),
		},
		Entry: 4,
		Top:   2,
	}
}

// there is a slot that is there, by the document's words.
func there(g api.Plane, slot int) bool {
	return slot >= 1 && slot < len(g.Nodes) && !(g.Nodes[slot].Next < 0)
}

// onRing is a slot that those in the ring may have beside them.
func onRing(g api.Plane, slot int) bool {
	return slot == 0 || there(g, slot)
}

// rightList tells by the document's words whether the list of a slot that is there may be, for links that are from 1 to MaxLinks.
func rightList(g api.Plane, slot, level, links int) bool {
	l := g.Nodes[slot].Lists[level]
	if level == 0 {
		links *= 2
	}
	if len(l) > links {
		return false
	}
	for i, other := range l {
		if other == slot || !there(g, other) || slices.Contains(l[i+1:], other) {
			return false
		}
		n := g.Nodes[other]
		if n.Level < level || len(n.Lists) <= level || !slices.Contains(n.Lists[level], slot) {
			return false
		}
	}
	return true
}

// rightNode tells by the document's words whether a slot's node may be.
func rightNode(g api.Plane, slot, links int) bool {
	n := g.Nodes[slot]
	if slot > 0 && n.Next < 0 {
		return n.Next == -1 && n.Prev == -1 && n.Level == 0 && len(n.Lists) == 0
	}
	if !onRing(g, n.Next) || !onRing(g, n.Prev) || g.Nodes[n.Next].Prev != slot {
		return false
	}
	if slot == 0 {
		return true
	}
	if n.Level < 0 || n.Level > 7 || len(n.Lists)-1 != n.Level {
		return false
	}
	for level := range n.Lists {
		if !rightList(g, slot, level, links) {
			return false
		}
	}
	for other := range g.Nodes {
		if other != slot && there(g, other) && g.Nodes[other].Item.Id == n.Item.Id {
			return false
		}
	}
	return true
}

// right tells by the document's words whether g is right for links.
func right(g api.Plane, links int) bool {
	if len(g.Nodes) < 1 || len(g.Nodes) > 4097 {
		return false
	}
	live := 0
	for slot := range g.Nodes {
		if !rightNode(g, slot, min(max(links, 1), 32)) {
			return false
		}
		if there(g, slot) {
			live++
		}
	}
	for slot := g.Nodes[0].Next; slot != 0; slot = g.Nodes[slot].Next {
		live--
		if live < 0 {
			return false
		}
	}
	if live != 0 {
		return false
	}
	if g.Entry == 0 {
		return g.Top == 0
	}
	return there(g, g.Entry) && g.Top >= 0 && g.Top <= g.Nodes[g.Entry].Level
}

// checkRight fails unless g is right for links.
func checkRight(t *testing.T, g api.Plane, links int) {
	t.Helper()
	if why := Check(g, links); why != api.OK || !right(g, links) {
		t.Fatalf("Check(%v, %d) = %d, and it is right: %v", g, links, why, right(g, links))
	}
}

// checkWrong fails unless g is not right for links, and is refused by all calls that ask for a right one.
func checkWrong(t *testing.T, g api.Plane, links int) {
	t.Helper()
	kept(t, g, func() {
		if why := Check(g, links); why != api.ErrForm || right(g, links) {
			t.Errorf("Check(%v, %d) = %d, and it is right: %v", g, links, why, right(g, links))
		}
		checkPutRefused(t, g, item(77), 0, links, api.ErrForm)
		checkPutRefused(t, g, item(10), -1, links, api.ErrForm)
		checkLinkRefused(t, g, 1, 5, 0, links)
		checkDropRefused(t, g, 1, links)
	})
}

// checkPutRefused fails unless Put tells that error, and nothing else.
func checkPutRefused(t *testing.T, g api.Plane, it api.Item, level, links int, want api.Errno) {
	t.Helper()
	if out, slot, why := Put(g, it, level, links); why != want || slot != 0 || !same(out, api.Plane{}) {
		t.Errorf("Put(%v, %v, %d, %d) = %v, %d, %d; want the error %d", g, it, level, links, out, slot, why, want)
	}
}

// checkLinkRefused fails unless Link tells g as it is, in new memory, and false.
func checkLinkRefused(t *testing.T, g api.Plane, a, b, level, links int) {
	t.Helper()
	out, ok := Link(g, a, b, level, links)
	if ok || !same(out, g) {
		t.Errorf("Link(%v, %d, %d, %d, %d) = %v, %v", g, a, b, level, links, out, ok)
	}
	kept(t, g, func() { spoil(out) })
}

// checkDropRefused fails unless Drop tells g as it is, in new memory, and false.
func checkDropRefused(t *testing.T, g api.Plane, slot, links int) {
	t.Helper()
	out, ok := Drop(g, slot, links)
	if ok || !same(out, g) {
		t.Errorf("Drop(%v, %d, %d) = %v, %v", g, slot, links, out, ok)
	}
	kept(t, g, func() { spoil(out) })
}

// put is Put, which must work, and lead to that slot and to a right plane.
func put(t *testing.T, g api.Plane, it api.Item, level, links, want int) api.Plane {
	t.Helper()
	out, slot, why := Put(g, it, level, links)
	if slot != want || why != api.OK {
		t.Fatalf("Put(%v, %v, %d, %d) = %d, %d; want slot %d", g, it, level, links, slot, why, want)
	}
	checkRight(t, out, links)
	return out
}

// link is Link, which must work, and lead to a right plane.
func link(t *testing.T, g api.Plane, a, b, level, links int) api.Plane {
	t.Helper()
	out, ok := Link(g, a, b, level, links)
	if !ok {
		t.Fatalf("Link(%v, %d, %d, %d, %d) is refused", g, a, b, level, links)
	}
	checkRight(t, out, links)
	return out
}

// drop is Drop, which must work, and lead to a right plane.
func drop(t *testing.T, g api.Plane, slot, links int) api.Plane {
	t.Helper()
	out, ok := Drop(g, slot, links)
	if !ok {
		t.Fatalf("Drop(%v, %d, %d) is refused", g, slot, links)
	}
	checkRight(t, out, links)
	return out
}

// 12.1: the plane of the head alone.
func TestNew(t *testing.T) {
	g := New()
	if !same(g, api.Plane{Nodes: []api.Node{{}}}) {
		t.Fatalf("New is %v", g)
	}
	for _, links := range []int{least, 0, 1, 4, 32, 33, most} {
		checkRight(t, g, links)
	}
	if len(Live(g)) != 0 || len(Ring(g)) != 0 || len(Near(g, 0, 0)) != 0 {
		t.Errorf("there is something in %v", g)
	}
	spoil(g)
	checkRight(t, New(), 1)
}

// 12.1: what is right.
func TestRight(t *testing.T) {
	for say, turn := range map[string]func(g *api.Plane){
		"as it is":                   func(g *api.Plane) {},
		"no entry":                   func(g *api.Plane) { g.Entry, g.Top = 0, 0 },
		"a lower top":                func(g *api.Plane) { g.Top = 0 },
		"another entry":              func(g *api.Plane) { g.Entry, g.Top = 2, 1 },
		"an entry on level 0":        func(g *api.Plane) { g.Entry, g.Top = 5, 0 },
		"one more that is not there": func(g *api.Plane) { g.Nodes = append(g.Nodes, gone()) },
		"an item that is not there":  func(g *api.Plane) { g.Nodes[3].Item = item(30) },
		"an id that is not there":    func(g *api.Plane) { g.Nodes[3].Item = item(10) },
		"lists, but none, not there": func(g *api.Plane) { g.Nodes[3].Lists = [][]int{} },
		"an id 0":                    func(g *api.Plane) { g.Nodes[1].Item.Id = 0 },
		"the greatest id":            func(g *api.Plane) { g.Nodes[1].Item.Id = top },
		"items alike but by id":      func(g *api.Plane) { g.Nodes[1].Item.Vec, g.Nodes[1].Item.Tags = item(20).Vec, item(20).Tags },
		"no vector":                  func(g *api.Plane) { g.Nodes[1].Item.Vec = nil },
		"the head's item":            func(g *api.Plane) { g.Nodes[0].Item = item(10) },
		"the head's level":           func(g *api.Plane) { g.Nodes[0].Level = -5 },
		"the head's lists":           func(g *api.Plane) { g.Nodes[0].Lists = [][]int{{0, 0, 99}, {1}} },
		"the order of a list":        func(g *api.Plane) { slices.Reverse(g.Nodes[2].Lists[0]) },
		"an empty list, not nil":     func(g *api.Plane) { g.Nodes[5].Lists[0] = []int{} },
		"the greatest level": func(g *api.Plane) {
			g.Nodes[1].Level, g.Nodes[1].Lists = 7, append(g.Nodes[1].Lists, make([][]int, 7)...)
		},
		"the greatest level as the entry": func(g *api.Plane) { *g = tall(); g.Top = 7 },
		"an entry of the highest below":   func(g *api.Plane) { *g = tall(); g.Top = 6 },
		"the ring the other way": func(g *api.Plane) {
			for i := range g.Nodes {
				g.Nodes[i].Next, g.Nodes[i].Prev = g.Nodes[i].Prev, g.Nodes[i].Next
			}
		},
	} {
		g := some()
		turn(&g)
		t.Run(say, func(t *testing.T) { kept(t, g, func() { checkRight(t, g, 1) }) })
	}
}

// tall is a plane of one node, of the greatest level.
func tall() api.Plane {
	return api.Plane{Nodes: []api.Node{{Next: 1, Prev: 1}, node(1, 0, 0, nil, nil, nil, nil, nil, nil, nil, nil)}, Entry: 1}
}

// 12.1: each thing that makes a plane wrong.
func TestWrong(t *testing.T) {
	for say, turn := range map[string]func(g *api.Plane){
		"no nodes, nil":              func(g *api.Plane) { *g = api.Plane{} },
		"no nodes":                   func(g *api.Plane) { *g = api.Plane{Nodes: []api.Node{}} },
		"one more there":             func(g *api.Plane) { g.Nodes = append(g.Nodes, node(60, 0, 0, nil)) },
		"one more that is zero":      func(g *api.Plane) { g.Nodes = append(g.Nodes, api.Node{}) },
		"one there, not in the ring": func(g *api.Plane) { g.Nodes[3] = node(30, 3, 3, nil) },
		"two there, in a ring of their own": func(g *api.Plane) {
			g.Nodes[3] = node(30, 6, 6, nil)
			g.Nodes = append(g.Nodes, node(60, 3, 3, nil))
		},
		"none in the ring, all in one of their own": func(g *api.Plane) {
			g.Nodes[0].Next, g.Nodes[0].Prev, g.Nodes[5].Next, g.Nodes[4].Prev = 0, 0, 4, 5
		},
		"Next of one not there":             func(g *api.Plane) { g.Nodes[3].Next = -2 },
		"the least Next of one not there":   func(g *api.Plane) { g.Nodes[3].Next = least },
		"Prev of one not there":             func(g *api.Plane) { g.Nodes[3].Prev = 0 },
		"another Prev of one not there":     func(g *api.Plane) { g.Nodes[3].Prev = -2 },
		"Level of one not there":            func(g *api.Plane) { g.Nodes[3].Level = 1 },
		"Level below 0 of one not there":    func(g *api.Plane) { g.Nodes[3].Level = -1 },
		"Lists of one not there":            func(g *api.Plane) { g.Nodes[3].Lists = [][]int{nil} },
		"the last one not there is wrong":   func(g *api.Plane) { g.Nodes = append(g.Nodes, api.Node{Next: -1}) },
		"Next of the head below 0":          func(g *api.Plane) { g.Nodes[0].Next = -1 },
		"Next of the head past the end":     func(g *api.Plane) { g.Nodes[0].Next = 6 },
		"Next of the head not there":        func(g *api.Plane) { g.Nodes[0].Next = 3 },
		"Next of the head leads past one":   func(g *api.Plane) { g.Nodes[0].Next = 1 },
		"Prev of the head":                  func(g *api.Plane) { g.Nodes[0].Prev = 2 },
		"Prev of the head below 0":          func(g *api.Plane) { g.Nodes[0].Prev = -1 },
		"Next past the end":                 func(g *api.Plane) { g.Nodes[5].Next = 6 },
		"the greatest Next":                 func(g *api.Plane) { g.Nodes[5].Next = most },
		"Next not there":                    func(g *api.Plane) { g.Nodes[5].Next = 3 },
		"Next not there, which leads back":  func(g *api.Plane) { g.Nodes[5].Next, g.Nodes[3].Prev = 3, 5 },
		"Next is itself":                    func(g *api.Plane) { g.Nodes[5].Next = 5 },
		"Next leads back to the ring":       func(g *api.Plane) { g.Nodes[5].Next = 1 },
		"Next leads past one":               func(g *api.Plane) { g.Nodes[1].Next = 5 },
		"Prev past the end":                 func(g *api.Plane) { g.Nodes[2].Prev = 6 },
		"Prev below 0":                      func(g *api.Plane) { g.Nodes[2].Prev = -1 },
		"Prev not there":                    func(g *api.Plane) { g.Nodes[2].Prev = 3 },
		"another Prev":                      func(g *api.Plane) { g.Nodes[2].Prev = 4 },
		"Prev of the first":                 func(g *api.Plane) { g.Nodes[4].Prev = 5 },
		"a level below 0":                   func(g *api.Plane) { g.Nodes[5].Level, g.Nodes[5].Lists = -1, nil },
		"the least level":                   func(g *api.Plane) { g.Nodes[5].Level = least },
		"the greatest number as level":      func(g *api.Plane) { g.Nodes[5].Level = most },
		"a level too high":                  func(g *api.Plane) { g.Nodes[5].Level, g.Nodes[5].Lists = 8, make([][]int, 9) },
		"no lists":                          func(g *api.Plane) { g.Nodes[5].Lists = nil },
		"a list too many":                   func(g *api.Plane) { g.Nodes[5].Lists = make([][]int, 2) },
		"a list too few":                    func(g *api.Plane) { g.Nodes[4].Lists = g.Nodes[4].Lists[:2] },
		"a list too few, level 1 is had":    func(g *api.Plane) { g.Nodes[5].Level = 1 },
		"its own neighbour":                 func(g *api.Plane) { g.Nodes[5].Lists[0] = []int{5} },
		"a neighbour that is 0":             func(g *api.Plane) { g.Nodes[5].Lists[0] = []int{0} },
		"a neighbour below 0":               func(g *api.Plane) { g.Nodes[5].Lists[0] = []int{-1} },
		"a neighbour past the end":          func(g *api.Plane) { g.Nodes[5].Lists[0] = []int{6} },
		"the greatest number as neighbour":  func(g *api.Plane) { g.Nodes[5].Lists[0] = []int{most} },
		"a neighbour that is not there":     func(g *api.Plane) { g.Nodes[5].Lists[0] = []int{3} },
		"a neighbour that has it not":       func(g *api.Plane) { g.Nodes[5].Lists[0] = []int{1} },
		"has one that has it not":           func(g *api.Plane) { g.Nodes[1].Lists[0] = nil },
		"a neighbour twice":                 func(g *api.Plane) { g.Nodes[1].Lists[0] = []int{2, 2} },
		"a neighbour twice on both sides":   func(g *api.Plane) { g.Nodes[1].Lists[0], g.Nodes[2].Lists[0] = []int{2, 2}, []int{1, 1} },
		"a neighbour below that level":      func(g *api.Plane) { g.Nodes[4].Lists[1] = []int{1} },
		"one that has it on level 0 alone":  func(g *api.Plane) { g.Nodes[2].Lists[1] = nil },
		"one that has it on level 1 alone":  func(g *api.Plane) { g.Nodes[4].Lists[0], g.Nodes[4].Lists[2] = nil, []int{2} },
		"a neighbour on level 1, not above": func(g *api.Plane) { g.Nodes[4].Lists[2] = []int{2} },
		"too many neighbours on level 0": func(g *api.Plane) {
			g.Nodes[2].Lists[0], g.Nodes[5].Lists[0] = []int{1, 4, 5}, []int{2}
		},
		"too many neighbours on level 1": func(g *api.Plane) {
			g.Nodes[1] = node(10, 2, 4, []int{2}, []int{2})
			g.Nodes[2].Lists[1] = []int{4, 1}
		},
		"two of one id":                    func(g *api.Plane) { g.Nodes[5].Item.Id = 10 },
		"two next to each other of one id": func(g *api.Plane) { g.Nodes[1].Item.Id = 20 },
		"two of the id 0":                  func(g *api.Plane) { g.Nodes[1].Item.Id, g.Nodes[4].Item.Id = 0, 0 },
		"two of the greatest id":           func(g *api.Plane) { g.Nodes[1].Item.Id, g.Nodes[5].Item.Id = top, top },
		"an entry below 0":                 func(g *api.Plane) { g.Entry = -1 },
		"an entry past the end":            func(g *api.Plane) { g.Entry = 6 },
		"an entry that is not there":       func(g *api.Plane) { g.Entry, g.Top = 3, 0 },
		"no entry, but a top":              func(g *api.Plane) { g.Entry = 0 },
		"no entry, but a top below 0":      func(g *api.Plane) { g.Entry, g.Top = 0, -1 },
		"a top too high":                   func(g *api.Plane) { g.Top = 3 },
		"a top too high for the entry":     func(g *api.Plane) { g.Entry = 2 },
		"a top of 1 of a level 0":          func(g *api.Plane) { g.Entry, g.Top = 1, 1 },
		"a top below 0":                    func(g *api.Plane) { g.Top = -1 },
		"the least top":                    func(g *api.Plane) { g.Top = least },
		"the greatest top":                 func(g *api.Plane) { g.Top = most },
	} {
		g := some()
		turn(&g)
		t.Run(say, func(t *testing.T) { checkWrong(t, g, 1) })
	}
}

// 12.1: links tell how long lists may be; they are held from 1 to MaxLinks.
func TestRightForLinks(t *testing.T) {
	for _, c := range []struct {
		level, neighbours, links int
		right                    bool
	}{
		{0, 2, 1, true}, {0, 3, 1, false}, {1, 1, 1, true}, {1, 2, 1, false},
		{0, 8, 4, true}, {0, 9, 4, false}, {1, 4, 4, true}, {1, 5, 4, false}, {7, 4, 4, true}, {7, 5, 4, false},
		{0, 2, 0, true}, {0, 3, 0, false}, {0, 2, least, true}, {0, 3, -4, false}, {2, 2, 0, false},
		{0, 64, 32, true}, {0, 65, 32, false}, {3, 32, 32, true}, {3, 33, 32, false},
		{0, 64, 33, true}, {0, 65, 33, false}, {0, 65, most, false}, {6, 32, most, true}, {6, 33, most, false},
	} {
		g := star(c.neighbours, c.level)
		if got := Check(g, c.links) == api.OK; got != c.right || right(g, c.links) != c.right {
			t.Errorf("with %d neighbours on level %d it is right for %d: %v", c.neighbours, c.level, c.links, got)
		}
	}
}

// star is a plane in which slot 1 has so many neighbours on a level, which all have that level.
func star(neighbours, level int) api.Plane {
	g := New()
	for slot := 1; slot <= neighbours+1; slot++ {
		n := api.Node{Item: item(slot), Level: level, Lists: make([][]int, level+1), Prev: slot - 1}
		if slot > 1 {
			n.Lists[level] = []int{1}
			g.Nodes[1].Lists[level] = append(g.Nodes[1].Lists[level], slot)
		}
		g.Nodes[slot-1].Next = slot
		g.Nodes = append(g.Nodes, n)
	}
	g.Nodes[0].Prev = neighbours + 1
	return g
}

// 12.1: from 1 to MaxCap + 1 nodes, however many are there.
func TestMostNodes(t *testing.T) {
	for _, n := range []int{1, 2, 4095, 4096, 4097, 4098, 9000} {
		g := New()
		for len(g.Nodes) < n {
			g.Nodes = append(g.Nodes, gone())
		}
		if got := Check(g, 1) == api.OK; got != (n <= 4097) {
			t.Errorf("with %d nodes that are not there it is right: %v", n, got)
		}
		if got := Check(line(n-1), 1) == api.OK; got != (n <= 4097) {
			t.Errorf("with %d nodes that are there it is right: %v", n, got)
		}
	}
}

// line is a plane of so many nodes that are there, each the neighbour of the next.
func line(n int) api.Plane {
	g := New()
	for slot := 1; slot <= n; slot++ {
		l := []int{slot - 1, slot + 1}
		switch {
		case n == 1:
			l = nil
		case slot == 1:
			l = l[1:]
		case slot == n:
			l = l[:1]
		}
		g.Nodes = append(g.Nodes, node(slot, slot+1, slot-1, l))
	}
	g.Nodes[n].Next, g.Nodes[0].Prev = 0, n
	if n > 0 {
		g.Nodes[0].Next = 1
	}
	return g
}

// 12.1: a slot is there from 1 on, with a Next that is not below 0, whatever else its node has; Live has those.
func TestThereAndLive(t *testing.T) {
	g := some()
	g.Nodes = append(g.Nodes,
		api.Node{Next: -2, Prev: 1, Lists: [][]int{{1}}},
		api.Node{Next: most, Prev: least, Level: -9},
		api.Node{Next: least},
		api.Node{Prev: -1},
	)
	want := []int{1, 2, 4, 5, 7, 9}
	kept(t, g, func() {
		for _, slot := range []int{least, -1, 0, 1, 2, 3, 4, 5, 6, 7, 8, 9, 10, 1 << 32, 1<<32 + 1, most} {
			if got := There(g, slot); got != slices.Contains(want, slot) {
				t.Errorf("There(%d) = %v", slot, got)
			}
		}
		if got := Live(g); !slices.Equal(got, want) {
			t.Errorf("Live is %v, want %v", got, want)
		}
	})
	for _, none := range []api.Plane{{}, {Nodes: []api.Node{}}, {Nodes: []api.Node{{Next: 1}}}} {
		for _, slot := range []int{-1, 0, 1} {
			if There(none, slot) {
				t.Errorf("in %v there is %d", none, slot)
			}
		}
		if got := Live(none); len(got) != 0 {
			t.Errorf("in %v there live %v", none, got)
		}
	}
}

// 12.1: the ring ends ahead of what is not there, and of what was met.
func TestRing(t *testing.T) {
	for _, c := range []struct {
		next []int // of each slot
		want []int
	}{
		{nil, nil},
		{[]int{0}, nil},
		{[]int{-1}, nil},
		{[]int{least}, nil},
		{[]int{1}, nil},
		{[]int{most}, nil},
		{[]int{1, 0}, []int{1}},
		{[]int{0, 1}, nil},
		{[]int{1, 1}, []int{1}},
		{[]int{1, 2}, []int{1}},
		{[]int{1, 99}, []int{1}},
		{[]int{1, -1}, nil},
		{[]int{4, 2, 5, -1, 1, 0}, []int{4, 1, 2, 5}},
		{[]int{4, 2, 5, -1, 1, 4}, []int{4, 1, 2, 5}},
		{[]int{4, 2, 5, -1, 1, 2}, []int{4, 1, 2, 5}},
		{[]int{4, 2, 5, -1, 1, 3}, []int{4, 1, 2, 5}},
		{[]int{4, 2, 0, -1, 1, 0}, []int{4, 1, 2}},
		{[]int{4, 2, 3, -1, 1, 0}, []int{4, 1, 2}},
	} {
		g := api.Plane{Entry: 2, Top: 1}
		for _, next := range c.next {
			g.Nodes = append(g.Nodes, api.Node{Next: next, Prev: -7})
		}
		if got := Ring(g); !slices.Equal(got, c.want) {
			t.Errorf("with Next %v the ring is %v, want %v", c.next, got, c.want)
		}
	}
	if got := Ring(some()); !slices.Equal(got, []int{4, 1, 2, 5}) {
		t.Errorf("Ring is %v", got)
	}
}

// 12.2: neighbours, and on level 0 those next in the ring behind them, each once.
func TestNear(t *testing.T) {
	g := some()
	kept(t, g, func() {
		for _, c := range []struct {
			slot, level int
			want        []int
		}{
			{0, 0, []int{4, 5}}, {0, 1, nil}, {0, -1, nil},
			{1, 0, []int{2, 4}}, {1, 1, nil},
			{2, 0, []int{1, 4, 5}}, {2, 1, []int{4}}, {2, 2, nil},
			{3, 0, nil}, {3, 1, nil},
			{4, 0, []int{2, 1}}, {4, 1, []int{2}}, {4, 2, nil}, {4, 3, nil}, {4, most, nil}, {4, -1, nil}, {4, least, nil},
			{5, 0, []int{2}}, {5, 1, nil},
			{6, 0, nil}, {-1, 0, nil}, {least, 0, nil}, {most, 0, nil}, {1 << 32, 0, nil},
		} {
			if got := Near(g, c.slot, c.level); !slices.Equal(got, c.want) {
				t.Errorf("Near(%d, %d) = %v, want %v", c.slot, c.level, got, c.want)
			}
		}
	})
	if got := Near(api.Plane{}, 0, 0); len(got) != 0 {
		t.Errorf("of no nodes there is near %v", got)
	}
}

// 12.2: of a plane that is not right, too, what is there is told once, in order.
func TestNearInWrongPlanes(t *testing.T) {
	all := []int{4, 3, 4, 1, -1, 0, 6, most, least, 5, 1, 2, 5}
	for _, c := range []struct {
		say         string
		turn        func(g *api.Plane)
		slot, level int
		want        []int
	}{
		{"of all kinds", func(g *api.Plane) { g.Nodes[5].Lists[0] = all }, 5, 0, []int{4, 1, 5, 2}},
		{"of all kinds, on level 1", func(g *api.Plane) { g.Nodes[4].Lists[1] = all }, 4, 1, []int{4, 1, 5, 2}},
		{"a list above its level", func(g *api.Plane) { g.Nodes[5].Lists = [][]int{{1}, {2}} }, 5, 1, []int{2}},
		{"no lists", func(g *api.Plane) { g.Nodes[1].Lists = nil }, 1, 0, []int{2, 4}},
		{"itself next to itself", func(g *api.Plane) { g.Nodes[1].Next, g.Nodes[1].Prev = 1, 1 }, 1, 0, []int{2, 1}},
		{"next to none that is there", func(g *api.Plane) { g.Nodes[1].Next, g.Nodes[1].Prev = 99, -5 }, 1, 0, []int{2}},
		{"Next not there", func(g *api.Plane) { g.Nodes[1].Next = 3 }, 1, 0, []int{2, 4}},
		{"Next ahead of Prev", func(g *api.Plane) { g.Nodes[1].Lists[0] = nil }, 1, 0, []int{2, 4}},
		{"Next and Prev one", func(g *api.Plane) { g.Nodes[5].Next = 2 }, 5, 0, []int{2}},
		{"one that has a node, but is not there", func(g *api.Plane) { g.Nodes[3] = api.Node{Next: -1, Prev: 5, Lists: [][]int{{2, 3}, {1}}} }, 3, 0, []int{2, 5}},
		{"likewise, on level 1", func(g *api.Plane) { g.Nodes[3] = api.Node{Next: -1, Prev: 5, Lists: [][]int{{2}, {1}}} }, 3, 1, []int{1}},
		{"the head's list", func(g *api.Plane) { g.Nodes[0].Lists = [][]int{{1}, {2}} }, 0, 0, []int{4, 5}},
		{"the head's list on level 1", func(g *api.Plane) { g.Nodes[0].Lists, g.Nodes[0].Level = [][]int{{1}, {2}}, 1 }, 0, 1, nil},
		{"the head alone", func(g *api.Plane) { g.Nodes[0].Next, g.Nodes[0].Prev = 3, 6 }, 0, 0, nil},
	} {
		g := some()
		c.turn(&g)
		kept(t, g, func() {
			if got := Near(g, c.slot, c.level); !slices.Equal(got, c.want) {
				t.Errorf("%s: Near is %v, want %v", c.say, got, c.want)
			}
		})
	}
}

// 12.1 and 12.2: what is long ends all the same, and soon.
func TestLong(t *testing.T) {
	const n = 300000
	g := New()
	g.Nodes[0].Next = 1
	long := []int(nil)
	for slot := 1; slot <= n; slot++ {
		g.Nodes = append(g.Nodes, api.Node{Next: slot + 1})
		long = append(long, slot)
	}
	long = append(long, long...)
	g.Nodes[7].Lists = [][]int{long}
	for _, got := range [][]int{Ring(g), Live(g), Near(g, 7, 0)} {
		if !slices.Equal(got, long[:n]) {
			t.Fatalf("there are %d", len(got))
		}
	}
	tooLong := line(4096)
	for slot := range 4000 {
		tooLong.Nodes[slot+1].Lists[0] = []int{4096, 4095}
	}
	tooLong.Nodes[4096].Lists[0] = slices.Repeat([]int{1}, 1<<22)
	tooLong.Nodes[4095].Lists[0] = slices.Repeat([]int{1}, 1<<22)
	if Check(tooLong, 1) != api.ErrForm {
		t.Error("lists that are too long are right")
	}
}

// 12.3 and example 1: the ring has what was put in last first.
func TestPut(t *testing.T) {
	g := put(t, New(), item(5), 0, 4, 1)
	if want := (api.Plane{Nodes: []api.Node{{Next: 1, Prev: 1}, node(5, 0, 0, nil)}}); !same(g, want) {
		t.Fatalf("behind Put of 5 there is %v", g)
	}
	g = put(t, g, item(6), 2, 4, 2)
	if want := (api.Plane{Nodes: []api.Node{{Next: 2, Prev: 1}, node(5, 0, 2, nil), node(6, 1, 0, nil, nil, nil)}}); !same(g, want) {
		t.Fatalf("behind Put of 6 there is %v", g)
	}
	if got := Ring(g); !slices.Equal(got, []int{2, 1}) {
		t.Errorf("the ring is %v", got)
	}
}

// 12.3: the least slot that is not there is taken, whatever item is left in it; the entry, lists and the head's other fields stay.
func TestPutTakesTheLeastSlot(t *testing.T) {
	g := some()
	g.Nodes[0].Item, g.Nodes[0].Level, g.Nodes[0].Lists = item(3), 9, [][]int{{3, 4}}
	g.Nodes[3].Item = item(30)
	want := some()
	want.Nodes[0] = api.Node{Item: item(3), Level: 9, Lists: [][]int{{3, 4}}, Next: 3, Prev: 5}
	want.Nodes[3] = node(33, 4, 0, nil, nil)
	want.Nodes[4].Prev = 3
	kept(t, g, func() { g = put(t, g, item(33), 1, 1, 3) })
	if !same(g, want) {
		t.Fatalf("there is %v, want %v", g, want)
	}
	g = put(t, g, item(60), 0, 1, 6)
	want.Nodes[0].Next, want.Nodes[3].Prev = 6, 6
	want.Nodes = append(want.Nodes, node(60, 3, 0, nil))
	if !same(g, want) {
		t.Fatalf("there is %v, want %v", g, want)
	}
}

// 12.3: items and levels of all kinds may be put.
func TestPutOfAllKinds(t *testing.T) {
	g := New()
	items := []api.Item{{}, {Id: top, Tags: top}, {Id: 1, Vec: []int32{}}, {Id: 2, Vec: []int32{math.MinInt32, math.MaxInt32}}, {Id: 3}, {Id: 4}, {Id: 5}, {Id: 6}}
	for level, it := range items {
		g = put(t, g, it, level, 1, level+1)
		n := g.Nodes[level+1]
		if fmt.Sprint(n.Item) != fmt.Sprint(it) || n.Level != level || len(n.Lists) != level+1 {
			t.Errorf("of %v with level %d there is %v", it, level, n)
		}
	}
}

// 12.3: what Put refuses, the first error that applies first.
func TestPutRefuses(t *testing.T) {
	g := some()
	kept(t, g, func() {
		for _, level := range []int{-1, 8, least, most, 1 << 32} {
			checkPutRefused(t, g, item(1), level, 1, api.ErrRange)
			checkPutRefused(t, g, item(10), level, 1, api.ErrRange)
		}
		for _, id := range []int{10, 20, 40, 50} {
			checkPutRefused(t, g, api.Item{Id: uint64(id)}, 7, 1, api.ErrExists)
		}
	})
	// An item that is left where none is there, or with the head, is none.
	g.Nodes[3].Item, g.Nodes[0].Item = item(30), item(31)
	put(t, g, item(30), 0, 1, 3)
	put(t, g, item(31), 0, 1, 3)
}

// 12.3: all MaxCap slots can be there, and no more.
func TestPutIntoFull(t *testing.T) {
	g := line(4095)
	g = put(t, g, item(9999), 7, 1, 4096)
	checkPutRefused(t, g, item(8888), 0, 1, api.ErrFull)
	checkPutRefused(t, g, item(9999), 0, 1, api.ErrExists)
	checkPutRefused(t, g, item(4095), 0, 1, api.ErrExists)
	checkPutRefused(t, g, item(8888), 8, 1, api.ErrRange)
	g.Top = 1
	checkPutRefused(t, g, item(8888), 8, 1, api.ErrForm)
	g.Top = 0
	for _, slot := range []int{4096, 1, 2000} {
		g = drop(t, g, slot, 1)
		g = put(t, g, item(7000+slot), 0, 1, slot)
		checkPutRefused(t, g, item(8888), 0, 1, api.ErrFull)
	}
	// MaxCap + 1 nodes do not make it full, if one is not there.
	g = New()
	for len(g.Nodes) < 4097 {
		g.Nodes = append(g.Nodes, gone())
	}
	put(t, g, item(1), 0, 1, 1)
}

// 12.3: each comes behind all others in the other's list, on that level alone.
func TestLink(t *testing.T) {
	g, want := some(), some()
	kept(t, g, func() { g = link(t, g, 5, 1, 0, 1) })
	want.Nodes[5].Lists[0], want.Nodes[1].Lists[0] = []int{1}, []int{2, 5}
	if !same(g, want) {
		t.Fatalf("there is %v, want %v", g, want)
	}
	g = link(t, g, 5, 2, 0, 2)
	want.Nodes[5].Lists[0], want.Nodes[2].Lists[0] = []int{1, 2}, []int{1, 4, 5}
	if !same(g, want) {
		t.Fatalf("there is %v, want %v", g, want)
	}
	g, want = some(), some()
	g.Nodes[2] = node(20, 5, 1, []int{1, 4}, []int{4}, nil)
	want.Nodes[2] = node(20, 5, 1, []int{1, 4}, []int{4}, []int{4})
	want.Nodes[4].Lists[2] = []int{2}
	if got := link(t, g, 2, 4, 2, 1); !same(got, want) {
		t.Fatalf("there is %v, want %v", got, want)
	}
	if got := link(t, g, 4, 2, 2, 1); !same(got, want) {
		t.Fatalf("there is %v, want %v", got, want)
	}
}

// 12.3: what Link refuses.
func TestLinkRefuses(t *testing.T) {
	g := some()
	kept(t, g, func() {
		for _, c := range []struct{ a, b, level, links int }{
			// Not there.
			{0, 5, 0, 1}, {5, 0, 0, 1}, {3, 5, 0, 1}, {5, 3, 0, 1}, {6, 5, 0, 1}, {5, 6, 0, 1}, {-1, 5, 0, 1}, {5, most, 0, 1}, {least, 5, 0, 1}, {0, 0, 0, 1}, {3, 3, 0, 1},
			// Without that level.
			{1, 5, 1, 1}, {4, 1, 1, 4}, {1, 4, 1, 4}, {2, 4, 2, 1}, {4, 2, 2, 1}, {4, 2, 3, 9}, {1, 5, -1, 1}, {1, 5, least, 1}, {1, 5, most, 1},
			// One.
			{5, 5, 0, 1}, {1, 1, 0, 1}, {4, 4, 2, 1},
			// Neighbours.
			{1, 2, 0, 4}, {2, 1, 0, 4}, {2, 4, 0, 4}, {4, 2, 1, 4}, {2, 4, 1, 4},
			// Full lists.
			{2, 5, 0, 1}, {5, 2, 0, 1}, {2, 5, 0, 0}, {2, 5, 0, least},
		} {
			checkLinkRefused(t, g, c.a, c.b, c.level, c.links)
		}
	})
	// Those next to each other in the ring are no neighbours by that: with more links they may be.
	link(t, g, 2, 5, 0, 2)
	link(t, g, 1, 4, 0, 1)
}

// 12.3: a level's most is had, and no more, on either side.
func TestLinkToTheMost(t *testing.T) {
	for _, c := range []struct{ level, links, most int }{
		{0, 1, 2}, {1, 1, 1}, {0, 3, 6}, {7, 3, 3}, {0, 32, 64}, {2, 32, 32}, {0, 0, 2}, {1, -1, 1}, {0, 33, 64}, {1, most, 32},
	} {
		g := star(c.most-1, c.level)
		g = put(t, g, item(1001), c.level, c.links, c.most+1)
		g = link(t, g, 1, c.most+1, c.level, c.links)
		if l := g.Nodes[1].Lists[c.level]; len(l) != c.most || l[c.most-1] != c.most+1 {
			t.Errorf("the list is %v", l)
		}
		g = put(t, g, item(1002), c.level, c.links, c.most+2)
		checkLinkRefused(t, g, 1, c.most+2, c.level, c.links)
		checkLinkRefused(t, g, c.most+2, 1, c.level, c.links)
	}
}

// 12.3: one that is left out is neither in lists, nor in the ring, nor the entry.
func TestDrop(t *testing.T) {
	g, want := some(), some()
	kept(t, g, func() { g = drop(t, g, 2, 1) })
	want.Nodes[1], want.Nodes[2] = node(10, 5, 4, nil), gone()
	want.Nodes[4].Lists, want.Nodes[5].Prev = make([][]int, 3), 1
	if !same(g, want) {
		t.Fatalf("there is %v, want %v", g, want)
	}
	g = drop(t, g, 4, 1)
	want.Nodes[4], want.Nodes[0].Next, want.Nodes[1].Prev, want.Entry, want.Top = gone(), 1, 0, 0, 0
	if !same(g, want) {
		t.Fatalf("there is %v, want %v", g, want)
	}
	g = drop(t, g, 5, 1)
	want.Nodes[5], want.Nodes[0].Prev, want.Nodes[1].Next = gone(), 1, 0
	if !same(g, want) {
		t.Fatalf("there is %v, want %v", g, want)
	}
	g = drop(t, g, 1, 1)
	want.Nodes[1], want.Nodes[0] = gone(), api.Node{}
	if !same(g, want) {
		t.Fatalf("there is %v, want %v", g, want)
	}
}

// 12.3: the order of the others stays, in the ring and in lists.
func TestDropKeepsOrder(t *testing.T) {
	g := star(5, 0)
	g.Nodes[1].Lists[0] = []int{6, 2, 4, 3, 5}
	for _, c := range []struct {
		slot       int
		list, ring []int
	}{
		{4, []int{6, 2, 3, 5}, []int{1, 2, 3, 5, 6}},
		{6, []int{2, 3, 5}, []int{1, 2, 3, 5}},
		{5, []int{2, 3}, []int{1, 2, 3}},
		{2, []int{3}, []int{1, 3}},
	} {
		g = drop(t, g, c.slot, 3)
		if l := g.Nodes[1].Lists[0]; !slices.Equal(l, c.list) {
			t.Errorf("without %d the list is %v, want %v", c.slot, l, c.list)
		}
		if got := Ring(g); !slices.Equal(got, c.ring) {
			t.Errorf("without %d the ring is %v, want %v", c.slot, got, c.ring)
		}
	}
}

// 12.3: what Drop refuses; and what is no node's stays, though it names the slot.
func TestDropRefusesAndLeaves(t *testing.T) {
	g := some()
	for _, slot := range []int{0, 3, 6, -1, least, most, 1<<32 + 1} {
		checkDropRefused(t, g, slot, 1)
	}
	g.Nodes[0].Item, g.Nodes[0].Level, g.Nodes[0].Lists = item(20), 2, [][]int{{2, 1}, {2}}
	g.Nodes[3].Item = item(20)
	g = drop(t, g, 2, 1)
	if n := g.Nodes[0]; fmt.Sprint(n) != fmt.Sprint(api.Node{Item: item(20), Level: 2, Lists: [][]int{{2, 1}, {2}}, Next: 4, Prev: 5}) {
		t.Errorf("the head became %v", n)
	}
	if it := g.Nodes[3].Item; fmt.Sprint(it) != fmt.Sprint(item(20)) {
		t.Errorf("the item that is not there became %v", it)
	}
	// Of an entry that stays, the top stays, too.
	if g.Entry != 4 || g.Top != 2 {
		t.Errorf("the entry is %d, the top %d", g.Entry, g.Top)
	}
	if g = drop(t, g, 4, 1); g.Entry != 0 || g.Top != 0 {
		t.Errorf("the entry is %d, the top %d", g.Entry, g.Top)
	}
}

// 12.3: what is right for more links may be wrong for fewer.
func TestChangesForLinks(t *testing.T) {
	g := star(4, 1)
	checkPutRefused(t, g, item(99), 0, 3, api.ErrForm)
	checkLinkRefused(t, g, 2, 3, 1, 3)
	checkDropRefused(t, g, 1, 3)
	put(t, g, item(99), 0, 4, 6)
	link(t, g, 2, 3, 1, 4)
	checkRight(t, drop(t, g, 1, 4), 1)
}

// 12.4: planes that are told share nothing with those handed in, nor with items.
func TestToldIsNew(t *testing.T) {
	it := item(60)
	for say, call := range map[string]func(g api.Plane) api.Plane{
		"put":          func(g api.Plane) api.Plane { return put(t, g, it, 1, 1, 3) },
		"put behind":   func(g api.Plane) api.Plane { return put(t, put(t, g, item(70), 1, 1, 3), it, 1, 1, 6) },
		"link":         func(g api.Plane) api.Plane { return link(t, g, 1, 5, 0, 1) },
		"link refused": func(g api.Plane) api.Plane { out, _ := Link(g, 1, 2, 0, 1); return out },
		"drop":         func(g api.Plane) api.Plane { return drop(t, g, 5, 1) },
		"drop refused": func(g api.Plane) api.Plane { out, _ := Drop(g, 3, 1); return out },
	} {
		g := some()
		g.Nodes[0].Lists, g.Nodes[0].Item = [][]int{{1}}, item(1)
		g.Nodes[3].Item = item(30)
		// With room behind its lists, to which none may be added.
		g.Nodes = append(make([]api.Node, 0, 32), g.Nodes...)
		for i := range g.Nodes {
			for k, l := range g.Nodes[i].Lists {
				g.Nodes[i].Lists[k] = append(make([]int, 0, 32), l...)
			}
		}
		out := call(g)
		told := fmt.Sprint(out)
		kept(t, g, func() { spoil(call(g)) })
		spoil(g)
		if fmt.Sprint(it) != fmt.Sprint(item(60)) {
			t.Fatalf("%s: the item became %v", say, it)
		}
		it.Vec[0] = 99
		if after := fmt.Sprint(out); after != told {
			t.Errorf("%s: the plane became %s, it was %s", say, after, told)
		}
		it = item(60)
	}
}

// 12.1 and 12.2: lists that are told share nothing with the plane.
func TestListsAreNew(t *testing.T) {
	g := some()
	kept(t, g, func() {
		for _, l := range [][]int{Live(g), Ring(g), Near(g, 2, 0), Near(g, 2, 1), Near(g, 5, 0), Near(g, 0, 0)} {
			clear(append(l[:len(l):cap(l)], 99))
			clear(l)
		}
	})
}

// 12.1: planes of all kinds, of which few are right.
func TestCheckOfMany(t *testing.T) {
	d, rights := draws(1), 0
	for range 60000 {
		g := some()
		if d.below(2) == 0 {
			g = randomPlane(t, &d)
		}
		for range d.below(4) {
			turnOne(&d, &g)
		}
		links := d.below(4)
		want := right(g, links)
		if got := Check(g, links); (got == api.OK) != want || !want && got != api.ErrForm {
			t.Fatalf("Check(%v, %d) = %d, and it is right: %v", g, links, got, want)
		}
		if want {
			rights++
		}
		checkLooks(t, g, &d)
	}
	if rights < 10000 || rights > 40000 {
		t.Errorf("of 60000 planes %d are right", rights)
	}
}

// checkLooks fails unless Live, Ring and Near tell of g what the document's words say.
func checkLooks(t *testing.T, g api.Plane, d *draws) {
	t.Helper()
	var live, ring []int
	for slot := range g.Nodes {
		if there(g, slot) {
			live = append(live, slot)
		}
	}
	if len(g.Nodes) > 0 {
		for slot := g.Nodes[0].Next; there(g, slot) && !slices.Contains(ring, slot); slot = g.Nodes[slot].Next {
			ring = append(ring, slot)
		}
	}
	if got := Live(g); !slices.Equal(got, live) {
		t.Fatalf("Live of %v is %v", g, got)
	}
	if got := Ring(g); !slices.Equal(got, ring) {
		t.Fatalf("Ring of %v is %v", g, got)
	}
	slot, level := d.number(), d.below(4)-1
	var near []int
	if slot >= 0 && slot < len(g.Nodes) {
		n := g.Nodes[slot]
		all := []int(nil)
		if slot > 0 && level >= 0 && level < len(n.Lists) {
			all = append(all, n.Lists[level]...)
		}
		if level == 0 {
			all = append(all, n.Next, n.Prev)
		}
		for _, other := range all {
			if there(g, other) && !slices.Contains(near, other) {
				near = append(near, other)
			}
		}
	}
	if got := Near(g, slot, level); !slices.Equal(got, near) {
		t.Fatalf("Near(%v, %d, %d) = %v, want %v", g, slot, level, got, near)
	}
}

// turnOne changes one thing of g.
func turnOne(d *draws, g *api.Plane) {
	if len(g.Nodes) == 0 {
		return
	}
	n := &g.Nodes[d.below(len(g.Nodes))]
	switch d.below(12) {
	case 0:
		n.Next = d.number()
	case 1:
		n.Prev = d.number()
	case 2:
		n.Level = d.number()
	case 3:
		n.Item.Id = uint64(d.below(6)) * 10
	case 4:
		g.Entry = d.number()
	case 5:
		g.Top = d.number()
	case 6:
		n.Lists = append(n.Lists, d.list(2))
	case 7, 8:
		if len(n.Lists) > 0 {
			n.Lists[d.below(len(n.Lists))] = d.list(3)
		}
	case 9:
		n.Lists = n.Lists[:d.below(len(n.Lists)+1)]
	case 10:
		g.Nodes = append(g.Nodes, []api.Node{gone(), {}}[d.below(2)])
	case 11:
		if d.below(4) == 0 {
			g.Nodes = g.Nodes[:d.below(len(g.Nodes)+1)]
		}
	}
}

// randomPlane is a right plane of links 1 and few nodes.
func randomPlane(t *testing.T, d *draws) api.Plane {
	t.Helper()
	g := New()
	for range d.below(6) {
		g, _, _ = Put(g, item(d.below(60)), d.below(3), 1)
		if len(g.Nodes) == 0 {
			return New()
		}
	}
	for range d.below(9) {
		g, _ = Link(g, d.below(7), d.below(7), d.below(3), 1)
	}
	if d.below(2) == 0 {
		g, _ = Drop(g, d.below(7), 1)
	}
	if slot := d.below(7); There(g, slot) {
		g.Entry, g.Top = slot, d.below(g.Nodes[slot].Level+1)
	}
	return g
}

// wanted is a plane by the document's words: what each slot has, and the ring, as plain lists.
type wanted struct {
	items  map[int]api.Item
	levels map[int]int
	edges  map[[2]int][]int // by slot and level
	ring   []int
	slots  int
}

// plane is it as a plane.
func (w *wanted) plane() api.Plane {
	g := api.Plane{Nodes: make([]api.Node, w.slots+1)}
	round := slices.Concat([]int{0}, w.ring)
	for slot := range g.Nodes {
		i := slices.Index(round, slot)
		if i < 0 {
			g.Nodes[slot] = gone()
			continue
		}
		n := &g.Nodes[slot]
		n.Next, n.Prev = round[(i+1)%len(round)], round[(i+len(round)-1)%len(round)]
		if slot == 0 {
			continue
		}
		n.Item, n.Level = w.items[slot], w.levels[slot]
		for level := range n.Level + 1 {
			n.Lists = append(n.Lists, w.edges[[2]int{slot, level}])
		}
	}
	return g
}

// put puts one in, if it may be, and tells where.
func (w *wanted) put(it api.Item, level int) (int, api.Errno) {
	if level < 0 || level > 7 {
		return 0, api.ErrRange
	}
	for _, slot := range w.ring {
		if w.items[slot].Id == it.Id {
			return 0, api.ErrExists
		}
	}
	slot := 1
	for slices.Contains(w.ring, slot) {
		slot++
	}
	w.slots = max(w.slots, slot)
	w.items[slot], w.levels[slot] = it, level
	w.ring = slices.Insert(w.ring, 0, slot)
	return slot, api.OK
}

// link links two, if they may be.
func (w *wanted) link(a, b, level, links int) bool {
	for _, slot := range []int{a, b} {
		if !slices.Contains(w.ring, slot) || level < 0 || w.levels[slot] < level {
			return false
		}
	}
	at, to := [2]int{a, level}, [2]int{b, level}
	room := links
	if level == 0 {
		room = 2 * links
	}
	if a == b || slices.Contains(w.edges[at], b) || len(w.edges[at]) >= room || len(w.edges[to]) >= room {
		return false
	}
	w.edges[at], w.edges[to] = append(w.edges[at], b), append(w.edges[to], a)
	return true
}

// drop leaves one out, if it is there.
func (w *wanted) drop(slot int) bool {
	i := slices.Index(w.ring, slot)
	if i < 0 {
		return false
	}
	w.ring = slices.Delete(w.ring, i, i+1)
	is := func(n int) bool { return n == slot }
	for key, l := range w.edges {
		w.edges[key] = slices.DeleteFunc(l, is)
		if key[0] == slot {
			w.edges[key] = nil
		}
	}
	return true
}

// 12.3 and 12.5: calls in turns, held against the document's words; all that is made is right, and its ring has all that are there.
func TestInTurns(t *testing.T) {
	done := [6]int{}
	for seed := range draws(150) {
		d, links := seed, 1+int(seed%3)
		g, want := New(), &wanted{items: map[int]api.Item{}, levels: map[int]int{}, edges: map[[2]int][]int{}}
		for range 150 {
			kind := d.below(8)
			switch {
			case kind < 2:
				it, level := item(d.below(20)), d.below(5)-1
				slot, why := want.put(it, level)
				out, got, err := Put(g, it, level, links)
				if got != slot || err != why {
					t.Fatalf("Put(%v, %v, %d, %d) = %d, %d; want %d, %d", g, it, level, links, got, err, slot, why)
				}
				if why != api.OK {
					done[0]++
					continue
				}
				done[1]++
				g = out
			case kind < 7:
				a, b, level := d.below(14), d.below(14), d.below(4)-1
				is := want.link(a, b, level, links)
				out, got := Link(g, a, b, level, links)
				if got != is {
					t.Fatalf("Link(%v, %d, %d, %d, %d) = %v", g, a, b, level, links, got)
				}
				g = out
				done[2+one(is)]++
			default:
				slot := d.below(14)
				is := want.drop(slot)
				out, got := Drop(g, slot, links)
				if got != is {
					t.Fatalf("Drop(%v, %d, %d) = %v", g, slot, links, got)
				}
				g = out
				done[4+one(is)]++
			}
			if plane := want.plane(); !same(g, plane) {
				t.Fatalf("there is %v, want %v", g, plane)
			}
			checkRight(t, g, links)
			ring := Ring(g)
			slices.Sort(ring)
			if !slices.Equal(ring, Live(g)) {
				t.Fatalf("in %v the ring has %v", g, ring)
			}
		}
	}
	for kind, n := range done {
		if n < 500 {
			t.Errorf("of kind %d there were %d calls alone", kind, n)
		}
	}
}

// one is 1, if it is so, and 0 else.
func one(is bool) int {
	if is {
		return 1
	}
	return 0
}
