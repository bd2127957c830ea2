package plane

import (
	"slices"

	"ganglion/api"
	"ganglion/edges"
)

// Put is g with a node of that item and level in the least slot that is free, just behind the head; and that slot.
func Put(g api.Plane, it api.Item, level, links int) (api.Plane, int, api.Errno) {
	if why := mayPut(g, it.Id, level, links); why != api.OK {
		return api.Plane{}, 0, why
	}
	slot := freeSlot(g)
	out := copied(g)
	if slot == len(out.Nodes) {
		out.Nodes = append(out.Nodes, api.Node{})
	}
	out.Nodes[slot] = copiedNode(api.Node{Item: it, Level: level, Lists: make([][]int, level+1)})
	next := out.Nodes[head].Next
	join(out, head, slot)
	join(out, slot, next)
	return out, slot, api.OK
}

// Link is g with a and b as each other's neighbours on a level, and true; g and false, if they can't be.
func Link(g api.Plane, a, b, level, links int) (api.Plane, bool) {
	out := copied(g)
	if Check(g, links) != api.OK || a == b || !mayLink(g, a, b, level, links) || !mayLink(g, b, a, level, links) {
		return out, false
	}
	for _, pair := range [][2]int{{a, b}, {b, a}} {
		lists := out.Nodes[pair[0]].Lists
		lists[level] = edges.With(lists[level], pair[1])
	}
	return out, true
}

// Drop is g without the node of slot, and true; g and false, if there is none.
func Drop(g api.Plane, slot, links int) (api.Plane, bool) {
	out := copied(g)
	if Check(g, links) != api.OK || !There(g, slot) {
		return out, false
	}
	gone := g.Nodes[slot]
	for level, l := range gone.Lists {
		for _, other := range l {
			lists := out.Nodes[other].Lists
			lists[level] = edges.Without(lists[level], slot)
		}
	}
	join(out, gone.Prev, gone.Next)
	out.Nodes[slot] = api.Node{Next: notThere, Prev: notThere}
	if out.Entry == slot {
		out.Entry, out.Top = head, 0
	}
	return out, true
}

// mayPut tells whether there is room in g for one of that id and level.
func mayPut(g api.Plane, id uint64, level, links int) api.Errno {
	hasId := func(slot int) bool { return g.Nodes[slot].Item.Id == id }
	switch {
	case Check(g, links) != api.OK:
		return api.ErrForm
	case level < 0 || level > api.MaxLevel:
		return api.ErrRange
	case slices.ContainsFunc(Live(g), hasId):
		return api.ErrExists
	case freeSlot(g) > api.MaxCap:
		return api.ErrFull
	}
	return api.OK
}

// mayLink tells whether slot has room for other in its list of that level, where it is not yet.
func mayLink(g api.Plane, slot, other, level, links int) bool {
	if !hasLevel(g, slot, level) {
		return false
	}
	l := list(g, slot, level)
	return len(l) < edges.Most(links, level) && !edges.Has(l, other)
}

// freeSlot is the least slot that is not there; it may be the one behind the last node.
func freeSlot(g api.Plane) int {
	slot := head + 1
	for There(g, slot) {
		slot++
	}
	return slot
}

// join lets b stand just behind a in the ring.
func join(g api.Plane, a, b int) {
	g.Nodes[a].Next, g.Nodes[b].Prev = b, a
}

// copied is g in new memory.
func copied(g api.Plane) api.Plane {
	g.Nodes = slices.Clone(g.Nodes)
	for slot, n := range g.Nodes {
		g.Nodes[slot] = copiedNode(n)
	}
	return g
}

// copiedNode is n in new memory.
func copiedNode(n api.Node) api.Node {
	n.Item.Vec = slices.Clone(n.Item.Vec)
	n.Lists = slices.Clone(n.Lists)
	for level, l := range n.Lists {
		n.Lists[level] = slices.Clone(l)
	}
	return n
}
