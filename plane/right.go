package plane

import (
	"slices"

	"ganglion/api"
	"ganglion/edges"
)

// Check tells whether g is right for links.
func Check(g api.Plane, links int) api.Errno {
	if len(g.Nodes) < 1 || len(g.Nodes) > api.MaxCap+1 {
		return api.ErrForm
	}
	live := Live(g)
	if !othersEmpty(g) || !ringRight(g, live) || !idsApart(g, live) || !listsRight(g, live, links) || !entryRight(g) {
		return api.ErrForm
	}
	return api.OK
}

// othersEmpty tells whether the slots that are not there say nothing; their items are free.
func othersEmpty(g api.Plane) bool {
	return !slices.ContainsFunc(g.Nodes[head+1:], func(n api.Node) bool {
		empty := n.Next == notThere && n.Prev == notThere && n.Level == 0 && len(n.Lists) == 0
		return n.Next < 0 && !empty
	})
}

// ringRight tells whether the ring is whole, both ways, and has all that are there.
func ringRight(g api.Plane, live []int) bool {
	// Where each one's Next leads back by its Prev, no two lead to one: so each Prev is some one's, and needs no look of its own.
	torn := func(slot int) bool {
		next := g.Nodes[slot].Next
		return next != head && !There(g, next) || g.Nodes[next].Prev != slot
	}
	return !torn(head) && !slices.ContainsFunc(live, torn) && len(Ring(g)) == len(live)
}

// idsApart tells whether no two that are there have one id.
func idsApart(g api.Plane, live []int) bool {
	ids := map[uint64]struct{}{}
	for _, slot := range live {
		ids[g.Nodes[slot].Item.Id] = struct{}{}
	}
	return len(ids) == len(live)
}

// listsRight tells whether each one that is there has a right list on each of its levels, and is in the lists of those in its own.
func listsRight(g api.Plane, live []int, links int) bool {
	misshapen := func(slot int) bool { return !shapeRight(g, slot, links) }
	lonely := func(slot int) bool { return !metBack(g, slot) }
	// Shapes go first: from there on no list is long.
	return !slices.ContainsFunc(live, misshapen) && !slices.ContainsFunc(live, lonely)
}

// shapeRight tells whether the level and the lists of slot may be, whatever those of others are.
func shapeRight(g api.Plane, slot, links int) bool {
	n := g.Nodes[slot]
	if n.Level < 0 || n.Level > api.MaxLevel || len(n.Lists) != n.Level+1 {
		return false
	}
	for level, l := range n.Lists {
		if !edges.Right(l, slot, links, level, len(g.Nodes)-1) {
			return false
		}
	}
	return true
}

// metBack tells whether all neighbours of slot have it as theirs; so they are there, and have that level, since nothing else has lists.
func metBack(g api.Plane, slot int) bool {
	for level, l := range g.Nodes[slot].Lists {
		if slices.ContainsFunc(l, func(other int) bool { return !edges.Has(list(g, other, level), slot) }) {
			return false
		}
	}
	return true
}

// entryRight tells whether one can go down from the entry, or there is none.
func entryRight(g api.Plane) bool {
	if g.Entry == head {
		return g.Top == 0
	}
	return hasLevel(g, g.Entry, g.Top)
}

// hasLevel tells whether slot is there, and has that level.
func hasLevel(g api.Plane, slot, level int) bool {
	return There(g, slot) && level >= 0 && level <= g.Nodes[slot].Level
}
