package ask

import (
	"slices"

	"ganglion/api"
	"ganglion/probe"
)

// head is the slot of the ring's head; ground is the level on which the ring is.
const (
	head   = 0
	ground = 0
)

// Look offers slots to a probe, as long as that wants one to go on from.
type Look struct {
	asker
	probe *probe.Probe
	level int
	left  int
	note  func(p Place)
}

// NewLook is a look on a level, from some places, which are offered first; one slot is left out. Of each place that is offered it is noted how it was read.
func NewLook(p *probe.Probe, level, left int, note func(p Place), from ...Place) *Look {
	l := &Look{probe: p, level: level, left: left, note: note}
	for _, place := range from {
		l.offer(place)
	}
	l.then = func(api.Got) (api.Op, bool) {
		return l.ring(head)
	}
	return l
}

// ring offers those next to slot in the ring, on its level, and goes on.
func (l *Look) ring(slot int) (api.Op, bool) {
	if l.level != ground {
		return l.want()
	}
	return l.ask(api.Op{Kind: api.OpRing, A: slot}, func(g api.Got) (api.Op, bool) {
		return l.read(l.unknown(g.N, g.M), l.offer, l.want)
	})
}

// want offers the neighbours of the slot that the probe wants, if it wants one.
func (l *Look) want() (api.Op, bool) {
	slot, is := l.probe.Want()
	if !is {
		return l.end()
	}
	return l.ask(api.Op{Kind: api.OpList, A: slot, B: l.level}, func(g api.Got) (api.Op, bool) {
		return l.read(l.unknown(g.List...), l.offer, func() (api.Op, bool) {
			return l.ring(slot)
		})
	})
}

// unknown has those of the slots that count, and that the probe does not know.
func (l *Look) unknown(slots ...int) []int {
	return slices.DeleteFunc(Counting(slots, l.left), l.probe.Knows)
}

// offer offers a place to the probe.
func (l *Look) offer(p Place) {
	l.probe.Offer(p.Slot, p.Item)
	l.note(p)
}
