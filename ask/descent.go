package ask

import (
	"slices"

	"ganglion/api"
	"ganglion/rank"
	"ganglion/vec"
)

// Descent goes downhill from a slot, level by level, as long as a neighbour is nearer.
type Descent struct {
	asker
	q      []int32
	left   int
	level  int
	lowest int
	at     Place
	spot   api.Spot
}

// NewDescent is a descent for q from a slot, which it reads first, on a level and those below it, down to the lowest; one slot is left out.
func NewDescent(q []int32, slot, level, lowest, left int) *Descent {
	d := &Descent{q: slices.Clone(q), level: level, lowest: lowest, left: left}
	d.then = func(api.Got) (api.Op, bool) {
		return d.read([]int{slot}, d.stand, d.list)
	}
	return d
}

// End is where it has come to so far.
func (d *Descent) End() Place {
	end := d.at
	end.Item = Item(end.Item)
	return end
}

// list asks for the neighbours on the level, if that is not below the lowest.
func (d *Descent) list() (api.Op, bool) {
	if d.level < d.lowest {
		return d.end()
	}
	return d.ask(api.Op{Kind: api.OpList, A: d.at.Slot, B: d.level}, func(g api.Got) (api.Op, bool) {
		from := d.at.Slot
		return d.read(Counting(g.List, d.left, from), d.near, func() (api.Op, bool) {
			if d.at.Slot == from {
				d.level--
			}
			return d.list()
		})
	})
}

// near lets it stand at the place, if that is nearer.
func (d *Descent) near(p Place) {
	if rank.Spot(d.spotOf(p), d.spot) {
		d.stand(p)
	}
}

// stand lets it stand at the place.
func (d *Descent) stand(p Place) {
	d.at, d.spot = p, d.spotOf(p)
}

// spotOf is the spot of a place.
func (d *Descent) spotOf(p Place) api.Spot {
	return api.Spot{Hit: api.Hit{Dist: vec.Dist(d.q, p.Item.Vec), Id: p.Item.Id}, Slot: p.Slot}
}
