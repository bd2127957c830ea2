// Package ask has what several tasks ask for: readings of slots, descents and looks: see ../../shared/DOC.md and doc/29-search.md.
package ask

import (
	"slices"

	"ganglion/api"
)

// Place is a slot as it was read: with its item, and its generation.
type Place struct {
	Slot int
	Item api.Item
	Gen  int
}

// asker asks for operations, one behind the other.
type asker struct {
	// then is what comes of the next answer; at the end it is nil.
	then func(g api.Got) (api.Op, bool)
}

// Next is told the last operation's answer, and tells the next operation; false, when it has ended.
func (a *asker) Next(g api.Got) (api.Op, bool) {
	if a.then == nil {
		return api.Op{}, false
	}
	return a.then(g)
}

// ask asks for an operation, whose answer is then told.
func (a *asker) ask(op api.Op, then func(g api.Got) (api.Op, bool)) (api.Op, bool) {
	a.then = then
	return op, true
}

// end is where there is nothing more to ask for.
func (a *asker) end() (api.Op, bool) {
	a.then = nil
	return api.Op{}, false
}

// read asks for a reading of each of the slots, in order, hands over what was read, and goes on behind the last one.
func (a *asker) read(slots []int, each func(p Place), on func() (api.Op, bool)) (api.Op, bool) {
	if len(slots) == 0 {
		return on()
	}
	return a.ask(api.Op{Kind: api.OpRead, A: slots[0]}, func(g api.Got) (api.Op, bool) {
		each(Place{Slot: slots[0], Item: Item(g.Item), Gen: g.M})
		return a.read(slots[1:], each, on)
	})
}

// Counting has the slots of l that count: those from 1 on, each once, but those that are left out.
func Counting(l []int, left ...int) []int {
	met := map[int]struct{}{}
	for _, slot := range left {
		met[slot] = struct{}{}
	}
	var slots []int
	for _, slot := range l {
		if _, is := met[slot]; is || slot < 1 {
			continue
		}
		met[slot] = struct{}{}
		slots = append(slots, slot)
	}
	return slots
}

// Told is what a task tells, in new memory.
func Told(told api.Told) api.Told {
	told.Call.Item, told.Item = Item(told.Call.Item), Item(told.Item)
	told.Hits, told.Marks = slices.Clone(told.Hits), slices.Clone(told.Marks)
	return told
}

// Item is it in new memory.
func Item(it api.Item) api.Item {
	it.Vec = slices.Clone(it.Vec)
	return it
}
