package mem

import (
	"slices"

	"ganglion/api"
	"ganglion/pack"
	"ganglion/ring"
)

// step is an operation on the memory that a worker does.
type step struct {
	*Mem
	api.Op
	worker int
}

// may tells whether the operation is one that does something, or could, were the memory as it should be.
func (s step) may() bool {
	if !s.isWorker(s.worker) {
		return false
	}
	switch s.Kind {
	case api.OpRec:
		return s.isWorker(s.A)
	case api.OpPin:
		return s.N >= 0
	case api.OpTomb, api.OpKill, api.OpPut, api.OpGive, api.OpFree, api.OpBury, api.OpRetire, api.OpRead:
		return s.isSlot(s.A)
	case api.OpWrite:
		return s.isSlot(s.A) && isLevel(s.N)
	case api.OpList, api.OpSetList:
		return s.isSlot(s.A) && isLevel(s.B)
	case api.OpRing, api.OpLock, api.OpUnlock:
		return s.isPlace(s.A)
	case api.OpSetRing:
		return s.isPlace(s.A) && s.isNext(s.N) && s.isNext(s.M)
	}
	return s.Kind > api.OpNone && s.Kind < api.OpKinds
}

// do is the operation; false, if the worker has to wait for it.
func (s step) do() (api.Got, bool) {
	switch s.Kind {
	case api.OpLock:
		return s.take()
	case api.OpUnlock:
		return done(s.mutexes.Give(s.worker, s.A)), true
	case api.OpClosed, api.OpClose, api.OpEpoch, api.OpAdvance, api.OpRec, api.OpPin:
		return s.doTimes(), true
	case api.OpEntry, api.OpSwap:
		return s.doEntry(), true
	case api.OpId, api.OpPut, api.OpDrop, api.OpCount:
		return s.doIds(), true
	case api.OpAlloc, api.OpGive, api.OpFree, api.OpRetire:
		return s.doSlots(), true
	case api.OpBury, api.OpUnbury:
		return s.doGrave(), true
	}
	return s.doNode(), true
}

// take lets the worker hold the mutex, or wait for it, if another one holds that.
func (s step) take() (api.Got, bool) {
	took := s.mutexes.Take(s.worker, s.A)
	holder, _ := s.mutexes.Holder(s.A)
	return done(took), holder == s.worker
}

// doTimes does what is done to the closed mark, the epoch and the records.
func (s step) doTimes() api.Got {
	switch s.Kind {
	case api.OpClosed:
		return done(s.closed)
	case api.OpClose:
		was := s.closed
		s.closed = true
		return done(!was)
	case api.OpEpoch:
		return api.Got{Ok: true, N: s.epoch}
	case api.OpAdvance:
		follows := s.N == s.epoch+1
		if follows {
			s.epoch = s.N
		}
		return done(follows)
	case api.OpRec:
		return api.Got{Ok: true, N: s.recs[s.A]}
	}
	s.recs[s.worker] = s.N
	return done(true)
}

// doEntry tells the entry, or sets it, if it is as it was.
func (s step) doEntry() api.Got {
	if s.Kind == api.OpEntry {
		return api.Got{Ok: s.entry.slot != head, N: s.entry.slot, M: s.entry.level}
	}
	to := entry{s.N, s.M}
	may := s.isSlot(s.N) && isLevel(s.M) || to == entry{}
	if !may || s.entry != (entry{s.A, s.B}) {
		return api.Got{}
	}
	s.entry = to
	return done(true)
}

// doIds does what is done to the map of ids.
func (s step) doIds() api.Got {
	switch s.Kind {
	case api.OpId:
		r, has := s.ids.Get(s.Id)
		return api.Got{Ok: has, N: r.Slot, M: r.Gen}
	case api.OpPut:
		held := s.slots.State(s.A) == api.SlotHeld && s.slots.Gen(s.A) == s.N
		return done(held && s.ids.Put(s.Id, api.Ref{Slot: s.A, Gen: s.N}) && s.slots.Move(s.A, api.SlotLive))
	case api.OpDrop:
		r, has := s.ids.Drop(s.Id)
		s.slots.Move(r.Slot, api.SlotDead)
		return api.Got{Ok: has, N: r.Slot, M: r.Gen}
	}
	return api.Got{Ok: true, N: s.ids.Len()}
}

// doSlots does what is done to the arena.
func (s step) doSlots() api.Got {
	switch s.Kind {
	case api.OpAlloc:
		r, is := s.slots.Alloc()
		return api.Got{Ok: is, N: r.Slot, M: r.Gen}
	case api.OpGive:
		return s.free(api.SlotHeld)
	case api.OpFree:
		return s.free(api.SlotLimbo)
	}
	return done(s.slots.Move(s.A, api.SlotLimbo))
}

// free lets the slot be free, if it is in that state, and what is there of it, but its data, be as at first.
func (s step) free(from int) api.Got {
	if s.slots.State(s.A) != from || !s.slots.Free(s.A) {
		return api.Got{}
	}
	n := &s.nodes[s.A]
	n.dead, n.lists = false, [levels][]int{}
	s.setRing(none, none)
	return done(true)
}

// doGrave puts the slot behind the grave, or takes the first one out.
func (s step) doGrave() api.Got {
	if s.Kind == api.OpBury {
		may := s.slots.State(s.A) == api.SlotDead && !slices.Contains(s.grave, s.A)
		if may {
			s.grave = append(s.grave, s.A)
		}
		return done(may)
	}
	if len(s.grave) == 0 {
		return api.Got{}
	}
	first := s.grave[0]
	s.grave = slices.Delete(s.grave, 0, 1)
	return api.Got{Ok: true, N: first}
}

// doNode does what is done to the mark of death, the ring, the lists and the data of the slot.
func (s step) doNode() api.Got {
	n := &s.nodes[s.A]
	switch s.Kind {
	case api.OpTomb:
		return done(n.dead)
	case api.OpKill:
		n.dead = true
	case api.OpRing:
		next, prev := ring.At(s.ring, s.A)
		return api.Got{Ok: true, N: next, M: prev}
	case api.OpSetRing:
		s.setRing(s.N, s.M)
	case api.OpList:
		return api.Got{Ok: true, List: slices.Clone(n.lists[s.B])}
	case api.OpSetList:
		n.lists[s.B] = slices.Clone(s.List)
	case api.OpRead:
		return api.Got{Ok: true, N: n.level, M: s.slots.Gen(s.A), Item: copied(n.item)}
	case api.OpWrite:
		n.item, n.level = copied(s.Item), s.N
	}
	return done(true)
}

// setRing gives the slot this Next and Prev.
func (s step) setRing(next, prev int) {
	// All that may be in the memory's ring may be in a word.
	s.ring[s.A], _ = pack.PutRing(next, prev)
}

// isWorker tells whether there is such a worker.
func (s step) isWorker(w int) bool {
	return w >= 0 && w < len(s.recs)
}

// isSlot tells whether n is a slot.
func (s step) isSlot(n int) bool {
	return isTo(n, len(s.nodes)-1)
}

// isPlace tells whether n is a slot, or the head.
func (s step) isPlace(n int) bool {
	return n == head || s.isSlot(n)
}

// isNext tells whether a slot's Next, or Prev, may be n.
func (s step) isNext(n int) bool {
	return n == none || s.isPlace(n)
}

// isLevel tells whether n is a level.
func isLevel(n int) bool {
	return n >= 0 && n < levels
}

// done is the answer that tells just whether something was done, or is so.
func done(ok bool) api.Got {
	return api.Got{Ok: ok}
}
