package mem

import (
	"fmt"
	"maps"
	"slices"

	"ganglion/api"
	"ganglion/race"
	"ganglion/rng"
)

// said is a memory by the document's words: what it has is in maps, and what is not there is as at first.
type said struct {
	cap, workers int
	closed       bool
	epoch        int
	recs         map[int]int
	entry, top   int
	ids          map[uint64]api.Ref
	free         []int
	state, gen   map[int]int
	grave        []int
	dead         map[int]bool
	lists        map[[2]int][]int
	items        map[int]api.Item
	levels       map[int]int
	ring         map[int][2]int
	holders      map[int]int
	unrising     bool
	steps        int
	watch        *race.Watch
	places       map[string]int
}

// newSaid is one with nothing in it.
func newSaid(c api.Config) *said {
	s := &said{cap: c.Cap, workers: c.Workers, recs: map[int]int{}, ids: map[uint64]api.Ref{}, state: map[int]int{}, gen: map[int]int{}, dead: map[int]bool{}, lists: map[[2]int][]int{}, items: map[int]api.Item{}, levels: map[int]int{}, ring: map[int][2]int{0: {0, 0}}, holders: map[int]int{}, watch: race.New(), places: map[string]int{}}
	for slot := c.Cap; slot >= 1; slot-- {
		s.free = append(s.free, slot)
	}
	return s
}

// next is a slot's Next and Prev.
func (s *said) next(slot int) (int, int) {
	if p, in := s.ring[slot]; in {
		return p[0], p[1]
	}
	return -1, -1
}

// between tells whether n is one of those.
func between(n, from, to int) bool { return n >= from && n <= to }

// isNothing tells whether the operation is nothing.
func (s *said) isNothing(w int, op api.Op) bool {
	if !between(w, 0, s.workers) || !between(op.Kind, api.OpClosed, api.OpWrite) {
		return true
	}
	switch op.Kind {
	case api.OpRec:
		return !between(op.A, 0, s.workers)
	case api.OpPin:
		return op.N < 0
	case api.OpTomb, api.OpKill, api.OpList, api.OpSetList, api.OpPut, api.OpGive, api.OpFree, api.OpRetire, api.OpBury, api.OpRead, api.OpWrite:
		return !between(op.A, 1, s.cap) || (op.Kind == api.OpList || op.Kind == api.OpSetList) && !between(op.B, 0, 7) || op.Kind == api.OpWrite && !between(op.N, 0, 7)
	case api.OpRing, api.OpSetRing, api.OpLock, api.OpUnlock:
		return !between(op.A, 0, s.cap) || op.Kind == api.OpSetRing && (!between(op.N, -1, s.cap) || !between(op.M, -1, s.cap))
	}
	return false
}

// do is the operation, whether it is done, and what it answers.
func (s *said) do(w int, op api.Op) (api.Got, bool) {
	if s.isNothing(w, op) {
		return api.Got{}, true
	}
	if op.Kind < api.OpRead {
		s.steps++
	}
	got, through := s.answer(w, op)
	s.see(w, op, got.Ok)
	return got, through
}

// answer is what an operation does, and answers, that is not nothing.
func (s *said) answer(w int, op api.Op) (api.Got, bool) {
	got := api.Got{Ok: true}
	ref, has := s.ids[op.Id]
	holder, held := s.holders[op.A]
	switch op.Kind {
	case api.OpClosed:
		got.Ok = s.closed
	case api.OpClose:
		got.Ok, s.closed = !s.closed, true
	case api.OpEpoch:
		got.N = s.epoch
	case api.OpAdvance:
		if got.Ok = op.N-1 == s.epoch; got.Ok {
			s.epoch++
		}
	case api.OpRec:
		got.N = s.recs[op.A]
	case api.OpPin:
		s.recs[w] = op.N
	case api.OpEntry:
		got = api.Got{Ok: s.entry > 0, N: s.entry, M: s.top}
	case api.OpSwap:
		may := between(op.N, 1, s.cap) && between(op.M, 0, 7) || op.N == 0 && op.M == 0
		if got.Ok = may && s.entry == op.A && s.top == op.B; got.Ok {
			s.entry, s.top = op.N, op.M
		}
	case api.OpTomb:
		got.Ok = s.dead[op.A]
	case api.OpKill:
		s.dead[op.A] = true
	case api.OpRing:
		got.N, got.M = s.next(op.A)
	case api.OpSetRing:
		s.ring[op.A] = [2]int{op.N, op.M}
	case api.OpList:
		got.List = s.lists[[2]int{op.A, op.B}]
	case api.OpSetList:
		s.lists[[2]int{op.A, op.B}] = slices.Clone(op.List)
	case api.OpId:
		got = api.Got{Ok: has, N: ref.Slot, M: ref.Gen}
	case api.OpPut:
		if got.Ok = !has && s.state[op.A] == api.SlotHeld && s.gen[op.A] == op.N; got.Ok {
			s.ids[op.Id], s.state[op.A] = api.Ref{Slot: op.A, Gen: op.N}, api.SlotLive
		}
	case api.OpDrop:
		if got = (api.Got{Ok: has, N: ref.Slot, M: ref.Gen}); has {
			delete(s.ids, op.Id)
			s.state[ref.Slot] = api.SlotDead
		}
	case api.OpCount:
		got.N = len(s.ids)
	case api.OpAlloc:
		if got.Ok = len(s.free) > 0; got.Ok {
			got.N = s.free[len(s.free)-1]
			got.M = s.gen[got.N]
			s.free, s.state[got.N] = s.free[:len(s.free)-1], api.SlotHeld
		}
	case api.OpGive, api.OpFree:
		from := map[int]int{api.OpGive: api.SlotHeld, api.OpFree: api.SlotLimbo}[op.Kind]
		if got.Ok = s.state[op.A] == from; got.Ok {
			s.empty(op.A)
		}
	case api.OpRetire:
		if got.Ok = s.state[op.A] == api.SlotDead; got.Ok {
			s.state[op.A] = api.SlotLimbo
		}
	case api.OpBury:
		if got.Ok = s.state[op.A] == api.SlotDead && !slices.Contains(s.grave, op.A); got.Ok {
			s.grave = append(s.grave, op.A)
		}
	case api.OpUnbury:
		if got.Ok = len(s.grave) > 0; got.Ok {
			got.N, s.grave = s.grave[0], s.grave[1:]
		}
	case api.OpLock:
		if held && holder == w {
			return api.Got{}, true
		}
		for n, holder := range s.holders {
			s.unrising = s.unrising || holder == w && n > op.A
		}
		if held {
			return api.Got{}, false
		}
		s.holders[op.A] = w
	case api.OpUnlock:
		if got.Ok = held && holder == w; got.Ok {
			delete(s.holders, op.A)
		}
	case api.OpRead:
		got.Item, got.N, got.M = s.items[op.A], s.levels[op.A], s.gen[op.A]
	case api.OpWrite:
		it := op.Item
		it.Vec = slices.Clone(it.Vec)
		s.items[op.A], s.levels[op.A] = it, op.N
	}
	return got, true
}

// empty lets a slot be free in its next generation, and be nowhere.
func (s *said) empty(slot int) {
	s.free = append(s.free, slot)
	s.state[slot] = api.SlotFree
	s.gen[slot]++
	delete(s.dead, slot)
	delete(s.ring, slot)
	maps.DeleteFunc(s.lists, func(at [2]int, l []int) bool { return at[0] == slot })
}

// The ways in which a place is seen.
const (
	unseen = iota
	load
	store
	swap
)

// seen is how the watch sees an operation that is not nothing, by worker w, and at which places, by their names.
func seen(w int, op api.Op, ok bool) (int, []string) {
	slot, shard := fmt.Sprint(op.A), fmt.Sprint(rng.Below(rng.Mix(op.Id), 64))
	switch op.Kind {
	case api.OpClosed:
		return load, []string{"closed"}
	case api.OpEpoch:
		return load, []string{"epoch"}
	case api.OpRec:
		return load, []string{"record " + slot}
	case api.OpEntry:
		return load, []string{"entry"}
	case api.OpTomb:
		return load, []string{"tomb " + slot}
	case api.OpRing:
		return load, []string{"ring " + slot}
	case api.OpList:
		return load, []string{fmt.Sprint("list ", op.A, op.B)}
	case api.OpId:
		return load, []string{"shard " + shard}
	case api.OpCount:
		var all []string
		for n := range 64 {
			all = append(all, fmt.Sprint("shard ", n))
		}
		return load, all
	case api.OpAdvance:
		return store, []string{"epoch"}
	case api.OpPin:
		return store, []string{fmt.Sprint("record ", w)}
	case api.OpKill:
		return store, []string{"tomb " + slot}
	case api.OpSetRing:
		return store, []string{"ring " + slot}
	case api.OpSetList:
		return store, []string{fmt.Sprint("list ", op.A, op.B)}
	case api.OpClose:
		return swap, []string{"closed"}
	case api.OpSwap:
		return swap, []string{"entry"}
	case api.OpPut, api.OpDrop:
		return swap, []string{"shard " + shard}
	case api.OpAlloc, api.OpGive, api.OpFree, api.OpRetire:
		return swap, []string{"arena"}
	case api.OpBury, api.OpUnbury:
		return swap, []string{"grave"}
	}
	if op.Kind == api.OpLock && ok {
		return load, []string{"mutex " + slot}
	}
	if op.Kind == api.OpUnlock && ok {
		return store, []string{"mutex " + slot}
	}
	return unseen, nil
}

// see lets the watch see an operation that is not nothing.
func (s *said) see(w int, op api.Op, ok bool) {
	if op.Kind == api.OpRead {
		s.watch.Read(w, op.A)
	}
	if op.Kind == api.OpWrite {
		s.watch.Write(w, op.A)
	}
	how, places := seen(w, op, ok)
	for _, name := range places {
		if _, is := s.places[name]; !is {
			s.places[name] = len(s.places)
		}
		switch how {
		case load:
			s.watch.Load(w, s.places[name])
		case store:
			s.watch.Store(w, s.places[name])
		case swap:
			s.watch.Swap(w, s.places[name])
		}
	}
}

// tell is all that the memory has.
func (s *said) tell() api.State {
	t := api.State{Closed: s.closed, Epoch: s.epoch, Entry: s.entry, Top: s.top, Grave: s.grave}
	for w := range s.workers + 1 {
		t.Recs = append(t.Recs, s.recs[w])
	}
	for _, id := range slices.Sorted(maps.Keys(s.ids)) {
		t.Ids = append(t.Ids, api.Named{Id: id, Ref: s.ids[id]})
	}
	for slot := range s.cap + 1 {
		c := api.Cell{State: s.state[slot], Gen: s.gen[slot], Item: s.items[slot], Level: s.levels[slot], Dead: s.dead[slot]}
		c.Next, c.Prev = s.next(slot)
		last := 7
		for last >= 0 && len(s.lists[[2]int{slot, last}]) == 0 {
			last--
		}
		for level := range last + 1 {
			c.Lists = append(c.Lists, s.lists[[2]int{slot, level}])
		}
		t.Cells = append(t.Cells, c)
		holder, held := s.holders[slot]
		if !held {
			holder = -1
		}
		t.Holders = append(t.Holders, holder)
	}
	return t
}
