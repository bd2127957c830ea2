package mem

import "ganglion/api"

// The kinds of atomic places.
const (
	placeClosed = iota
	placeEpoch
	placeRecord
	placeEntry
	placeShard
	placeArena
	placeGrave
	placeTomb
	placeRing
	placeMutex
	placeList
	placeKinds
)

// numbered is the atomic place of that kind that has this number among its like.
func numbered(kind, number int) int {
	return number*placeKinds + kind
}

// see lets the watch see the operation, which was Ok, or not.
func (s step) see(ok bool) {
	switch s.Kind {
	case api.OpRead:
		s.watch.Read(s.worker, s.A)
	case api.OpWrite:
		s.watch.Write(s.worker, s.A)
	case api.OpCount:
		for shard := range shards {
			s.watch.Load(s.worker, numbered(placeShard, shard))
		}
	case api.OpLock:
		if ok {
			s.watch.Load(s.worker, s.place())
		}
	case api.OpUnlock:
		if ok {
			s.watch.Store(s.worker, s.place())
		}
	case api.OpClosed, api.OpEpoch, api.OpRec, api.OpEntry, api.OpTomb, api.OpRing, api.OpList, api.OpId:
		s.watch.Load(s.worker, s.place())
	case api.OpAdvance, api.OpPin, api.OpKill, api.OpSetRing, api.OpSetList:
		s.watch.Store(s.worker, s.place())
	default:
		s.watch.Swap(s.worker, s.place())
	}
}

// place is the atomic place of the operation.
func (s step) place() int {
	switch s.Kind {
	case api.OpClosed, api.OpClose:
		return numbered(placeClosed, 0)
	case api.OpEpoch, api.OpAdvance:
		return numbered(placeEpoch, 0)
	case api.OpRec:
		return numbered(placeRecord, s.A)
	case api.OpPin:
		return numbered(placeRecord, s.worker)
	case api.OpEntry, api.OpSwap:
		return numbered(placeEntry, 0)
	case api.OpId, api.OpPut, api.OpDrop:
		return numbered(placeShard, s.ids.Shard(s.Id))
	case api.OpBury, api.OpUnbury:
		return numbered(placeGrave, 0)
	case api.OpTomb, api.OpKill:
		return numbered(placeTomb, s.A)
	case api.OpRing, api.OpSetRing:
		return numbered(placeRing, s.A)
	case api.OpLock, api.OpUnlock:
		return numbered(placeMutex, s.A)
	case api.OpList, api.OpSetList:
		return numbered(placeList, s.A*levels+s.B)
	}
	return numbered(placeArena, 0)
}
