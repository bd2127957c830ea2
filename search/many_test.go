package search

import (
	"fmt"
	"slices"
	"testing"

	"ganglion/api"
	"ganglion/beam"
	"ganglion/exact"
	"ganglion/legal"
	"ganglion/mem"
	"ganglion/model"
	"ganglion/plane"
	"ganglion/probe"
	"ganglion/rank"
	"ganglion/vec"
)

// draws tells numbers that look like chance, the same ones each time.
type draws uint64

func (d *draws) next() uint64 {
	*d = *d*6364136223846793005 + 1442695040888963407
	return uint64(*d >> 32)
}

// below has a number from 0 to below n.
func (d *draws) below(n int) int {
	return int(d.next() % uint64(n))
}

// oneOf has one of these.
func (d *draws) oneOf(l ...int) int {
	return l[d.below(len(l))]
}

// slot is one of few, or a number that is none.
func (d *draws) slot() int {
	if d.below(12) == 0 {
		return d.oneOf(0, -1, least)
	}
	return 1 + d.below(7)
}

// item is one of few ids, with two components, and few tags.
func (d *draws) item() api.Item {
	return api.Item{Id: uint64(d.below(5)), Vec: []int32{int32(d.below(9)) - 4, int32(d.below(5)) - 2}, Tags: d.next() & d.next() & 3}
}

// call is a search, or what is taken as one, that mostly may be.
func (d *draws) call() api.Call {
	c := api.Call{Kind: api.CallSearch, Item: d.item(), K: d.below(6), Ef: d.below(5), Draw: d.next()}
	switch d.below(12) {
	case 0:
		c.K = d.oneOf(-1, least, most)
	case 1:
		c.Ef = d.oneOf(-1, api.MaxEf, api.MaxEf+1)
	case 2:
		c.Kind = d.below(9) - 1
	}
	return c
}

// few has the answers of slots that mostly stay as they were, and of ids that stand in one of them.
type few struct {
	*draws
	read map[int]api.Got
}

// answer is any answer that a memory, or something worse, might give.
func (f few) answer(op api.Op) api.Got {
	d := f.draws
	g := api.Got{Ok: d.below(8) > 0, N: d.slot(), M: d.below(10) - 1, Item: d.item()}
	switch op.Kind {
	case api.OpClosed:
		g.Ok = d.below(9) == 0
	case api.OpList:
		for range d.below(6) {
			g.List = append(g.List, d.slot())
		}
	case api.OpRing:
		g.M = d.slot()
	case api.OpRead:
		g.M = d.below(2)
		if was, is := f.read[op.A]; is && d.below(6) > 0 {
			g = was
		}
		f.read[op.A] = g
	case api.OpId:
		for slot := range 9 {
			if was, is := f.read[slot]; is && was.Item.Id == op.Id && d.below(2) == 0 {
				g.N, g.M = slot, was.M
			}
		}
	}
	return g
}

// said is a search by the words of the document: what it asks for by answer, and what comes of it.
type said struct {
	answer func(op api.Op) api.Got
	call   api.Call
	marks  int
	why    api.Errno
	hits   []api.Hit
}

// place is a slot that was read.
type place struct {
	slot int
	got  api.Got
}

func (s *said) read(slot int) place {
	return place{slot, s.answer(api.Op{Kind: api.OpRead, A: slot})}
}

func (s *said) spot(p place) api.Spot {
	return api.Spot{Hit: api.Hit{Dist: vec.Dist(p.got.Item.Vec, s.call.Item.Vec), Id: p.got.Item.Id}, Slot: p.slot}
}

// each has the slots that count, but one.
func each(l []int, but int) []int {
	var slots []int
	for i, slot := range l {
		if slot >= 1 && slot != but && !slices.Contains(l[:i], slot) {
			slots = append(slots, slot)
		}
	}
	return slots
}

// run is the whole of it.
func (s *said) run(dim, ef int) {
	if s.answer(api.Op{Kind: api.OpClosed}).Ok {
		s.marks, s.why = 1, api.ErrClosed
		return
	}
	if s.why = model.Valid(s.call, dim); s.why != api.OK {
		s.marks = 1
		return
	}
	if s.call.K == 0 {
		return
	}
	epoch := s.answer(api.Op{Kind: api.OpEpoch}).N
	if epoch < 0 || epoch > 1<<62 {
		epoch = 0
	}
	s.answer(api.Op{Kind: api.OpPin, N: epoch + 1})
	var from []place
	if g := s.answer(api.Op{Kind: api.OpEntry}); g.Ok {
		from = append(from, s.descend(s.read(g.N), min(g.M, api.MaxLevel)))
	}
	width := s.call.Ef
	if width == 0 {
		width = ef
	}
	s.tell(s.look(max(s.call.K, width), from))
	s.answer(api.Op{Kind: api.OpPin})
}

func (s *said) descend(at place, level int) place {
	for level >= 1 {
		spots := map[api.Spot]place{s.spot(at): at}
		for _, slot := range each(s.answer(api.Op{Kind: api.OpList, A: at.slot, B: level}).List, at.slot) {
			p := s.read(slot)
			spots[s.spot(p)] = p
		}
		best := s.spot(at)
		for spot := range spots {
			if rank.Spot(spot, best) {
				best = spot
			}
		}
		if best.Slot == at.slot {
			level--
		}
		at = spots[best]
	}
	return at
}

// look has the spots that were found, in order, and the generations of all slots that were offered.
func (s *said) look(width int, from []place) ([]api.Spot, map[int]int) {
	p, gens := probe.New(s.call.Item.Vec, s.call.Item.Tags, width), map[int]int{}
	for _, f := range from {
		p.Offer(f.slot, f.got.Item)
		gens[f.slot] = f.got.M
	}
	offer := func(slots ...int) {
		for _, slot := range each(slots, 0) {
			if _, known := gens[slot]; !known {
				g := s.read(slot).got
				p.Offer(slot, g.Item)
				gens[slot] = g.M
			}
		}
	}
	g := s.answer(api.Op{Kind: api.OpRing})
	offer(g.N, g.M)
	for slot, is := p.Want(); is; slot, is = p.Want() {
		offer(s.answer(api.Op{Kind: api.OpList, A: slot}).List...)
		g = s.answer(api.Op{Kind: api.OpRing, A: slot})
		offer(g.N, g.M)
	}
	return p.Found(), gens
}

func (s *said) tell(found []api.Spot, gens map[int]int) {
	for _, spot := range found {
		has := slices.ContainsFunc(s.hits, func(h api.Hit) bool { return h.Id == spot.Hit.Id })
		if has || len(s.hits) == s.call.K {
			continue
		}
		if g := s.answer(api.Op{Kind: api.OpId, Id: spot.Hit.Id}); g.Ok && g.N == spot.Slot && g.M == gens[spot.Slot] {
			s.marks++
			s.hits = append(s.hits, spot.Hit)
		}
	}
}

// checkHits fails, unless hits rise, no id is twice, and there are at most K, and as many as marks.
func checkHits(t *testing.T, task *Task) {
	t.Helper()
	said := task.Told()
	met := map[uint64]bool{}
	for _, h := range said.Hits {
		if met[h.Id] {
			t.Fatalf("an id is twice in %v", said)
		}
		met[h.Id] = true
	}
	if said.Err == api.OK && (!rank.Rising(said.Hits) || len(said.Hits) > said.Call.K || len(said.Hits) != task.Marks()) {
		t.Fatalf("with %d marks it tells %v", task.Marks(), said)
	}
	if said.Err != api.OK && (len(said.Hits) != 0 || task.Marks() != 1) {
		t.Fatalf("with %d marks it tells %v", task.Marks(), said)
	}
}

// 29.1 to 29.3: many searches with many answers, held against the words.
func TestMany(t *testing.T) {
	d := draws(29)
	for range 30000 {
		c, dim, ef := d.call(), 2, d.below(7)-1
		if d.below(20) == 0 {
			dim = d.below(4)
		}
		var ops []api.Op
		var gots []api.Got
		f := few{&d, map[int]api.Got{}}
		want := said{call: c, answer: func(op api.Op) api.Got {
			g := f.answer(op)
			ops, gots = append(ops, op), append(gots, g)
			return g
		}}
		want.call.Kind = api.CallSearch
		want.run(dim, ef)
		task := New(c, dim, ef)
		op, is := task.Next(api.Got{Ok: true})
		for i, g := range gots {
			if !is || fmt.Sprint(op) != fmt.Sprint(ops[i]) {
				t.Fatalf("%v, told %v: at %d it asks for %v, %v, want %v", c, gots, i, op, is, ops[i])
			}
			op, is = task.Next(g)
			checkHits(t, task)
		}
		if is {
			t.Fatalf("%v, told %v: at its end it asks for %v", c, gots, op)
		}
		same(t, fmt.Sprintf("what %v, told %v, tells", c, gots), []any{task.Marks(), task.Told()},
			[]any{want.marks, api.Told{Call: want.call, Err: want.why, Hits: want.hits}})
	}
}

// plane is one of few nodes, right for these links, with an entry or without.
func (d *draws) plane(links int) api.Plane {
	g, n := plane.New(), d.below(14)
	for i := range n {
		it := d.item()
		it.Id = uint64(i*7%13) + 100
		g, _, _ = plane.Put(g, it, d.below(3), links)
	}
	for range d.below(3*n + 1) {
		g, _ = plane.Link(g, 1+d.below(n), 1+d.below(n), d.below(3), links)
	}
	if slot := d.below(n + 1); slot > 0 && n > 0 {
		g.Entry, g.Top = slot, d.below(g.Nodes[slot].Level+1)
	}
	return g
}

// stored is a memory with that plane in it; its slots are of generation 1.
func stored(t *testing.T, g api.Plane, c api.Config) *mem.Mem {
	t.Helper()
	m, why := mem.New(c)
	if why != api.OK {
		t.Fatal(why)
	}
	do := func(op api.Op) { m.Do(0, op) }
	for range g.Nodes[1:] {
		do(api.Op{Kind: api.OpAlloc})
	}
	for slot := len(g.Nodes) - 1; slot > 0; slot-- {
		do(api.Op{Kind: api.OpGive, A: slot})
	}
	for slot, n := range g.Nodes {
		if slot > 0 {
			do(api.Op{Kind: api.OpAlloc})
			do(api.Op{Kind: api.OpWrite, A: slot, N: n.Level, Item: n.Item})
			do(api.Op{Kind: api.OpPut, A: slot, N: 1, Id: n.Item.Id})
		}
		do(api.Op{Kind: api.OpSetRing, A: slot, N: n.Next, M: n.Prev})
		for level, l := range n.Lists {
			do(api.Op{Kind: api.OpSetList, A: slot, B: level, List: l})
		}
	}
	do(api.Op{Kind: api.OpSwap, N: g.Entry, M: g.Top})
	return m
}

// alone does a search by worker 1, while nobody else does anything.
func alone(m *mem.Mem, task *Task) {
	for op, is := task.Next(api.Got{}); is; {
		g, _ := m.Do(1, op)
		op, is = task.Next(g)
	}
}

// 29.1 to 29.3: in a memory at rest is found what is found in its plane, and with enough that are looked at just what is nearest.
func TestAtRest(t *testing.T) {
	d := draws(15)
	for range 3000 {
		links := 1 + d.below(3)
		config := api.Config{Dim: 2, Cap: 15, Links: links, Ef: 1 + d.below(9), Workers: 1}
		g := d.plane(links)
		m := stored(t, g, config)
		c := api.Call{Kind: api.CallSearch, Item: d.item(), K: d.below(8), Ef: d.oneOf(0, 0, 1, 3, 15)}
		width := c.Ef
		if width == 0 {
			width = config.Ef
		}
		task := New(c, config.Dim, config.Ef)
		alone(m, task)
		checkHits(t, task)
		want := api.Told{Call: c, Hits: beam.Search(g, c.Item.Vec, c.Item.Tags, c.K, width)}
		same(t, fmt.Sprintf("what is told of %v", g), task.Told(), want)
		if width >= len(g.Nodes) {
			var items []api.Item
			for _, slot := range plane.Live(g) {
				items = append(items, g.Nodes[slot].Item)
			}
			want.Hits = exact.Search(items, c.Item.Vec, c.Item.Tags, c.K)
			same(t, fmt.Sprintf("what is nearest in %v", g), task.Told(), want)
		}
		if s := m.State(); slices.Max(s.Recs) != 0 || slices.Max(s.Holders) != -1 || len(m.Clashes()) != 0 {
			t.Fatalf("it leaves %v", s)
		}
	}
}

// 29.1: as long as it looks its worker is pinned, and else it is not.
func TestPinned(t *testing.T) {
	d := draws(7)
	for range 100 {
		config := api.Config{Dim: 2, Cap: 15, Links: 2, Ef: 9, Workers: 1}
		m := stored(t, d.plane(2), config)
		m.Do(0, api.Op{Kind: api.OpAdvance, N: 1})
		task := New(api.Call{Item: d.item(), K: 3}, 2, 9)
		pinned := 0
		for op, is := task.Next(api.Got{}); is; {
			looks := op.Kind != api.OpClosed && op.Kind != api.OpEpoch && op.Kind != api.OpPin
			if rec := m.State().Recs[1]; rec != pinned || looks != (rec == 2) && op.Kind != api.OpPin {
				t.Fatalf("with the record %d it asks for %v", rec, op)
			}
			g, _ := m.Do(1, op)
			if op.Kind == api.OpPin {
				pinned = op.N
			}
			op, is = task.Next(g)
		}
		if pinned != 0 {
			t.Fatal("at its end it is pinned")
		}
	}
}

// change does one thing to the memory by worker 0: an item goes, or one that went comes again, in another slot; it tells what ended, at that time.
func (d *draws) change(m *mem.Mem, items map[uint64]api.Item, time int) []api.Told {
	id := uint64(100 + d.below(13))
	told := api.Told{Call: api.Call{Kind: api.CallDelete, Item: api.Item{Id: id}}, From: time, Marks: []int{time}, To: time}
	g, _ := m.Do(0, api.Op{Kind: api.OpDrop, Id: id})
	if g.Ok {
		// The slot may be used again at once, which no epoch would let be: a search must see by its generation that it was. What stood there goes, since that was read in the generation in which the slot is free, too.
		m.Do(0, api.Op{Kind: api.OpRetire, A: g.N})
		ring, _ := m.Do(0, api.Op{Kind: api.OpRing, A: g.N})
		m.Do(0, api.Op{Kind: api.OpFree, A: g.N})
		m.Do(0, api.Op{Kind: api.OpWrite, A: g.N, Item: api.Item{Vec: []int32{0, 0}}})
		m.Do(0, api.Op{Kind: api.OpSetRing, A: g.N, N: ring.N, M: ring.M})
		return []api.Told{told}
	}
	it, was := items[id]
	if !was {
		return nil
	}
	if g, _ = m.Do(0, api.Op{Kind: api.OpAlloc}); !g.Ok {
		return nil
	}
	it.Vec = d.item().Vec
	m.Do(0, api.Op{Kind: api.OpWrite, A: g.N, Item: it})
	m.Do(0, api.Op{Kind: api.OpPut, A: g.N, N: g.M, Id: id})
	told.Call = api.Call{Kind: api.CallInsert, Item: it}
	return []api.Told{told}
}

// 29.1, 29.3: whatever changes while it looks, each hit was there, and as it is told, at its mark.
func TestAllOfItWasSeen(t *testing.T) {
	d := draws(3)
	hits := 0
	for range 4000 {
		g := d.plane(2)
		m := stored(t, g, api.Config{Dim: 2, Cap: 15, Links: 2, Ef: 9, Workers: 1})
		items := map[uint64]api.Item{}
		var ends []api.Told
		for _, slot := range plane.Live(g) {
			it := g.Nodes[slot].Item
			items[it.Id] = it
			ends = append(ends, api.Told{Call: api.Call{Kind: api.CallInsert, Item: it}, Marks: []int{0}})
		}
		task := New(api.Call{Item: d.item(), K: 1 + d.below(9), Ef: d.below(9)}, 2, 9)
		var marks []int
		rate := 1 + d.below(12)
		time := 1
		for op, is := task.Next(api.Got{}); is; time += 2 {
			if d.below(rate) == 0 {
				ends = append(ends, d.change(m, items, time)...)
			}
			got, _ := m.Do(1, op)
			op, is = task.Next(got)
			checkHits(t, task)
			for len(marks) < task.Marks() {
				marks = append(marks, time+1)
			}
		}
		told := task.Told()
		told.From, told.Marks, told.To = 1, marks, time
		if !legal.Hits(append(ends, told)) {
			t.Fatalf("of %v it tells %v", ends, told)
		}
		hits += len(told.Hits)
	}
	if hits < 4000 {
		t.Errorf("there were %d hits alone", hits)
	}
}
