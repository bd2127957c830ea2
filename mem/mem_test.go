package mem

import (
	"fmt"
	"maps"
	"math"
	"slices"
	"strings"
	"testing"

	"ganglion/api"
	"ganglion/rng"
)

const (
	most  = math.MaxInt
	least = math.MinInt
)

// small is a config of three slots and three workers, the last of which repairs.
var small = api.Config{Dim: 2, Cap: 3, Links: 2, Ef: 4, Workers: 2}

// draws tells numbers that look like chance, the same ones each time.
type draws uint64

func (d *draws) next() uint64 {
	*d = *d*6364136223846793005 + 1442695040888963407
	return uint64(*d >> 32)
}

// below has a number from 0 to below n.
func (d *draws) below(n int) int {
	return int(d.next() % uint64(n))
}

// oneOf has one of the numbers.
func (d *draws) oneOf(l ...int) int {
	return l[d.below(len(l))]
}

// deed is an operation of a worker, and what comes of it, as text.
type deed struct {
	w    int
	op   api.Op
	want string
}

// The answers that say just whether something was done; waits, if the worker has to.
const (
	did   = "{true 0 0 [] {0 [] 0}} true"
	not   = "{false 0 0 [] {0 [] 0}} true"
	waits = "{false 0 0 [] {0 [] 0}} false"
)

// told is the answer of two numbers.
func told(n, m int) string { return fmt.Sprintf("{true %d %d [] {0 [] 0}} true", n, m) }

// newMem is a memory; the test fails, if there is none.
func newMem(t *testing.T, c api.Config) *Mem {
	t.Helper()
	m, why := New(c)
	if m == nil || why != api.OK {
		t.Fatalf("New(%v) = %v, %v", c, m, why)
	}
	return m
}

// run does the deeds, and fails unless each of them answers as it should.
func run(t *testing.T, m *Mem, deeds ...deed) {
	t.Helper()
	for i, e := range deeds {
		if got := fmt.Sprint(m.Do(e.w, e.op)); got != e.want {
			t.Errorf("%d: %v by %d answers %s, want %s", i, e.op, e.w, got, e.want)
		}
	}
}

// op is an operation of that kind on a slot.
func op(kind, a int) api.Op { return api.Op{Kind: kind, A: a} }

// ofId is an operation of that kind on an id, with a slot, and its generation.
func ofId(kind int, id uint64, a, n int) api.Op { return api.Op{Kind: kind, Id: id, A: a, N: n} }

// 24.1: a config is right, if each of its numbers is from 1 to its limit.
func TestCheck(t *testing.T) {
	right := []api.Config{
		small,
		{Dim: 1, Cap: 1, Links: 1, Ef: 1, Workers: 1},
		{Dim: api.MaxDim, Cap: api.MaxCap, Links: api.MaxLinks, Ef: api.MaxEf, Workers: api.MaxWorkers},
	}
	for _, c := range right {
		if why := Check(c); why != api.OK {
			t.Errorf("Check(%v) = %v", c, why)
		}
		m := newMem(t, c)
		if got, want := fmt.Sprint(m.State()), fmt.Sprint(newSaid(c).tell()); got != want {
			t.Errorf("a new memory of %v is not as at first", c)
		}
		s := m.State()
		if len(s.Cells) != c.Cap+1 || len(s.Holders) != c.Cap+1 || len(s.Recs) != c.Workers+1 || m.Steps() != 0 || !m.Rising() || len(m.Ring()) != 0 || len(m.Clashes()) != 0 {
			t.Errorf("a new memory of %v has %d cells, %d holders, %d records", c, len(s.Cells), len(s.Holders), len(s.Recs))
		}
	}
	limits := []int{api.MaxDim, api.MaxCap, api.MaxLinks, api.MaxEf, api.MaxWorkers}
	for i, limit := range limits {
		for _, n := range []int{0, -1, limit + 1, least, most, 1 << 32, 1<<32 + 1} {
			c := right[1]
			*[]*int{&c.Dim, &c.Cap, &c.Links, &c.Ef, &c.Workers}[i] = n
			m, why := New(c)
			if Check(c) != api.ErrInvalid || m != nil || why != api.ErrInvalid {
				t.Errorf("of %v: Check %v, New %v, %v", c, Check(c), m, why)
			}
		}
	}
	if m, why := New(api.Config{}); m != nil || why != api.ErrInvalid {
		t.Errorf("of no config: %v, %v", m, why)
	}
}

// 24.2: what is done to an id and its slot, from its first moment to its last. It begins with example 1.
func TestOfIds(t *testing.T) {
	m := newMem(t, small)
	it := api.Item{Id: 9, Vec: []int32{3, -4}, Tags: 5}
	run(t, m,
		deed{0, op(api.OpAlloc, 0), told(1, 0)},
		deed{0, api.Op{Kind: api.OpWrite, A: 1, N: 7, Item: it}, did},
		deed{0, ofId(api.OpPut, 9, 1, 0), did},
		deed{0, ofId(api.OpId, 9, 0, 0), told(1, 0)},
		deed{1, op(api.OpRead, 1), "{true 7 0 [] {9 [3 -4] 5}} true"},
		deed{1, ofId(api.OpId, 8, 0, 0), not},
		deed{1, op(api.OpCount, 0), told(1, 0)},
		// One of these is not so: the id has none, the slot is held, and of that generation.
		deed{1, op(api.OpAlloc, 0), told(2, 0)},
		deed{1, ofId(api.OpPut, 9, 2, 0), not},
		deed{1, ofId(api.OpPut, 8, 1, 0), not},
		deed{1, ofId(api.OpPut, 8, 3, 0), not},
		deed{1, ofId(api.OpPut, 8, 2, 1), not},
		deed{1, ofId(api.OpPut, 8, 2, -1), not},
		deed{1, op(api.OpGive, 1), not},
		deed{1, op(api.OpGive, 2), did},
		deed{1, op(api.OpGive, 2), not},
		deed{1, op(api.OpAlloc, 0), told(2, 1)},
		deed{1, ofId(api.OpPut, 8, 2, 0), not},
		deed{1, ofId(api.OpPut, 8, 2, 1), did},
		deed{1, op(api.OpCount, 0), told(2, 0)},
		deed{2, op(api.OpRetire, 2), not},
		deed{2, op(api.OpBury, 2), not},
		deed{0, ofId(api.OpDrop, 8, 0, 0), told(2, 1)},
		deed{0, ofId(api.OpDrop, 8, 0, 0), not},
		deed{0, op(api.OpCount, 0), told(1, 0)},
		deed{0, op(api.OpTomb, 2), not},
		deed{0, op(api.OpKill, 2), did},
		deed{0, op(api.OpTomb, 2), did},
		deed{0, op(api.OpTomb, 1), not},
		deed{0, op(api.OpBury, 2), did},
		deed{0, op(api.OpBury, 2), not},
		deed{2, op(api.OpUnbury, 0), told(2, 0)},
		deed{2, op(api.OpUnbury, 0), not},
		deed{2, op(api.OpFree, 2), not},
		deed{2, op(api.OpGive, 2), not},
		deed{2, op(api.OpRetire, 2), did},
		deed{2, op(api.OpRetire, 2), not},
		deed{2, op(api.OpBury, 2), not},
		deed{2, op(api.OpGive, 2), not},
		deed{2, op(api.OpFree, 2), did},
		deed{2, op(api.OpFree, 2), not},
		deed{2, op(api.OpTomb, 2), not},
		deed{0, op(api.OpAlloc, 0), told(2, 2)},
		deed{0, op(api.OpAlloc, 0), told(3, 0)},
		deed{0, op(api.OpAlloc, 0), not},
	)
	if m.Steps() != 43 {
		t.Errorf("there were %d steps", m.Steps())
	}
}

// 24.2: the grave tells first what was buried first.
func TestGrave(t *testing.T) {
	m := newMem(t, small)
	for slot := 1; slot <= 3; slot++ {
		run(t, m, deed{0, op(api.OpAlloc, 0), told(slot, 0)}, deed{0, ofId(api.OpPut, uint64(slot), slot, 0), did}, deed{0, ofId(api.OpDrop, uint64(slot), 0, 0), told(slot, 0)})
	}
	run(t, m, deed{0, op(api.OpBury, 3), did}, deed{0, op(api.OpBury, 1), did}, deed{0, op(api.OpBury, 2), did}, deed{0, op(api.OpBury, 1), not})
	if got := m.State().Grave; !slices.Equal(got, []int{3, 1, 2}) {
		t.Errorf("the grave has %v", got)
	}
	run(t, m, deed{2, op(api.OpUnbury, 0), told(3, 0)}, deed{0, op(api.OpBury, 3), did}, deed{2, op(api.OpUnbury, 0), told(1, 0)}, deed{2, op(api.OpUnbury, 0), told(2, 0)}, deed{2, op(api.OpUnbury, 0), told(3, 0)}, deed{2, op(api.OpUnbury, 0), not})
}

// 24.2: the closed mark, the epoch, the records, the entry.
func TestOfTimes(t *testing.T) {
	pin := func(n int) api.Op { return api.Op{Kind: api.OpPin, N: n} }
	advance := func(n int) api.Op { return api.Op{Kind: api.OpAdvance, N: n} }
	swap := func(a, b, n, m int) api.Op { return api.Op{Kind: api.OpSwap, A: a, B: b, N: n, M: m} }
	m := newMem(t, small)
	run(t, m,
		deed{0, op(api.OpClosed, 0), not},
		deed{0, op(api.OpClose, 0), did},
		deed{0, op(api.OpClosed, 0), did},
		deed{0, op(api.OpClose, 0), not},
		deed{0, op(api.OpEpoch, 0), told(0, 0)},
		deed{2, advance(0), not},
		deed{2, advance(2), not},
		deed{2, advance(-1), not},
		deed{2, advance(1), did},
		deed{2, advance(1), not},
		deed{2, advance(2), did},
		deed{1, op(api.OpEpoch, 0), told(2, 0)},
		deed{0, pin(1), did},
		deed{1, pin(most), did},
		deed{2, pin(3), did},
		deed{2, pin(-1), not},
		deed{2, pin(least), not},
		deed{1, op(api.OpRec, 0), told(1, 0)},
		deed{0, op(api.OpRec, 1), told(most, 0)},
		deed{0, op(api.OpRec, 2), told(3, 0)},
		deed{1, pin(0), did},
		deed{0, op(api.OpRec, 1), told(0, 0)},
		deed{0, op(api.OpEntry, 0), not},
		deed{0, swap(1, 0, 2, 1), not},
		deed{0, swap(0, 1, 2, 1), not},
		deed{0, swap(0, 0, 4, 1), not},
		deed{0, swap(0, 0, -1, 1), not},
		deed{0, swap(0, 0, 0, 1), not},
		deed{0, swap(0, 0, 2, 8), not},
		deed{0, swap(0, 0, 2, -1), not},
		deed{0, swap(-1, 0, 2, 1), not},
		deed{0, swap(0, -1, 2, 1), not},
		deed{0, swap(0, 0, 3, 7), did},
		deed{0, op(api.OpEntry, 0), told(3, 7)},
		deed{1, swap(0, 0, 2, 1), not},
		deed{1, swap(3, 6, 2, 1), not},
		deed{1, swap(3, 7, 1, 0), did},
		deed{0, op(api.OpEntry, 0), told(1, 0)},
		deed{0, swap(1, 0, 0, 0), did},
		deed{0, op(api.OpEntry, 0), not},
		deed{0, swap(0, 0, 0, 0), did},
	)
	s := m.State()
	if !s.Closed || s.Epoch != 2 || !slices.Equal(s.Recs, []int{1, 0, 3}) || s.Entry != 0 || s.Top != 0 {
		t.Errorf("State() = %v", s)
	}
}

// 24.2: the ring and the lists of slots, till these are freed.
func TestOfNodes(t *testing.T) {
	set := func(a, n, m int) api.Op { return api.Op{Kind: api.OpSetRing, A: a, N: n, M: m} }
	list := func(a, b int, l ...int) api.Op { return api.Op{Kind: api.OpSetList, A: a, B: b, List: l} }
	ask := func(a, b int) api.Op { return api.Op{Kind: api.OpList, A: a, B: b} }
	lists := func(l ...int) string { return fmt.Sprintf("{true 0 0 %v {0 [] 0}} true", l) }
	m := newMem(t, small)
	run(t, m,
		deed{0, op(api.OpRing, 0), told(0, 0)},
		deed{0, op(api.OpRing, 3), told(-1, -1)},
		deed{0, set(0, 3, 3), did},
		deed{0, set(3, 0, 0), did},
		deed{0, set(1, -1, 3), did},
		deed{0, set(2, 3, -1), did},
		deed{0, set(1, -2, 3), not},
		deed{0, set(1, 4, 3), not},
		deed{0, set(1, 3, 4), not},
		deed{0, set(1, 3, -2), not},
		deed{1, op(api.OpRing, 0), told(3, 3)},
		deed{1, op(api.OpRing, 1), told(-1, 3)},
		deed{1, op(api.OpRing, 2), told(3, -1)},
		deed{1, op(api.OpRing, 3), told(0, 0)},
		deed{0, ask(1, 0), lists()},
		deed{0, list(1, 0, 2, 3), did},
		deed{0, list(1, 7, most, least, 0), did},
		deed{0, list(3, 2, 1), did},
		deed{0, list(1, 8, 2), not},
		deed{0, list(1, -1, 2), not},
		deed{0, ask(1, 0), lists(2, 3)},
		deed{0, ask(1, 7), lists(most, least, 0)},
		deed{0, ask(1, 1), lists()},
		deed{0, ask(3, 2), lists(1)},
		deed{0, list(3, 2), did},
		deed{0, ask(3, 2), lists()},
	)
	for slot, want := range [][]string{nil, {"[2 3]", "[]", "[]", "[]", "[]", "[]", "[]", fmt.Sprint([]int{most, least, 0})}, nil, nil} {
		if got := m.State().Cells[slot].Lists; fmt.Sprint(got) != "["+strings.Join(want, " ")+"]" {
			t.Errorf("the lists of %d are %v, want %v", slot, got, want)
		}
	}
	run(t, m,
		deed{0, api.Op{Kind: api.OpWrite, A: 1, N: 2, Item: api.Item{Id: 5}}, did},
		deed{0, op(api.OpKill, 1), did},
		deed{0, op(api.OpGive, 1), not},
		deed{0, op(api.OpRing, 1), told(-1, 3)},
		deed{0, op(api.OpAlloc, 0), told(1, 0)},
		deed{0, op(api.OpTomb, 1), did},
		deed{0, op(api.OpGive, 1), did},
		deed{0, op(api.OpTomb, 1), not},
		deed{0, op(api.OpRing, 1), told(-1, -1)},
		deed{0, ask(1, 0), lists()},
		deed{0, ask(1, 7), lists()},
		deed{0, op(api.OpRing, 2), told(3, -1)},
		// Its data stay.
		deed{0, op(api.OpRead, 1), "{true 2 1 [] {5 [] 0}} true"},
	)
}

// 24.2: mutexes; a worker that has to wait did a step, and is asked again.
func TestMutexes(t *testing.T) {
	m := newMem(t, small)
	run(t, m,
		deed{0, op(api.OpLock, 1), did},
		deed{0, op(api.OpLock, 1), not},
		deed{1, op(api.OpLock, 1), waits},
		deed{1, op(api.OpLock, 1), waits},
		deed{1, op(api.OpUnlock, 1), not},
		deed{0, op(api.OpUnlock, 2), not},
		deed{0, op(api.OpLock, 3), did},
	)
	if s := m.State(); !slices.Equal(s.Holders, []int{-1, 0, -1, 0}) || m.Steps() != 7 || !m.Rising() || len(m.Ring()) != 0 {
		t.Errorf("held by %v, %d steps, rising %v, the ring %v", s.Holders, m.Steps(), m.Rising(), m.Ring())
	}
	run(t, m,
		deed{0, op(api.OpUnlock, 1), did},
		deed{0, op(api.OpUnlock, 1), not},
		deed{1, op(api.OpLock, 1), did},
		deed{2, op(api.OpLock, 2), did},
		deed{2, op(api.OpLock, 0), did},
	)
	if s := m.State(); !slices.Equal(s.Holders, []int{2, 1, 2, 0}) || m.Rising() || len(m.Ring()) != 0 {
		t.Errorf("held by %v, rising %v, the ring %v", s.Holders, m.Rising(), m.Ring())
	}
	run(t, m, deed{0, op(api.OpLock, 0), waits}, deed{2, op(api.OpLock, 1), waits}, deed{1, op(api.OpLock, 3), waits})
	if got := m.Ring(); !slices.Equal(got, []int{0, 2, 1}) {
		t.Errorf("the ring is %v", got)
	}
	if m.Steps() != 15 || len(m.Clashes()) != 0 {
		t.Errorf("%d steps, %v", m.Steps(), m.Clashes())
	}
}

// 24.2: what may not be is nothing, and no step; whether there is something, or not, the memory stays as it is.
func TestNothing(t *testing.T) {
	odd := []int{0, -1, 4, 5, least, most, 1 << 32, 1<<32 + 1}
	var nothing []api.Op
	for _, n := range odd {
		for _, kind := range []int{api.OpTomb, api.OpKill, api.OpList, api.OpSetList, api.OpPut, api.OpGive, api.OpFree, api.OpRetire, api.OpBury, api.OpRead, api.OpWrite} {
			nothing = append(nothing, op(kind, n))
		}
		if n != 0 {
			for _, kind := range []int{api.OpRing, api.OpSetRing, api.OpLock, api.OpUnlock} {
				nothing = append(nothing, op(kind, n))
			}
			nothing = append(nothing, op(api.OpRec, n))
		}
		if n < -1 || n > 3 {
			nothing = append(nothing, api.Op{Kind: api.OpSetRing, A: 1, N: n, M: 1}, api.Op{Kind: api.OpSetRing, A: 1, N: 1, M: n})
		}
		if n < 0 {
			nothing = append(nothing, api.Op{Kind: api.OpPin, N: n})
		}
	}
	nothing = append(nothing, op(api.OpRec, 3))
	for _, n := range []int{-1, 8, least, most, 1 << 32} {
		nothing = append(nothing, api.Op{Kind: api.OpList, A: 1, B: n}, api.Op{Kind: api.OpSetList, A: 1, B: n, List: []int{2}}, api.Op{Kind: api.OpWrite, A: 1, N: n, Item: api.Item{Id: 3}})
	}
	for _, kind := range []int{api.OpNone, -1, api.OpKinds, 30, least, most, 1<<32 + 1} {
		nothing = append(nothing, op(kind, 1))
	}
	m := newMem(t, small)
	run(t, m, deed{0, op(api.OpAlloc, 0), told(1, 0)}, deed{0, ofId(api.OpPut, 0, 1, 0), did}, deed{1, op(api.OpAlloc, 0), told(2, 0)}, deed{1, op(api.OpLock, 0), did}, deed{0, api.Op{Kind: api.OpPin, N: 3}, did})
	was := fmt.Sprint(m.State())
	for _, e := range nothing {
		run(t, m, deed{0, e, not}, deed{1, e, not}, deed{2, e, not})
	}
	for _, w := range []int{-1, 3, 64, 65, least, most, 1 << 32} {
		for kind := range api.OpKinds {
			run(t, m, deed{w, api.Op{Kind: kind, A: 1, N: 1, List: []int{2}}, not})
		}
	}
	if got := fmt.Sprint(m.State()); got != was || m.Steps() != 5 || len(m.Clashes()) != 0 {
		t.Errorf("%d steps, %v: %s, want %s", m.Steps(), m.Clashes(), got, was)
	}
}

// spot is an operation on a place, and whether it needs the worker to hold its mutex.
type spot struct {
	op    api.Op
	holds bool
}

// spots has operations of all kinds, on all places, some of which are nothing, or not Ok.
func spots() []spot {
	var l []spot
	for _, kind := range []int{api.OpClosed, api.OpClose, api.OpEpoch, api.OpPin, api.OpEntry, api.OpSwap, api.OpCount, api.OpAlloc, api.OpUnbury, api.OpNone, api.OpKinds} {
		l = append(l, spot{op: op(kind, 0)})
	}
	l = append(l, spot{op: api.Op{Kind: api.OpAdvance, N: 1}}, spot{op: api.Op{Kind: api.OpAdvance, N: 5}}, spot{op: api.Op{Kind: api.OpPin, N: -1}}, spot{op: api.Op{Kind: api.OpSwap, A: 3, N: 9}})
	for slot := 0; slot <= 3; slot++ {
		for _, kind := range []int{api.OpRec, api.OpTomb, api.OpKill, api.OpRing, api.OpSetRing, api.OpGive, api.OpFree, api.OpRetire, api.OpBury, api.OpLock, api.OpUnlock} {
			l = append(l, spot{op: op(kind, slot)})
		}
		l = append(l, spot{op(api.OpUnlock, slot), true}, spot{op: api.Op{Kind: api.OpSetRing, A: slot, N: 4}})
		for level := 0; level <= 8; level++ {
			l = append(l, spot{op: api.Op{Kind: api.OpList, A: slot, B: level}}, spot{op: api.Op{Kind: api.OpSetList, A: slot, B: level}})
		}
	}
	for id := range uint64(12) {
		l = append(l, spot{op: ofId(api.OpId, id, 0, 0)}, spot{op: ofId(api.OpDrop, id, 0, 0)}, spot{op: ofId(api.OpPut, id, 2, 0)})
	}
	l = append(l, spot{op: ofId(api.OpPut, 5, 0, 0)}, spot{op: op(api.OpRead, 2)}, spot{op: op(api.OpWrite, 2)})
	return l
}

// sees tells whether the read of slot 1 by worker 1 clashes with the write by worker 0, with these two operations between.
func sees(t *testing.T, a, b spot) bool {
	m := newMem(t, small)
	if a.holds {
		m.Do(0, op(api.OpLock, a.op.A))
	}
	if b.holds {
		m.Do(1, op(api.OpLock, b.op.A))
	}
	m.Do(0, op(api.OpWrite, 1))
	m.Do(0, a.op)
	m.Do(1, b.op)
	m.Do(1, op(api.OpRead, 1))
	return !slices.Contains(m.Clashes(), api.Clash{First: api.Access{Worker: 0, Place: 1, Write: true}, Second: api.Access{Worker: 1, Place: 1}})
}

// 24.3: of all pairs of operations just those order what is around them of which the first one tells, and the second one hears, at one place.
func TestSeen(t *testing.T) {
	all := spots()
	none := newSaid(small)
	ordered := 0
	for _, a := range all {
		for _, b := range all {
			if a.holds && b.holds && a.op.A == b.op.A {
				continue
			}
			// What is Ok is told by the memory, as it is when it comes to this operation; an unlocked mutex is free by then.
			okA := a.op.Kind != api.OpUnlock || a.holds
			okB := b.op.Kind == api.OpLock && !(a.op.Kind == api.OpLock && a.op.A == b.op.A) || b.op.Kind == api.OpUnlock && b.holds
			howA, placesA := seen(0, a.op, okA)
			howB, placesB := seen(1, b.op, okB)
			same := slices.ContainsFunc(placesA, func(p string) bool { return slices.Contains(placesB, p) })
			want := same && (howA == store || howA == swap) && (howB == load || howB == swap) && !none.isNothing(0, a.op) && !none.isNothing(1, b.op)
			if got := sees(t, a, b); got != want {
				t.Errorf("%v, and %v: ordered %v, want %v", a, b, got, want)
			}
			if want {
				ordered++
			}
		}
	}
	if ordered < 100 {
		t.Errorf("of %d operations just %d pairs are ordered", len(all), ordered)
	}
}

// 24.3: each of the 64 shards is a place of its own; who counts the ids hears at all of them.
func TestShards(t *testing.T) {
	puts := func(id uint64) spot { return spot{op: ofId(api.OpPut, id, 2, 0)} }
	for id := range uint64(500) {
		if !sees(t, puts(id), spot{op: op(api.OpCount, 0)}) {
			t.Errorf("who counts does not hear of id %d", id)
		}
	}
	for a := range uint64(40) {
		for b := range uint64(40) {
			want := rng.Below(rng.Mix(a), 64) == rng.Below(rng.Mix(b), 64)
			if got := sees(t, puts(a), spot{op: ofId(api.OpId, b, 0, 0)}); got != want {
				t.Errorf("id %d hears of id %d: %v, want %v", b, a, got, want)
			}
		}
	}
}

// 24.3, 24.4: what clashes is told in order, by the numbers of slots; a worker that waits hears nothing, till it has the mutex.
func TestClashes(t *testing.T) {
	m := newMem(t, small)
	run(t, m,
		deed{0, op(api.OpLock, 3), did},
		deed{0, op(api.OpWrite, 3), did},
		deed{1, op(api.OpRead, 2), told(0, 0)},
		deed{1, op(api.OpLock, 3), waits},
		deed{1, op(api.OpRead, 3), told(0, 0)},
		deed{2, op(api.OpWrite, 2), did},
		deed{0, op(api.OpUnlock, 3), did},
		deed{1, op(api.OpLock, 3), did},
		deed{1, op(api.OpRead, 3), told(0, 0)},
		deed{1, op(api.OpWrite, 2), did},
	)
	want := []api.Clash{
		{First: api.Access{Worker: 0, Place: 3, Write: true}, Second: api.Access{Worker: 1, Place: 3}},
		{First: api.Access{Worker: 1, Place: 2}, Second: api.Access{Worker: 2, Place: 2, Write: true}},
		{First: api.Access{Worker: 2, Place: 2, Write: true}, Second: api.Access{Worker: 1, Place: 2, Write: true}},
	}
	for range 2 {
		got := m.Clashes()
		if !slices.Equal(got, want) {
			t.Errorf("Clashes() = %v, want %v", got, want)
		}
		got[0] = api.Clash{}
	}
	// Reads and writes are no steps; the one that waited was.
	if m.Steps() != 4 {
		t.Errorf("there were %d steps", m.Steps())
	}
	m = newMem(t, small)
	run(t, m,
		deed{0, op(api.OpLock, 3), did},
		deed{0, op(api.OpWrite, 3), did},
		deed{0, op(api.OpUnlock, 3), did},
		deed{2, op(api.OpLock, 3), did},
		deed{1, op(api.OpLock, 3), waits},
		deed{1, op(api.OpRead, 3), told(0, 0)},
		deed{2, op(api.OpRead, 3), told(0, 0)},
	)
	if got := m.Clashes(); !slices.Equal(got, want[:1]) {
		t.Errorf("Clashes() = %v, want %v", got, want[:1])
	}
}

// 24.5: lists and items that are handed in, or told, are copies.
func TestCopies(t *testing.T) {
	m := newMem(t, small)
	l, vec := []int{1, 2}, []int32{3, 4}
	run(t, m, deed{0, api.Op{Kind: api.OpSetList, A: 3, B: 1, List: l}, did}, deed{0, api.Op{Kind: api.OpWrite, A: 3, N: 1, Item: api.Item{Id: 1, Vec: vec}}, did})
	run(t, m, deed{0, op(api.OpAlloc, 0), told(1, 0)}, deed{0, ofId(api.OpPut, 1, 1, 0), did}, deed{0, ofId(api.OpDrop, 1, 0, 0), told(1, 0)}, deed{0, op(api.OpBury, 1), did}, deed{0, op(api.OpAlloc, 0), told(2, 0)}, deed{0, ofId(api.OpPut, 1, 2, 0), did})
	l[0], vec[0] = 9, 9
	was := fmt.Sprint(m.State())
	for range 2 {
		got, _ := m.Do(0, api.Op{Kind: api.OpList, A: 3, B: 1})
		read, _ := m.Do(0, op(api.OpRead, 3))
		if !slices.Equal(got.List, []int{1, 2}) || !slices.Equal(read.Item.Vec, []int32{3, 4}) {
			t.Errorf("the list %v, the vector %v", got.List, read.Item.Vec)
		}
		got.List[0], read.Item.Vec[0] = 8, 8
		s := m.State()
		if fmt.Sprint(s) != was {
			t.Fatalf("State() = %v, want %s", s, was)
		}
		s.Cells[3].Lists[1][0], s.Cells[3].Item.Vec[0], s.Recs[0], s.Holders[0], s.Grave[0] = 7, 7, 7, 7, 7
		s.Ids[0], s.Cells[3].Lists[0], s.Cells[0] = api.Named{}, []int{7}, api.Cell{}
	}
	a, b := newMem(t, small), newMem(t, small)
	first := fmt.Sprint(b.State())
	for kind := range api.OpKinds {
		a.Do(0, api.Op{Kind: kind, A: 1, N: 1, List: []int{1}})
	}
	if got := fmt.Sprint(b.State()); got != first || b.Steps() != 0 {
		t.Errorf("two memories have something in common: %s", got)
	}
}

// 24.4: of a nil memory nothing, zero, and true of Do.
func TestNilMem(t *testing.T) {
	var m *Mem
	for _, w := range []int{0, 1, -1, most} {
		for kind := -1; kind <= api.OpKinds; kind++ {
			run(t, m, deed{w, api.Op{Kind: kind, A: 1, N: 1, List: []int{1}}, not})
		}
	}
	if fmt.Sprint(m.State()) != fmt.Sprint(api.State{}) || len(m.Clashes()) != 0 || len(m.Ring()) != 0 || m.Rising() || m.Steps() != 0 {
		t.Errorf("a nil memory has %v", m.State())
	}
}

// anyOp is an operation that has a good chance to do something, or nearly does, in a memory that is said.
func anyOp(d *draws, s *said) api.Op {
	e := api.Op{Kind: 1 + d.below(28), A: 1 + d.below(3), B: d.below(3), N: d.below(4), M: d.below(4), Id: uint64(d.below(4)) << 40}
	switch e.Kind {
	case api.OpAdvance:
		e.N = s.epoch + d.oneOf(0, 1, 1, 2)
	case api.OpRec, api.OpRing, api.OpSetRing, api.OpLock, api.OpUnlock:
		e.A = d.below(4)
	case api.OpSwap:
		if d.below(2) == 0 {
			e.A, e.B = s.entry, s.top
		}
	case api.OpPut:
		e.N = s.gen[e.A] + d.oneOf(0, 0, 0, 1, -1)
	case api.OpSetList:
		for range d.below(4) {
			e.List = append(e.List, d.below(5))
		}
	case api.OpWrite:
		e.Item = api.Item{Id: e.Id, Vec: []int32{int32(d.below(9)), 1}, Tags: uint64(d.below(3))}
	}
	if d.below(15) == 0 {
		*[]*int{&e.Kind, &e.A, &e.B, &e.N, &e.M}[d.below(5)] = d.oneOf(0, -1, 4, 7, 8, 29, least, most)
	}
	return e
}

// 24.1 to 24.4: whatever many operations are done, all is as it is said.
func TestManyDeeds(t *testing.T) {
	d := draws(24)
	done := map[string]int{}
	for range 120 {
		c := small
		c.Workers = 1 + d.below(3)
		m, s := newMem(t, c), newSaid(c)
		for range 300 {
			w, e := d.below(c.Workers+1), anyOp(&d, s)
			if d.below(40) == 0 {
				w = d.oneOf(-1, c.Workers+1, least, most)
			}
			got, through := m.Do(w, e)
			want, isThrough := s.do(w, e)
			if fmt.Sprint(got) != fmt.Sprint(want) || through != isThrough || m.Steps() != s.steps || m.Rising() == s.unrising {
				t.Fatalf("%v by %d answers %v, %v, want %v, %v; %d steps, want %d", e, w, got, through, want, isThrough, m.Steps(), s.steps)
			}
			if got, want := fmt.Sprint(m.State()), fmt.Sprint(s.tell()); got != want {
				t.Fatalf("behind %v by %d: %s, want %s", e, w, got, want)
			}
			done[fmt.Sprint(e.Kind, got.Ok, through)]++
		}
		if got, want := m.Clashes(), s.watch.Clashes(); !slices.Equal(got, want) {
			t.Fatalf("Clashes() = %v, want %v", got, want)
		}
	}
	for kind := 1; kind <= 28; kind++ {
		if done[fmt.Sprint(kind, true, true)] < 30 {
			t.Errorf("of kind %d just %d were Ok", kind, done[fmt.Sprint(kind, true, true)])
		}
	}
	if done[fmt.Sprint(api.OpLock, false, false)] < 50 {
		t.Error("hardly any worker had to wait")
	}
}

// parts has all that the memory has, by names.
func parts(m *Mem) map[string]string {
	s := m.State()
	l := map[string]string{"closed": fmt.Sprint(s.Closed), "epoch": fmt.Sprint(s.Epoch), "entry": fmt.Sprint(s.Entry, s.Top), "grave": fmt.Sprint(s.Grave)}
	for w, n := range s.Recs {
		l[fmt.Sprint("record ", w)] = fmt.Sprint(n)
	}
	for n, w := range s.Holders {
		l[fmt.Sprint("mutex ", n)] = fmt.Sprint(w)
	}
	for _, n := range s.Ids {
		l[fmt.Sprint("id ", n.Id)] = fmt.Sprint(n.Ref)
	}
	for slot, c := range s.Cells {
		l[fmt.Sprint("state ", slot)] = fmt.Sprint(c.State, c.Gen)
		l[fmt.Sprint("data ", slot)] = fmt.Sprint(c.Item, c.Level)
		l[fmt.Sprint("tomb ", slot)] = fmt.Sprint(c.Dead)
		l[fmt.Sprint("ring ", slot)] = fmt.Sprint(c.Next, c.Prev)
		for level := range 8 {
			l[fmt.Sprint("list ", slot, level)] = "[]"
			if level < len(c.Lists) {
				l[fmt.Sprint("list ", slot, level)] = fmt.Sprint(c.Lists[level])
			}
		}
	}
	return l
}

// named has the parts that an operation of a worker, that was answered so, may change.
func named(w int, e api.Op, got api.Got) []string {
	slot := fmt.Sprint(e.A)
	switch e.Kind {
	case api.OpClose:
		return []string{"closed"}
	case api.OpAdvance:
		return []string{"epoch"}
	case api.OpPin:
		return []string{fmt.Sprint("record ", w)}
	case api.OpSwap:
		return []string{"entry"}
	case api.OpKill:
		return []string{"tomb " + slot}
	case api.OpSetRing:
		return []string{"ring " + slot}
	case api.OpSetList:
		return []string{fmt.Sprint("list ", e.A, e.B)}
	case api.OpPut:
		return []string{fmt.Sprint("id ", e.Id), "state " + slot}
	case api.OpDrop:
		return []string{fmt.Sprint("id ", e.Id), fmt.Sprint("state ", got.N)}
	case api.OpAlloc:
		return []string{fmt.Sprint("state ", got.N)}
	case api.OpGive, api.OpFree:
		all := []string{"state " + slot, "tomb " + slot, "ring " + slot}
		for level := range 8 {
			all = append(all, fmt.Sprint("list ", e.A, level))
		}
		return all
	case api.OpRetire:
		return []string{"state " + slot}
	case api.OpBury, api.OpUnbury:
		return []string{"grave"}
	case api.OpLock, api.OpUnlock:
		return []string{"mutex " + slot}
	case api.OpWrite:
		return []string{"data " + slot}
	}
	return nil
}

// 24.6: a step changes what it names, and nothing else.
func TestOneAtATime(t *testing.T) {
	d := draws(246)
	changes := map[int]int{}
	for range 20 {
		m, s := newMem(t, small), newSaid(small)
		for range 200 {
			w, e := d.below(3), anyOp(&d, s)
			was := parts(m)
			got, _ := m.Do(w, e)
			s.do(w, e)
			now, may := parts(m), named(w, e, got)
			for name := range maps.All(merged(was, now)) {
				if was[name] == now[name] {
					continue
				}
				changes[e.Kind]++
				if !slices.Contains(may, name) || !got.Ok {
					t.Fatalf("%v by %d, answered %v, changed %s from %q to %q", e, w, got, name, was[name], now[name])
				}
			}
		}
	}
	for kind := 1; kind <= 28; kind++ {
		if writes := len(named(0, api.Op{Kind: kind}, api.Got{})) > 0; writes && changes[kind] == 0 {
			t.Errorf("operations of kind %d changed nothing", kind)
		}
	}
}

// merged has the names of both.
func merged(a, b map[string]string) map[string]string {
	both := maps.Clone(a)
	maps.Copy(both, b)
	return both
}
