package search

import (
	"fmt"
	"math"
	"slices"
	"testing"

	"ganglion/api"
)

const (
	most  = math.MaxInt
	least = math.MinInt
)

// at is an item of a line, whose tags are its id.
func at(id uint64, place int32) api.Item {
	return api.Item{Id: id, Vec: []int32{place}, Tags: id}
}

// seek is a search for the first k near 0 of a line.
func seek(k, ef int) api.Call {
	return api.Call{Kind: api.CallSearch, Item: api.Item{Id: 77, Vec: []int32{0}}, K: k, Ef: ef, Draw: 4}
}

// yes and no are answers with things that mean nothing where only Ok is looked at.
var (
	yes = api.Got{Ok: true, N: 3, M: 4, List: []int{1, 2}, Item: at(9, 9)}
	no  = api.Got{N: 3, M: 4, List: []int{1, 2}, Item: at(9, 9)}
)

// turn is an answer that a task is told, the operation that it asks for then (OpNone: it has ended), and how many marks there are.
type turn struct {
	got   api.Got
	op    api.Op
	marks int
}

// same fails unless two things are told alike.
func same(t *testing.T, what string, got, want any) {
	t.Helper()
	if g, w := fmt.Sprint(got), fmt.Sprint(want); g != w {
		t.Errorf("%s is %s, want %s", what, g, w)
	}
}

// talk tells a new task the answers, and fails unless it asks as it should, and has said at the end what it should.
func talk(t *testing.T, c api.Call, dim, ef int, want api.Told, turns ...turn) {
	t.Helper()
	task := New(c, dim, ef)
	c.Kind = api.CallSearch
	want.Call = c
	marks := 0
	for i, e := range turns {
		same(t, fmt.Sprintf("what %v tells ahead of %d", c, i), task.Told(), api.Told{Call: c, Hits: want.Hits[:min(marks, len(want.Hits))]})
		op, is := task.Next(e.got)
		same(t, fmt.Sprintf("what %v asks for at %d", c, i), []any{op, is}, []any{e.op, e.op.Kind != api.OpNone})
		marks = task.Marks()
		same(t, fmt.Sprintf("the marks of %v at %d", c, i), marks, e.marks)
	}
	for range 3 {
		op, is := task.Next(yes)
		same(t, fmt.Sprintf("what %v asks for behind its end", c), []any{op, is}, []any{api.Op{}, false})
		same(t, fmt.Sprintf("what %v tells behind its end", c), task.Told(), want)
		same(t, fmt.Sprintf("the marks of %v behind its end", c), task.Marks(), turns[len(turns)-1].marks)
	}
}

// closed is the first turn of all talks, end the last one.
func closed() turn { return turn{yes, api.Op{Kind: api.OpClosed}, 0} }

func end(g api.Got, marks int) turn { return turn{g, api.Op{}, marks} }

// pins are the turns up to that in which the entry is asked for.
func pins(more ...turn) []turn {
	return append([]turn{
		closed(),
		{no, api.Op{Kind: api.OpEpoch}, 0},
		{api.Got{N: 5}, api.Op{Kind: api.OpPin, N: 6}, 0},
		{yes, api.Op{Kind: api.OpEntry}, 0},
	}, more...)
}

// list, round, read, id and unpin are operations.
func list(slot, level int) api.Op { return api.Op{Kind: api.OpList, A: slot, B: level} }

func round(slot int) api.Op { return api.Op{Kind: api.OpRing, A: slot} }

func read(slot int) api.Op { return api.Op{Kind: api.OpRead, A: slot} }

func id(n uint64) api.Op { return api.Op{Kind: api.OpId, Id: n} }

func unpin() api.Op { return api.Op{Kind: api.OpPin} }

// of is an answer with an item and a generation; next is one of a ring; near one of a list; ref one of an id.
func of(it api.Item, gen int) api.Got { return api.Got{N: 6, M: gen, List: []int{7}, Item: it} }

func next(n, m int) api.Got { return api.Got{N: n, M: m, List: []int{7}, Item: at(8, 8)} }

func near(slots ...int) api.Got { return api.Got{N: 7, M: 7, List: slots, Item: at(8, 8)} }

func ref(slot, gen int) api.Got { return api.Got{Ok: true, N: slot, M: gen, List: []int{7}} }

// hits are hits of distances and ids, by turns.
func hits(l ...uint64) []api.Hit {
	var out []api.Hit
	for i := 0; i < len(l); i += 2 {
		out = append(out, api.Hit{Dist: l[i], Id: l[i+1]})
	}
	return out
}

// 29.1, example 1: without an entry, and with an empty ring, there is nothing.
func TestEmpty(t *testing.T) {
	for _, k := range []int{1, 9, most} {
		for _, odd := range []api.Got{yes, no, {}} {
			talk(t, seek(k, 0), 1, 4, api.Told{}, pins(
				turn{no, round(0), 0},
				turn{api.Got{Ok: odd.Ok}, unpin(), 0},
				end(odd, 0))...)
		}
	}
}

// 29.1: in a store that is closed nothing is searched for, whatever the call.
func TestClosed(t *testing.T) {
	for _, c := range []api.Call{seek(1, 0), seek(0, 0), seek(-1, 0), seek(1, -1), {}, {Kind: api.CallClose}} {
		for _, dim := range []int{1, 2, 0, -1, most} {
			for _, g := range []api.Got{yes, {Ok: true}} {
				talk(t, c, dim, 4, api.Told{Err: api.ErrClosed}, closed(), end(g, 1))
			}
		}
	}
}

// 29.1: a search that may not be is refused when the store is open.
func TestInvalid(t *testing.T) {
	long := seek(1, 0)
	long.Item.Vec = []int32{1, 2}
	far := seek(1, 0)
	far.Item.Vec = []int32{api.MaxComp + 1}
	none := seek(0, 0)
	none.Item.Vec = nil
	for _, c := range []api.Call{long, far, none, seek(-1, 0), seek(least, 0), seek(1, -1), seek(0, -1), seek(1, api.MaxEf+1), seek(0, most)} {
		talk(t, c, 1, 4, api.Told{Err: api.ErrInvalid}, closed(), end(no, 1))
		talk(t, c, 1, 0, api.Told{Err: api.ErrInvalid}, closed(), end(api.Got{}, 1))
	}
	for _, dim := range []int{2, 0, -1, api.MaxDim, api.MaxDim + 1, least} {
		talk(t, seek(1, 0), dim, 4, api.Told{Err: api.ErrInvalid}, closed(), end(no, 1))
	}
}

// 29.1: a search for none has ended when it knows that it may be, without a mark.
func TestNone(t *testing.T) {
	for _, ef := range []int{0, 1, api.MaxEf} {
		talk(t, seek(0, ef), 1, 4, api.Told{}, closed(), end(no, 0))
		talk(t, seek(0, ef), 1, -1, api.Told{}, closed(), end(api.Got{}, 0))
	}
}

// 29.1: the record is one more than the epoch, or 1, if that is none.
func TestPin(t *testing.T) {
	for _, c := range []struct{ epoch, record int }{{0, 1}, {1, 2}, {1 << 62, 1<<62 + 1}, {1<<62 + 1, 1}, {most, 1}, {-1, 1}, {least, 1}} {
		for _, is := range []bool{true, false} {
			talk(t, seek(1, 0), 1, 4, api.Told{},
				closed(),
				turn{no, api.Op{Kind: api.OpEpoch}, 0},
				turn{api.Got{Ok: is, N: c.epoch}, api.Op{Kind: api.OpPin, N: c.record}, 0},
				turn{api.Got{Ok: is}, api.Op{Kind: api.OpEntry}, 0},
				turn{no, round(0), 0},
				turn{next(0, 0), unpin(), 0},
				end(no, 0))
		}
	}
}

// 29.1: without an entry it looks from the head of the ring, along the ring and the lists; each slot is read once.
func TestFromTheHead(t *testing.T) {
	talk(t, seek(9, 0), 1, 4, api.Told{Hits: hits(1, 3, 4, 1, 9, 2)}, pins(
		turn{no, round(0), 0},
		turn{next(2, 1), read(2), 0},
		turn{of(at(2, -3), 6), read(1), 0},
		turn{of(at(1, 2), 5), list(1, 0), 0},
		turn{near(2, 0, 3, 3, -1, 1), read(3), 0},
		turn{of(at(3, 1), 0), round(1), 0},
		turn{next(3, 3), list(3, 0), 0},
		turn{near(), round(3), 0},
		turn{next(0, -1), list(2, 0), 0},
		turn{near(1), round(2), 0},
		turn{next(1, 2), id(3), 0},
		turn{ref(3, 0), id(1), 1},
		turn{ref(1, 5), id(2), 2},
		turn{ref(2, 6), unpin(), 3},
		end(yes, 3))...)
}

// 29.1: from the entry it goes down to level 1, by the nearest of the neighbours, and looks from there.
func TestFromTheEntry(t *testing.T) {
	talk(t, seek(1, 1), 1, 4, api.Told{Hits: hits(4, 6)}, pins(
		turn{api.Got{Ok: true, N: 1, M: 2}, read(1), 0},
		turn{of(at(1, 9), 3), list(1, 2), 0},
		turn{near(1, 5, 0, 2, 5), read(5), 0},
		turn{of(at(5, 8), 3), read(2), 0},
		turn{of(at(2, -7), 3), list(2, 2), 0},
		turn{near(1, 2), read(1), 0},
		turn{of(at(1, 9), 3), list(2, 1), 0},
		turn{near(6), read(6), 0},
		turn{of(at(6, 2), 4), list(6, 1), 0},
		turn{near(), round(0), 0},
		turn{next(6, 1), read(1), 0},
		turn{of(at(1, 9), 3), list(6, 0), 0},
		turn{near(6, 1), round(6), 0},
		turn{next(1, 0), id(6), 0},
		turn{ref(6, 4), unpin(), 1},
		end(no, 1))...)
}

// 29.1: of neighbours that are as near as the slot the less id is ahead, and of equal ones the less slot.
func TestDownByAllOfTheSpot(t *testing.T) {
	for _, c := range []struct {
		it   api.Item
		slot int
		goes bool
	}{
		{at(4, 5), 9, true},
		{at(4, -5), 9, true},
		{at(5, 5), 9, false},
		{at(5, -5), 2, true},
		{at(6, 5), 2, false},
		{at(6, 4), 9, true},
		{at(0, 6), 2, false},
	} {
		to, level, ends := 3, 1, round(0)
		if c.goes {
			to, ends = c.slot, list(c.slot, level)
		}
		task := New(seek(1, 0), 1, 4)
		for _, g := range []api.Got{{}, no, no, no, {Ok: true, N: 3, M: level}, of(at(5, 5), 0), near(c.slot)} {
			task.Next(g)
		}
		op, is := task.Next(of(c.it, 0))
		same(t, fmt.Sprintf("what is asked for behind %v in %d, to %d", c.it, c.slot, to), []any{op, is}, []any{ends, true})
	}
}

// 29.1: the entry's level counts up to MaxLevel; from one below 1 on there is no descent; its slot is any number.
func TestEntry(t *testing.T) {
	for _, slot := range []int{1, api.MaxCap, most} {
		for _, level := range []int{0, -1, least, 1, 2, api.MaxLevel, api.MaxLevel + 1, most} {
			turns := pins(turn{api.Got{Ok: true, N: slot, M: level}, read(slot), 0})
			answer := of(at(5, 5), 2)
			for l := min(level, api.MaxLevel); l >= 1; l-- {
				turns = append(turns, turn{answer, list(slot, l), 0})
				answer = near(slot, 0, -2)
			}
			turns = append(turns,
				turn{answer, round(0), 0},
				turn{next(slot, slot), list(slot, 0), 0},
				turn{near(slot), round(slot), 0},
				turn{next(0, 0), id(5), 0},
				turn{ref(slot, 2), unpin(), 1},
				end(yes, 1))
			talk(t, seek(1, 0), 1, 4, api.Told{Hits: hits(25, 5)}, turns...)
		}
	}
}

// looked is the turns of a search without an entry, up to that in which the first id is asked for, of the items that the ring and the lists lead to in this order (slots from 1 on, of generation 8).
func looked(first api.Op, wants []int, items ...api.Item) []turn {
	turns := pins(turn{no, round(0), 0})
	all := make([]int, len(items))
	for i := range items {
		all[i] = i + 1
	}
	answer := next(1, 1)
	turns = append(turns, turn{answer, read(1), 0})
	answer = of(items[0], 8)
	for n, slot := range wants {
		turns = append(turns, turn{answer, list(slot, 0), 0})
		answer = near(all...)
		if n == 0 {
			for i := 1; i < len(items); i++ {
				turns = append(turns, turn{answer, read(i + 1), 0})
				answer = of(items[i], 8)
			}
		}
		turns = append(turns, turn{answer, round(slot), 0})
		answer = next(slot, 0)
	}
	return append(turns, turn{answer, first, 0})
}

// 29.1: the greatest one of K, and Ef, or, if Ef is 0, the store's, are found, and K of them told.
func TestWidth(t *testing.T) {
	items := []api.Item{at(1, 1), at(2, 2), at(3, 3), at(4, 4), at(5, 5)}
	for _, c := range []struct{ k, own, ef, width int }{
		{1, 1, 9, 1}, {1, 2, 1, 2}, {1, 3, 9, 3}, {1, 0, 1, 1}, {1, 0, 2, 2}, {1, 0, 4, 4}, {1, 0, 9, 5},
		{3, 1, 9, 3}, {3, 0, 1, 3}, {3, 0, 4, 4}, {3, 4, 1, 4}, {2, 0, 0, 2}, {2, 0, -1, 2}, {2, 0, least, 2}, {1, 0, most, 5}, {most, 1, 1, 5},
	} {
		wants := []int{1, 2, 3, 4, 5}[:c.width]
		turns := looked(id(1), wants, items...)
		told := min(c.k, 5)
		for i := range told {
			op := unpin()
			if i+1 < told {
				op = id(uint64(i + 2))
			}
			turns = append(turns, turn{ref(i+1, 8), op, i + 1})
		}
		talk(t, seek(c.k, c.own), 1, c.ef, api.Told{Hits: hits(1, 1, 4, 2, 9, 3, 16, 4, 25, 5)[:told]}, append(turns, end(no, told))...)
	}
}

// 29.1: more than K are found, so that one whose id stands elsewhere by now makes room for the next.
func TestElsewhere(t *testing.T) {
	items := []api.Item{at(1, 1), at(2, 2), at(3, 3)}
	for _, gone := range []api.Got{{N: 1, M: 8}, {}, no, ref(2, 8), ref(0, 8), ref(-1, 8), ref(1, 7), ref(1, 9), ref(1, 0), ref(1, -8), ref(8, 1)} {
		talk(t, seek(1, 3), 1, 4, api.Told{Hits: hits(4, 2)}, append(looked(id(1), []int{1, 2, 3}, items...),
			turn{gone, id(2), 0},
			turn{ref(2, 8), unpin(), 1},
			end(yes, 1))...)
		talk(t, seek(2, 3), 1, 4, api.Told{Hits: hits(4, 2)}, append(looked(id(1), []int{1, 2, 3}, items...),
			turn{gone, id(2), 0},
			turn{ref(2, 8), id(3), 1},
			turn{ref(1, 8), unpin(), 1},
			end(yes, 1))...)
		talk(t, seek(3, 3), 1, 4, api.Told{}, append(looked(id(1), []int{1, 2, 3}, items...),
			turn{gone, id(2), 0},
			turn{no, id(3), 0},
			turn{no, unpin(), 0},
			end(yes, 0))...)
	}
}

// 29.1: an id that is a hit is not asked for again; one that is none is.
func TestIdsTwice(t *testing.T) {
	items := []api.Item{at(1, 1), at(1, 1), at(2, 2), at(1, 3), at(2, 4)}
	wants := []int{1, 2, 3, 4, 5}
	talk(t, seek(5, 0), 1, 9, api.Told{Hits: hits(1, 1, 4, 2)}, append(looked(id(1), wants, items...),
		turn{ref(1, 8), id(2), 1},
		turn{ref(3, 8), unpin(), 2},
		end(no, 2))...)
	talk(t, seek(5, 0), 1, 9, api.Told{Hits: hits(1, 1, 16, 2)}, append(looked(id(1), wants, items...),
		turn{ref(2, 8), id(1), 0},
		turn{ref(2, 8), id(2), 1},
		turn{ref(5, 8), id(2), 1},
		turn{ref(5, 8), unpin(), 2},
		end(no, 2))...)
	talk(t, seek(5, 0), 1, 9, api.Told{Hits: hits(4, 2, 9, 1)}, append(looked(id(1), wants, items...),
		turn{ref(4, 8), id(1), 0},
		turn{ref(4, 8), id(2), 0},
		turn{ref(3, 8), id(1), 1},
		turn{ref(4, 8), unpin(), 2},
		end(no, 2))...)
}

// 29.1: only what has all tags that are asked for is found, though it leads on to others.
func TestTags(t *testing.T) {
	c := seek(2, 0)
	c.Item.Tags = 5
	items := []api.Item{at(1, 1), at(4, 2), at(7, 3), at(13, 4), at(2, 0)}
	talk(t, c, 1, 1, api.Told{Hits: hits(9, 7, 16, 13)}, append(looked(id(7), []int{1, 5, 2, 3, 4}, items...),
		turn{ref(3, 8), id(13), 1},
		turn{ref(4, 8), unpin(), 2},
		end(no, 2))...)
}

// 29.1: a call of another kind is taken as a search of the same item and numbers.
func TestOtherKinds(t *testing.T) {
	for _, kind := range []int{least, -1, api.CallNone, api.CallInsert, api.CallDelete, api.CallGet, api.CallLen, api.CallClose, api.CallCount, most} {
		c := seek(1, 2)
		c.Kind = kind
		talk(t, c, 2, 4, api.Told{Err: api.ErrInvalid}, closed(), end(no, 1))
		talk(t, c, 1, 4, api.Told{Hits: hits(1, 1)}, append(looked(id(1), []int{1, 2}, at(1, 1), at(2, 2), at(3, 3)),
			turn{ref(1, 8), unpin(), 1},
			end(no, 1))...)
		c.K = 0
		talk(t, c, 1, 4, api.Told{}, closed(), end(no, 0))
		c.K = -1
		talk(t, c, 1, 4, api.Told{Err: api.ErrInvalid}, closed(), end(no, 1))
	}
}

// 29.2: a nil task asks for nothing, and tells nothing.
func TestNil(t *testing.T) {
	var task *Task
	for range 2 {
		op, is := task.Next(yes)
		same(t, "what a nil task asks for", []any{op, is}, []any{api.Op{}, false})
		same(t, "what a nil task tells", []any{task.Marks(), task.Told()}, []any{0, api.Told{}})
	}
}

// 29.1, 29.2: a task shares no memory with what it is given or tells, nor with another task.
func TestApart(t *testing.T) {
	c := seek(2, 0)
	task, other := New(c, 1, 4), New(c, 1, 4)
	c.Item.Vec[0], c.K = 99, 0
	for _, e := range append(looked(id(1), []int{1, 2}, at(1, 1), at(2, 2)), turn{got: ref(1, 8)}, turn{got: ref(2, 8)}) {
		before := slices.Clone(e.got.List)
		task.Next(e.got)
		if !slices.Equal(e.got.List, before) {
			t.Errorf("%v became %v", before, e.got.List)
		}
		clear(e.got.List)
		clear(e.got.Item.Vec)
	}
	first := task.Told()
	first.Hits[0], first.Call.Item.Vec[0] = api.Hit{}, 98
	want := api.Told{Call: seek(2, 0), Hits: hits(1, 1, 4, 2)}
	same(t, "what is told", task.Told(), want)
	same(t, "what another one tells", []any{other.Marks(), other.Told()}, []any{0, api.Told{Call: seek(2, 0)}})
	op, is := other.Next(no)
	same(t, "what another one asks for", []any{op, is}, []any{api.Op{Kind: api.OpClosed}, true})
}
