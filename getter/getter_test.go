package getter

import (
	"fmt"
	"math"
	"slices"
	"testing"

	"ganglion/api"
	"ganglion/mem"
)

const (
	most  = math.MaxInt
	least = math.MinInt
)

// draws tells numbers that look like chance, the same ones each time.
type draws uint64

func (d *draws) next() uint64 {
	*d = *d*6364136223846793005 + 1442695040888963407
	return uint64(*d >> 32)
}

// below has a number from 0 to below n.
func (d *draws) below(n int) int {
	return int(d.next() % uint64(n))
}

// got is an answer, of which most has no meaning for those who ask.
func (d *draws) got() api.Got {
	return api.Got{
		Ok:   d.below(2) == 0,
		N:    []int{0, 1, 5, -1, 1 << 62, 1<<62 + 1, most, least, d.below(9)}[d.below(9)],
		M:    d.below(9),
		List: []int{d.below(9)},
		Item: api.Item{Id: d.next(), Vec: []int32{int32(d.below(9))}, Tags: d.next()},
	}
}

// get, count and shut are the small calls; the get has numbers that it does not need.
var (
	get   = api.Call{Kind: api.CallGet, Item: api.Item{Id: 5, Vec: []int32{7}, Tags: 3}, K: -1, Ef: 9, Draw: 4}
	count = api.Call{Kind: api.CallLen}
	shut  = api.Call{Kind: api.CallClose}
)

// five is an item that a memory may tell.
var five = api.Item{Id: 5, Vec: []int32{1, 2}, Tags: 6}

// yes and no are answers with a number that means nothing where only Ok is looked at.
var (
	yes = api.Got{Ok: true, N: 3, M: 4, List: []int{1}, Item: five}
	no  = api.Got{N: 3, M: 4, List: []int{1}, Item: five}
)

// turn is an answer that a task is told, the operation that it asks for then (OpNone: it has ended), and how many marks there are.
type turn struct {
	got   api.Got
	op    api.Op
	marks int
}

// talk tells a new task the answers, and fails unless it asks as it should, and has said at the end what it should.
func talk(t *testing.T, c api.Call, dim int, want api.Told, turns ...turn) {
	t.Helper()
	task := New(c, dim)
	want.Call = c
	for i, e := range turns {
		op, is := task.Next(e.got)
		if is != (e.op.Kind != api.OpNone) || fmt.Sprint(op) != fmt.Sprint(e.op) {
			t.Errorf("%v: at %d it asks for %v, %v, want %v", c, i, op, is, e.op)
		}
		if task.Marks() != e.marks {
			t.Errorf("%v: at %d there are %d marks, want %d", c, i, task.Marks(), e.marks)
		}
		if said := task.Told(); i < len(turns)-1 && fmt.Sprint(said.Call) != fmt.Sprint(c) {
			t.Errorf("%v: at %d it tells %v", c, i, said)
		}
	}
	for range 3 {
		op, is := task.Next(yes)
		if is || fmt.Sprint(op) != fmt.Sprint(api.Op{}) || task.Marks() != turns[len(turns)-1].marks {
			t.Errorf("%v: behind its end it asks for %v, %v, with %d marks", c, op, is, task.Marks())
		}
		if said := task.Told(); fmt.Sprint(said) != fmt.Sprint(want) {
			t.Errorf("%v: it tells %v, want %v", c, said, want)
		}
	}
}

// closed is the first turn of most talks, end the last one of all.
func closed() turn { return turn{yes, api.Op{Kind: api.OpClosed}, 0} }

func end(g api.Got, marks int) turn { return turn{g, api.Op{}, marks} }

// 28.1: a close asks for that alone.
func TestClose(t *testing.T) {
	talk(t, shut, 1, api.Told{}, turn{no, api.Op{Kind: api.OpClose}, 0}, end(yes, 1))
	talk(t, shut, 1, api.Told{}, turn{yes, api.Op{Kind: api.OpClose}, 0}, end(api.Got{Ok: true}, 1))
	talk(t, shut, 1, api.Told{Err: api.ErrClosed}, turn{yes, api.Op{Kind: api.OpClose}, 0}, end(no, 1))
	for _, dim := range []int{least, -1, 0, api.MaxDim + 1, most} {
		talk(t, shut, dim, api.Told{}, turn{no, api.Op{Kind: api.OpClose}, 0}, end(yes, 1))
	}
	odd := api.Call{Kind: api.CallClose, Item: five, K: -1, Ef: -1, Draw: 9}
	talk(t, odd, 1, api.Told{}, turn{no, api.Op{Kind: api.OpClose}, 0}, end(yes, 1))
}

// 28.1: all others ask whether it is closed, and end, if it is.
func TestClosed(t *testing.T) {
	for kind := range api.CallCount + 3 {
		if c := (api.Call{Kind: kind - 1, Item: five}); c.Kind != api.CallClose {
			talk(t, c, 2, api.Told{Err: api.ErrClosed}, closed(), end(yes, 1))
			talk(t, c, 0, api.Told{Err: api.ErrClosed}, closed(), end(api.Got{Ok: true}, 1))
		}
	}
}

// 28.1: a call that may not be, and one of another kind, is refused when the store is open.
func TestInvalid(t *testing.T) {
	for _, kind := range []int{least, -1, api.CallNone, api.CallInsert, api.CallDelete, api.CallSearch, api.CallCount, 1<<32 + api.CallGet, most} {
		for _, dim := range []int{2, 1, 0, -1, most} {
			c := api.Call{Kind: kind, Item: five, K: 1}
			talk(t, c, dim, api.Told{Err: api.ErrInvalid}, closed(), end(no, 1))
			c.K = -1
			talk(t, c, dim, api.Told{Err: api.ErrInvalid}, closed(), end(api.Got{}, 1))
		}
	}
}

// 28.1: a count tells the number, whatever it is. It begins with example 1.
func TestLen(t *testing.T) {
	ask := api.Op{Kind: api.OpCount}
	for _, n := range []int{0, 1, 7, api.MaxCap, -1, least, most} {
		talk(t, count, 1, api.Told{Len: n}, closed(), turn{no, ask, 0}, end(api.Got{Ok: true, N: n, M: 9, Item: five}, 1))
		talk(t, count, 0, api.Told{Len: n}, closed(), turn{api.Got{}, ask, 0}, end(api.Got{N: n}, 1))
	}
	odd := api.Call{Kind: api.CallLen, Item: five, K: -1, Ef: -1, Draw: 9}
	talk(t, odd, -1, api.Told{Len: 2}, closed(), turn{no, ask, 0}, end(api.Got{N: 2}, 1))
}

// 28.1: a get pins itself, asks for the id, reads its slot, and unpins itself.
func TestGet(t *testing.T) {
	epoch, find, unpin := api.Op{Kind: api.OpEpoch}, api.Op{Kind: api.OpId, Id: 5}, api.Op{Kind: api.OpPin}
	for _, slot := range []int{1, 3, api.MaxCap, 0, -1, most, least} {
		for _, odd := range []api.Got{yes, no, {}} {
			found := odd
			found.Ok, found.N = true, slot
			talk(t, get, 2, api.Told{Item: odd.Item},
				closed(),
				turn{no, epoch, 0},
				turn{api.Got{Ok: odd.Ok, N: 6, M: 8}, api.Op{Kind: api.OpPin, N: 7}, 0},
				turn{odd, find, 0},
				turn{found, api.Op{Kind: api.OpRead, A: slot}, 1},
				turn{odd, unpin, 1},
				end(odd, 1))
		}
	}
	for _, odd := range []api.Got{no, {}, {N: most, Item: five}} {
		talk(t, get, -1, api.Told{Err: api.ErrNotFound},
			closed(),
			turn{no, epoch, 0},
			turn{yes, api.Op{Kind: api.OpPin, N: 4}, 0},
			turn{no, find, 0},
			turn{odd, unpin, 1},
			end(yes, 1))
	}
	for _, id := range []uint64{0, 1, 1 << 63, math.MaxUint64} {
		c := api.Call{Kind: api.CallGet, Item: api.Item{Id: id}}
		talk(t, c, 1, api.Told{Err: api.ErrNotFound},
			closed(),
			turn{no, epoch, 0},
			turn{api.Got{}, api.Op{Kind: api.OpPin, N: 1}, 0},
			turn{no, api.Op{Kind: api.OpId, Id: id}, 0},
			turn{no, unpin, 1},
			end(no, 1))
	}
}

// 28.1: a record is one more than the epoch, or 1, if that is none.
func TestPin(t *testing.T) {
	for _, c := range []struct{ epoch, record int }{
		{0, 1}, {1, 2}, {1 << 32, 1<<32 + 1}, {1<<62 - 1, 1 << 62}, {1 << 62, 1<<62 + 1},
		{1<<62 + 1, 1}, {most - 1, 1}, {most, 1}, {-1, 1}, {-2, 1}, {least, 1},
	} {
		for _, is := range []bool{true, false} {
			task := New(get, 1)
			task.Next(api.Got{})
			task.Next(no)
			op, asks := task.Next(api.Got{Ok: is, N: c.epoch})
			if want := (api.Op{Kind: api.OpPin, N: c.record}); !asks || fmt.Sprint(op) != fmt.Sprint(want) {
				t.Errorf("in epoch %d it asks for %v, %v, want %v", c.epoch, op, asks, want)
			}
		}
	}
}

// 28.2: of what is not known yet nothing is told.
func TestTold(t *testing.T) {
	task := New(get, 1)
	early := api.Told{Call: get}
	answers := []api.Got{yes, no, yes, yes, {Ok: true, N: 1, Item: five}}
	for i, g := range answers {
		if said := task.Told(); fmt.Sprint(said) != fmt.Sprint(early) {
			t.Errorf("ahead of answer %d it tells %v", i, said)
		}
		task.Next(g)
	}
	task.Next(yes)
	late := api.Told{Call: get, Item: five}
	if said := task.Told(); fmt.Sprint(said) != fmt.Sprint(late) {
		t.Errorf("when it is read it tells %v", said)
	}
	task = New(get, 1)
	for _, g := range []api.Got{yes, no, yes, yes, no} {
		task.Next(g)
	}
	if said := task.Told(); said.Err != api.ErrNotFound || task.Marks() != 1 {
		t.Errorf("ahead of its end it tells %v, with %d marks", said, task.Marks())
	}
}

// 28.2: a nil task asks for nothing, and tells nothing.
func TestNil(t *testing.T) {
	var task *Task
	for range 2 {
		op, is := task.Next(yes)
		if is || fmt.Sprint(op) != fmt.Sprint(api.Op{}) || task.Marks() != 0 || fmt.Sprint(task.Told()) != fmt.Sprint(api.Told{}) {
			t.Errorf("a nil task: %v, %v, %d, %v", op, is, task.Marks(), task.Told())
		}
	}
}

// 28.1, 28.2: a task shares no memory with what it is given or tells, nor with another task.
func TestApart(t *testing.T) {
	c := api.Call{Kind: api.CallGet, Item: api.Item{Id: 5, Vec: []int32{7}}}
	task, other := New(c, 1), New(c, 1)
	c.Item.Vec[0] = 99
	read := api.Got{Ok: true, Item: api.Item{Id: 5, Vec: []int32{8}}}
	for _, g := range []api.Got{no, no, yes, yes, yes, read} {
		task.Next(g)
	}
	read.Item.Vec[0] = 99
	first := task.Told()
	first.Item.Vec[0], first.Call.Item.Vec[0] = 98, 98
	said := task.Told()
	if said.Item.Vec[0] != 8 || said.Call.Item.Vec[0] != 7 {
		t.Errorf("it tells %v", said)
	}
	if said = other.Told(); other.Marks() != 0 || len(said.Item.Vec) != 0 || said.Call.Item.Vec[0] != 7 {
		t.Errorf("another one tells %v, with %d marks", said, other.Marks())
	}
}

// asks has, by the words of the document, what a task of the call asks for, if it is told these answers in turn, how many marks there are then, and what it tells.
func asks(c api.Call, answers []api.Got) (ops []api.Op, marks int, told api.Told) {
	told.Call = c
	answer := func(op api.Op) api.Got {
		ops = append(ops, op)
		return answers[len(ops)-1]
	}
	if c.Kind == api.CallClose {
		if !answer(api.Op{Kind: api.OpClose}).Ok {
			told.Err = api.ErrClosed
		}
		return ops, 1, told
	}
	switch {
	case answer(api.Op{Kind: api.OpClosed}).Ok:
		told.Err = api.ErrClosed
	case c.Kind == api.CallLen:
		told.Len = answer(api.Op{Kind: api.OpCount}).N
	case c.Kind == api.CallGet:
		n := answer(api.Op{Kind: api.OpEpoch}).N
		if n < 0 || n > 1<<62 {
			n = 0
		}
		answer(api.Op{Kind: api.OpPin, N: n + 1})
		told.Err = api.ErrNotFound
		if g := answer(api.Op{Kind: api.OpId, Id: c.Item.Id}); g.Ok {
			told.Err = api.OK
			told.Item = answer(api.Op{Kind: api.OpRead, A: g.N}).Item
		}
		answer(api.Op{Kind: api.OpPin})
	default:
		told.Err = api.ErrInvalid
	}
	return ops, 1, told
}

// 28.1, 28.2, 28.3: many tasks with many answers, held against the words; what has ended had one mark.
func TestMany(t *testing.T) {
	d := draws(28)
	for range 20000 {
		c := api.Call{Kind: d.below(api.CallCount+2) - 1, Item: d.got().Item, K: d.below(3) - 1}
		if d.below(2) == 0 {
			c.Kind = api.CallGet
		}
		var answers []api.Got
		for range 8 {
			answers = append(answers, d.got())
		}
		answers[0].Ok = d.below(4) == 0
		wantOps, wantMarks, want := asks(c, answers)
		task := New(c, d.below(3))
		op, is := task.Next(d.got())
		var ops []api.Op
		for is {
			ops = append(ops, op)
			op, is = task.Next(answers[len(ops)-1])
		}
		if fmt.Sprint(ops) != fmt.Sprint(wantOps) || task.Marks() != wantMarks || fmt.Sprint(task.Told()) != fmt.Sprint(want) {
			t.Fatalf("%v, told %v: it asks for %v with %d marks and tells %v; want %v, %d, %v", c, answers, ops, task.Marks(), task.Told(), wantOps, wantMarks, want)
		}
	}
}

// 28.1: on a memory each call comes to what it should.
func TestOnMemory(t *testing.T) {
	m, why := mem.New(api.Config{Dim: 2, Cap: 4, Links: 2, Ef: 2, Workers: 1})
	if why != api.OK {
		t.Fatal(why)
	}
	m.Do(0, api.Op{Kind: api.OpAlloc})
	m.Do(0, api.Op{Kind: api.OpWrite, A: 1, Item: five})
	m.Do(0, api.Op{Kind: api.OpPut, A: 1, Id: 5})
	six := api.Call{Kind: api.CallGet, Item: api.Item{Id: 6}}
	for i, e := range []struct {
		call api.Call
		want api.Told
	}{
		{get, api.Told{Item: five}},
		{six, api.Told{Err: api.ErrNotFound}},
		{count, api.Told{Len: 1}},
		{api.Call{}, api.Told{Err: api.ErrInvalid}},
		{shut, api.Told{}},
		{shut, api.Told{Err: api.ErrClosed}},
		{get, api.Told{Err: api.ErrClosed}},
		{count, api.Told{Err: api.ErrClosed}},
		{api.Call{}, api.Told{Err: api.ErrClosed}},
	} {
		task := New(e.call, 2)
		op, is := task.Next(api.Got{})
		for is {
			g, _ := m.Do(0, op)
			op, is = task.Next(g)
		}
		e.want.Call = e.call
		if said := task.Told(); fmt.Sprint(said) != fmt.Sprint(e.want) || task.Marks() != 1 {
			t.Errorf("%d: it tells %v, with %d marks, want %v", i, said, task.Marks(), e.want)
		}
	}
	if recs := m.State().Recs; slices.Max(recs) != 0 {
		t.Errorf("some are still pinned: %v", recs)
	}
}
