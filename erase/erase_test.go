package erase

import (
	"fmt"
	"math"
	"slices"
	"testing"

	"ganglion/api"
	"ganglion/mem"
)

const (
	most  = math.MaxInt
	least = math.MinInt
)

// draws tells numbers that look like chance, the same ones each time.
type draws uint64

func (d *draws) next() uint64 {
	*d = *d*6364136223846793005 + 1442695040888963407
	return uint64(*d >> 32)
}

// below has a number from 0 to below n.
func (d *draws) below(n int) int {
	return int(d.next() % uint64(n))
}

// got is an answer, of which most has no meaning for those who ask.
func (d *draws) got() api.Got {
	return api.Got{
		Ok:   d.below(3) > 0,
		N:    []int{0, 1, 5, -1, most, least, d.below(9)}[d.below(7)],
		M:    d.below(9),
		List: []int{d.below(9)},
		Item: api.Item{Id: d.next(), Vec: []int32{int32(d.below(9))}, Tags: d.next()},
	}
}

// five is an item, del a delete of its id, with numbers that it does not need.
var (
	five = api.Item{Id: 5, Vec: []int32{1, 2}, Tags: 6}
	del  = api.Call{Kind: api.CallDelete, Item: five, K: -1, Ef: -1, Draw: 4}
)

// yes and no are answers with numbers that mean nothing where only Ok is looked at.
var (
	yes = api.Got{Ok: true, N: 3, M: 4, List: []int{1}, Item: five}
	no  = api.Got{N: 3, M: 4, List: []int{1}, Item: five}
)

// turn is an answer that a task is told, the operation that it asks for then (OpNone: it has ended), and how many marks there are.
type turn struct {
	got   api.Got
	op    api.Op
	marks int
}

// talk tells a new task the answers, and fails unless it asks as it should, and has said at the end what it should.
func talk(t *testing.T, c api.Call, dim int, why api.Errno, turns ...turn) {
	t.Helper()
	task := New(c, dim)
	c.Kind = api.CallDelete
	begun, want := fmt.Sprint(api.Told{Call: c}), fmt.Sprint(api.Told{Call: c, Err: why})
	for i, e := range turns {
		if said := fmt.Sprint(task.Told()); said != begun {
			t.Errorf("%v: ahead of %d it tells %v", c, i, said)
		}
		op, is := task.Next(e.got)
		if is != (e.op.Kind != api.OpNone) || fmt.Sprint(op) != fmt.Sprint(e.op) {
			t.Errorf("%v: at %d it asks for %v, %v, want %v", c, i, op, is, e.op)
		}
		if task.Marks() != e.marks {
			t.Errorf("%v: at %d there are %d marks, want %d", c, i, task.Marks(), e.marks)
		}
	}
	for range 3 {
		op, is := task.Next(yes)
		if is || fmt.Sprint(op) != fmt.Sprint(api.Op{}) || task.Marks() != 1 {
			t.Errorf("%v: behind its end it asks for %v, %v, with %d marks", c, op, is, task.Marks())
		}
		if said := fmt.Sprint(task.Told()); said != want {
			t.Errorf("%v: it tells %v, want %v", c, said, want)
		}
	}
}

// closed is the first turn of all talks.
func closed() turn { return turn{yes, api.Op{Kind: api.OpClosed}, 0} }

// drop is the second turn of most talks.
func drop(g api.Got, id uint64) turn { return turn{g, api.Op{Kind: api.OpDrop, Id: id}, 0} }

// 30.1: in a store that is closed nothing is deleted.
func TestClosed(t *testing.T) {
	for _, dim := range []int{2, 1, 0, -1, most} {
		for _, g := range []api.Got{yes, {Ok: true}} {
			talk(t, del, dim, api.ErrClosed, closed(), turn{g, api.Op{}, 1})
		}
	}
}

// 30.1: what is not there is not deleted. It begins with example 1.
func TestNotThere(t *testing.T) {
	talk(t, del, 2, api.ErrNotFound, closed(), drop(api.Got{}, 5), turn{api.Got{}, api.Op{}, 1})
	for _, g := range []api.Got{no, {}, {N: most, M: least}} {
		for _, dim := range []int{2, 1, 0, -1, most} {
			talk(t, del, dim, api.ErrNotFound, closed(), drop(no, 5), turn{g, api.Op{}, 1})
		}
	}
}

// 30.1: the slot that the id had is killed, and buried, whatever its number, and whatever comes of that.
func TestDelete(t *testing.T) {
	for _, slot := range []int{1, 3, api.MaxCap, 0, -1, most, least} {
		for _, odd := range []api.Got{yes, no, {}} {
			kill, bury := api.Op{Kind: api.OpKill, A: slot}, api.Op{Kind: api.OpBury, A: slot}
			talk(t, del, 2, api.OK,
				closed(),
				drop(no, 5),
				turn{api.Got{Ok: true, N: slot, M: 7, Item: five}, kill, 1},
				turn{odd, bury, 1},
				turn{odd, api.Op{}, 1})
		}
	}
}

// 30.1: each id may be dropped, whatever else the item has.
func TestIds(t *testing.T) {
	for _, id := range []uint64{0, 1, 1 << 63, math.MaxUint64} {
		for _, v := range [][]int32{nil, {}, {1}, {api.MaxComp + 1, math.MinInt32, 0}} {
			c := api.Call{Kind: api.CallDelete, Item: api.Item{Id: id, Vec: v, Tags: math.MaxUint64}}
			talk(t, c, 1, api.ErrNotFound, closed(), drop(no, id), turn{no, api.Op{}, 1})
		}
	}
}

// 30.1: a call of another kind is taken as a delete of the same item.
func TestOtherKinds(t *testing.T) {
	for _, kind := range []int{least, -1, api.CallNone, api.CallInsert, api.CallGet, api.CallSearch, api.CallLen, api.CallClose, api.CallCount, most} {
		c := api.Call{Kind: kind, Item: five, K: -1}
		talk(t, c, 1, api.ErrClosed, closed(), turn{yes, api.Op{}, 1})
		talk(t, c, 1, api.ErrNotFound, closed(), drop(no, 5), turn{no, api.Op{}, 1})
		talk(t, c, 1, api.OK, closed(), drop(no, 5),
			turn{yes, api.Op{Kind: api.OpKill, A: 3}, 1},
			turn{no, api.Op{Kind: api.OpBury, A: 3}, 1},
			turn{no, api.Op{}, 1})
	}
}

// 30.2: a nil task asks for nothing, and tells nothing.
func TestNil(t *testing.T) {
	var task *Task
	for range 2 {
		op, is := task.Next(yes)
		if is || fmt.Sprint(op) != fmt.Sprint(api.Op{}) || task.Marks() != 0 || fmt.Sprint(task.Told()) != fmt.Sprint(api.Told{}) {
			t.Errorf("a nil task: %v, %v, %d, %v", op, is, task.Marks(), task.Told())
		}
	}
}

// 30.1, 30.2: a task shares no memory with what it is given or tells, nor with another task.
func TestApart(t *testing.T) {
	c := api.Call{Kind: api.CallDelete, Item: api.Item{Id: 5, Vec: []int32{7}}}
	task, other := New(c, 1), New(c, 1)
	c.Item.Vec[0], c.Item.Id = 99, 6
	task.Next(yes)
	if op, _ := task.Next(no); op.Id != 5 {
		t.Errorf("it asks for %v", op)
	}
	task.Told().Call.Item.Vec[0] = 98
	if said := task.Told(); said.Call.Item.Vec[0] != 7 {
		t.Errorf("it tells %v", said)
	}
	if said := other.Told(); other.Marks() != 0 || said.Call.Item.Vec[0] != 7 {
		t.Errorf("another one tells %v", said)
	}
	if op, is := other.Next(no); op.Kind != api.OpClosed || !is {
		t.Errorf("another one asks for %v, %v", op, is)
	}
}

// asks has, by the words of the document, what a delete of that id asks for, if it is told these answers in turn, and its error.
func asks(id uint64, answers []api.Got) (ops []api.Op, why api.Errno) {
	answer := func(op api.Op) api.Got {
		ops = append(ops, op)
		return answers[len(ops)-1]
	}
	if answer(api.Op{Kind: api.OpClosed}).Ok {
		return ops, api.ErrClosed
	}
	g := answer(api.Op{Kind: api.OpDrop, Id: id})
	if !g.Ok {
		return ops, api.ErrNotFound
	}
	answer(api.Op{Kind: api.OpKill, A: g.N})
	answer(api.Op{Kind: api.OpBury, A: g.N})
	return ops, api.OK
}

// 30.1, 30.2: many tasks with many answers, held against the words.
func TestMany(t *testing.T) {
	d := draws(30)
	for range 20000 {
		c := api.Call{Kind: d.below(api.CallCount+2) - 1, Item: d.got().Item, K: d.below(3) - 1}
		answers := []api.Got{d.got(), d.got(), d.got(), d.got()}
		answers[0].Ok = d.below(4) == 0
		wantOps, why := asks(c.Item.Id, answers)
		task := New(c, d.below(3))
		var ops []api.Op
		for op, is := task.Next(d.got()); is; op, is = task.Next(answers[len(ops)-1]) {
			ops = append(ops, op)
		}
		if said := task.Told(); fmt.Sprint(ops) != fmt.Sprint(wantOps) || task.Marks() != 1 || said.Err != why {
			t.Fatalf("%v, told %v: it asks for %v with %d marks and tells %v; want %v, %d", c, answers, ops, task.Marks(), said, wantOps, why)
		}
	}
}

// stored is a memory with items of these ids, in the slots from 1 on.
func stored(t *testing.T, ids ...uint64) *mem.Mem {
	t.Helper()
	m, why := mem.New(api.Config{Dim: 1, Cap: 9, Links: 2, Ef: 2, Workers: 2})
	if why != api.OK {
		t.Fatal(why)
	}
	for _, id := range ids {
		g, _ := m.Do(0, api.Op{Kind: api.OpAlloc})
		m.Do(0, api.Op{Kind: api.OpWrite, A: g.N, Item: api.Item{Id: id, Vec: []int32{1}}})
		m.Do(0, api.Op{Kind: api.OpPut, A: g.N, N: g.M, Id: id})
	}
	return m
}

// 30.1, 30.2: on a memory each delete comes to what it should, and leaves what it should.
func TestOnMemory(t *testing.T) {
	m := stored(t, 5, 6, 7)
	for i, e := range []struct {
		id   uint64
		want api.Errno
	}{{6, api.OK}, {6, api.ErrNotFound}, {9, api.ErrNotFound}, {0, api.ErrNotFound}, {5, api.OK}, {5, api.ErrNotFound}} {
		task := New(api.Call{Kind: api.CallDelete, Item: api.Item{Id: e.id}}, 1)
		for op, is := task.Next(api.Got{}); is; {
			g, _ := m.Do(1, op)
			op, is = task.Next(g)
		}
		if said := task.Told(); said.Err != e.want || task.Marks() != 1 {
			t.Errorf("%d: it tells %v, with %d marks", i, said, task.Marks())
		}
	}
	s := m.State()
	if fmt.Sprint(s.Grave) != "[2 1]" || fmt.Sprint(s.Ids) != "[{7 {3 0}}]" || slices.Max(s.Recs) != 0 {
		t.Errorf("it leaves %v, %v, %v", s.Grave, s.Ids, s.Recs)
	}
	m.Do(0, api.Op{Kind: api.OpClose})
	task := New(api.Call{Kind: api.CallDelete, Item: api.Item{Id: 7}}, 1)
	task.Next(api.Got{})
	g, _ := m.Do(0, api.Op{Kind: api.OpClosed})
	if _, is := task.Next(g); is || task.Told().Err != api.ErrClosed {
		t.Errorf("when it is closed it tells %v", task.Told())
	}
}

// 30.3: whatever two deletes are interleaved like, of one id or of two, what is buried was dropped, and is dead.
func TestDeadAheadOfBuried(t *testing.T) {
	for _, ids := range [][2]uint64{{5, 5}, {5, 6}, {6, 9}} {
		for order := range 1 << 8 {
			m := stored(t, 5, 6)
			tasks := [2]*Task{New(api.Call{Item: api.Item{Id: ids[0]}}, 1), New(api.Call{Item: api.Item{Id: ids[1]}}, 1)}
			var got [2]api.Got
			for i := range 10 {
				w := order >> i & 1
				if op, is := tasks[w].Next(got[w]); is {
					got[w], _ = m.Do(w, op)
				}
				s := m.State()
				for _, slot := range s.Grave {
					if c := s.Cells[slot]; !c.Dead || c.State != api.SlotDead {
						t.Fatalf("%v, order %b: slot %d is buried as %v", ids, order, slot, c)
					}
				}
			}
		}
	}
}
