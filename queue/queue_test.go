package queue

import (
	"fmt"
	"math"
	"slices"
	"testing"

	"ganglion/api"
	"ganglion/rank"
)

const top = math.MaxUint64

// draws tells numbers that look like chance, the same ones each time.
type draws uint64

func (d *draws) next() uint64 {
	*d = *d*6364136223846793005 + 1442695040888963407
	return uint64(*d >> 32)
}

// number has few numbers, so that many are equal, and those at both ends.
func (d *draws) number() uint64 {
	return []uint64{0, 1, 2, 3, 1 << 31, 1 << 63, top - 1, top}[d.next()%8]
}

func (d *draws) spot() api.Spot {
	return api.Spot{Hit: api.Hit{Dist: d.number(), Id: d.number()}, Slot: int(d.number())}
}

// spots has so many spots.
func (d *draws) spots(n int) []api.Spot {
	l := make([]api.Spot, n)
	for i := range l {
		l[i] = d.spot()
	}
	return l
}

// spot is that with this distance, id and slot.
func spot(dist, id uint64, slot int) api.Spot {
	return api.Spot{Hit: api.Hit{Dist: dist, Id: id}, Slot: slot}
}

// atPlaces has a spot for each number of l, which it is ahead by.
func atPlaces(l ...uint64) []api.Spot {
	spots := make([]api.Spot, len(l))
	for i, n := range l {
		spots[i] = spot(n, 100-n, -int(n))
	}
	return spots
}

// orders calls see with the numbers below n in each order that they can stand in.
func orders(n uint64, see func(l []uint64)) {
	var grow func(l []uint64)
	grow = func(l []uint64) {
		if len(l) == int(n) {
			see(l)
			return
		}
		for next := range n {
			if !slices.Contains(l, next) {
				grow(append(slices.Clone(l), next))
			}
		}
	}
	grow(nil)
}

// checkEmpty fails unless there is nothing in q.
func checkEmpty(t *testing.T, q *Queue) {
	t.Helper()
	if s, ok := q.Peek(); s != (api.Spot{}) || ok {
		t.Errorf("Peek of an empty queue: %v, %v", s, ok)
	}
	if s, ok := q.Pop(); s != (api.Spot{}) || ok {
		t.Errorf("Pop of an empty queue: %v, %v", s, ok)
	}
	if n := q.Len(); n != 0 {
		t.Errorf("Len of an empty queue: %d", n)
	}
}

// checkTakes fails unless q has those spots, and tells them in this order, and nothing more.
func checkTakes(t *testing.T, q *Queue, want []api.Spot) {
	t.Helper()
	for i, s := range want {
		if n := q.Len(); n != len(want)-i {
			t.Fatalf("Len is %d, want %d", n, len(want)-i)
		}
		if got, ok := q.Peek(); got != s || !ok {
			t.Fatalf("Peek is %v, %v; want %v", got, ok, s)
		}
		if got, ok := q.Pop(); got != s || !ok {
			t.Fatalf("Pop is %v, %v; want %v", got, ok, s)
		}
	}
	checkEmpty(t, q)
}

// checkBest fails unless b has those spots, in this order, and may have so many.
func checkBest(t *testing.T, b *Best, want []api.Spot, most int) {
	t.Helper()
	if got := b.List(); !slices.Equal(got, want) {
		t.Fatalf("List is %v, want %v", got, want)
	}
	worst, isWorst := api.Spot{}, len(want) > 0
	if isWorst {
		worst = want[len(want)-1]
	}
	if got, ok := b.Worst(); got != worst || ok != isWorst {
		t.Fatalf("Worst is %v, %v; want %v, %v", got, ok, worst, isWorst)
	}
	if got := b.Full(); got != (len(want) == most) {
		t.Fatalf("Full is %v, with %d of %d", got, len(want), most)
	}
}

// 8.1: a queue that is new, and one from which all is gone.
func TestEmptyQueue(t *testing.T) {
	q := New()
	checkEmpty(t, q)
	q.Push(spot(1, 2, 3))
	checkTakes(t, q, []api.Spot{spot(1, 2, 3)})
	q.Push(spot(3, 2, 1))
	checkTakes(t, q, []api.Spot{spot(3, 2, 1)})
	// The zero spot is one like any other.
	q.Push(api.Spot{})
	checkTakes(t, q, []api.Spot{{}})
}

// 8.1: the first one is told, whatever order they come in.
func TestQueueOfEachOrder(t *testing.T) {
	const n = 7
	want := rank.Sort(atPlaces(0, 1, 2, 3, 4, 5, 6))
	orders(n, func(l []uint64) {
		q := New()
		for _, s := range atPlaces(l...) {
			q.Push(s)
		}
		checkTakes(t, q, want)
	})
}

// 8.1: of equal distances the id tells, of equal hits the slot.
func TestQueueTellsByAllFields(t *testing.T) {
	q := New()
	for _, s := range []api.Spot{spot(1, 1, 2), spot(top, 0, 0), spot(1, 2, 0), spot(1, 1, -1), spot(0, top, 9), spot(1, 1, 1)} {
		q.Push(s)
	}
	checkTakes(t, q, []api.Spot{spot(0, top, 9), spot(1, 1, -1), spot(1, 1, 1), spot(1, 1, 2), spot(1, 2, 0), spot(top, 0, 0)})
}

// 8.1: a spot is there as often as it was put in, and goes once at a time.
func TestQueueHasSpotsMoreThanOnce(t *testing.T) {
	q, s, other := New(), spot(5, 5, 5), spot(6, 6, 6)
	q.Push(s)
	q.Push(other)
	q.Push(s)
	q.Push(s)
	checkTakes(t, q, []api.Spot{s, s, s, other})
}

// 8.1: pushes and pops in turns; the document's words are said with a list that is sorted each time.
func TestQueueInTurns(t *testing.T) {
	for seed := range draws(50) {
		d, q, has := seed, New(), []api.Spot(nil)
		for range 400 {
			if d.next()%5 < 3 {
				s := d.spot()
				q.Push(s)
				has = rank.Sort(append(has, s))
			} else if got, ok := q.Pop(); len(has) > 0 {
				if got != has[0] || !ok {
					t.Fatalf("Pop is %v, %v; want %v", got, ok, has[0])
				}
				has = has[1:]
			} else if ok || got != (api.Spot{}) {
				t.Fatalf("Pop of an empty queue: %v, %v", got, ok)
			}
			if got, ok := q.Peek(); len(has) > 0 && (got != has[0] || !ok) || len(has) == 0 && ok || q.Len() != len(has) {
				t.Fatalf("Peek is %v, %v; Len %d, want %d", got, ok, q.Len(), len(has))
			}
		}
		checkTakes(t, q, has)
	}
}

// 8.1: long queues of spots that rise, fall, or are all alike.
func TestLongQueues(t *testing.T) {
	const n = 20000
	for _, place := range []func(i int) int{
		func(i int) int { return i },
		func(i int) int { return n - i },
		func(i int) int { return 7 },
	} {
		q, l := New(), make([]api.Spot, n)
		for i := range l {
			l[i] = spot(uint64(place(i)/3), uint64(place(i)/2), place(i))
			q.Push(l[i])
		}
		checkTakes(t, q, rank.Sort(l))
	}
}

// 8.1: queues have nothing to do with each other.
func TestQueuesAreApart(t *testing.T) {
	a, b := New(), New()
	a.Push(spot(1, 1, 1))
	checkEmpty(t, b)
	b.Push(spot(2, 2, 2))
	checkTakes(t, a, []api.Spot{spot(1, 1, 1)})
	checkTakes(t, b, []api.Spot{spot(2, 2, 2)})
}

// 8.2: while there is room all is taken; from there on what is ahead of the last one, which goes.
func TestBest(t *testing.T) {
	b := NewBest(2)
	checkBest(t, b, nil, 2)
	for _, c := range []struct {
		offer api.Spot
		in    bool
		want  []api.Spot
	}{
		{spot(5, 0, 1), true, []api.Spot{spot(5, 0, 1)}},
		{spot(7, 0, 2), true, []api.Spot{spot(5, 0, 1), spot(7, 0, 2)}},
		{spot(8, 0, 0), false, []api.Spot{spot(5, 0, 1), spot(7, 0, 2)}},
		{spot(7, 1, 0), false, []api.Spot{spot(5, 0, 1), spot(7, 0, 2)}},
		{spot(7, 0, 3), false, []api.Spot{spot(5, 0, 1), spot(7, 0, 2)}},
		{spot(7, 0, 2), false, []api.Spot{spot(5, 0, 1), spot(7, 0, 2)}},
		{spot(7, 0, 1), true, []api.Spot{spot(5, 0, 1), spot(7, 0, 1)}},
		{spot(6, 9, 9), true, []api.Spot{spot(5, 0, 1), spot(6, 9, 9)}},
		{spot(6, 8, 9), true, []api.Spot{spot(5, 0, 1), spot(6, 8, 9)}},
		{spot(5, 0, 1), true, []api.Spot{spot(5, 0, 1), spot(5, 0, 1)}},
		{spot(5, 0, 1), false, []api.Spot{spot(5, 0, 1), spot(5, 0, 1)}},
		{spot(0, 0, 0), true, []api.Spot{spot(0, 0, 0), spot(5, 0, 1)}},
		{spot(0, 0, -1), true, []api.Spot{spot(0, 0, -1), spot(0, 0, 0)}},
		{spot(top, 0, 0), false, []api.Spot{spot(0, 0, -1), spot(0, 0, 0)}},
	} {
		if got := b.Offer(c.offer); got != c.in {
			t.Errorf("Offer(%v) = %v", c.offer, got)
		}
		checkBest(t, b, c.want, 2)
	}
}

// 8.2: the least most is 0, and the greatest MaxEf; what is beyond is the nearest of these.
func TestHowManyAreBest(t *testing.T) {
	for _, c := range []struct{ most, want int }{
		{math.MinInt, 0}, {-1, 0}, {0, 0}, {1, 1}, {2, 2}, {4095, 4095}, {4096, 4096}, {4097, 4096}, {math.MaxInt, 4096},
	} {
		b := NewBest(c.most)
		for i := range c.want {
			if b.Full() {
				t.Fatalf("of most %d it is full with %d", c.most, i)
			}
			if !b.Offer(spot(uint64(i), 0, i)) {
				t.Fatalf("of most %d it refuses number %d", c.most, i)
			}
		}
		if !b.Full() || b.Offer(spot(uint64(c.want), 0, 0)) || len(b.List()) != c.want {
			t.Fatalf("of most %d it has %d, want %d", c.most, len(b.List()), c.want)
		}
	}
}

// 8.2: of most 0 nothing is in it, and it is full.
func TestBestOfNone(t *testing.T) {
	for _, most := range []int{0, -1, math.MinInt} {
		b := NewBest(most)
		checkBest(t, b, nil, 0)
		for _, s := range []api.Spot{{}, spot(1, 1, 1), spot(top, top, 1), spot(0, 0, math.MinInt)} {
			if b.Offer(s) {
				t.Errorf("of most %d it takes %v", most, s)
			}
		}
		checkBest(t, b, nil, 0)
	}
}

// 8.2: what is told is new each time, and lists have nothing to do with each other.
func TestBestListsAreNew(t *testing.T) {
	b, other := NewBest(3), NewBest(3)
	for _, s := range atPlaces(3, 1, 2) {
		b.Offer(s)
	}
	clear(b.List())
	b.List()[0] = spot(top, 0, 0)
	if got, want := fmt.Sprint(b.List()), fmt.Sprint(atPlaces(1, 2, 3)); got != want {
		t.Errorf("List is %s, want %s", got, want)
	}
	told := b.List()
	b.Offer(atPlaces(0)[0])
	if !slices.Equal(told, atPlaces(1, 2, 3)) {
		t.Errorf("what was told became %v", told)
	}
	checkBest(t, b, atPlaces(0, 1, 2), 3)
	checkBest(t, other, nil, 3)
}

// 8.3: of a nil queue.
func TestNilQueue(t *testing.T) {
	var q *Queue
	checkEmpty(t, q)
	q.Push(spot(1, 1, 1))
	checkEmpty(t, q)
}

// 8.3: of a nil best list.
func TestNilBest(t *testing.T) {
	var b *Best
	for range 2 {
		if s, ok := b.Worst(); s != (api.Spot{}) || ok {
			t.Errorf("Worst is %v, %v", s, ok)
		}
		if !b.Full() || len(b.List()) != 0 || b.Offer(spot(1, 1, 1)) {
			t.Errorf("Full is %v, List %v, or it takes a spot", b.Full(), b.List())
		}
	}
}

// 8.2 and 8.4: few spots, whatever order they come in.
func TestBestOfEachOrder(t *testing.T) {
	const n = 6
	orders(n, func(l []uint64) {
		for most := range n + 2 {
			b, spots := NewBest(most), atPlaces(l...)
			for i, s := range spots {
				want := rank.Least(spots[:i+1], most)
				if got := b.Offer(s); got != slices.Contains(want, s) {
					t.Fatalf("Offer(%v), of %v and most %d: %v", s, spots[:i], most, got)
				}
				checkBest(t, b, want, most)
			}
		}
	})
}

// 8.4: a best list has the least of all that was offered, those that are equal, too.
func TestBestHasTheLeast(t *testing.T) {
	d := draws(9)
	for range 300 {
		most := int(d.next() % 40)
		b, spots := NewBest(most), d.spots(60)
		for i, s := range spots {
			before := b.List()
			want := rank.Least(spots[:i+1], most)
			if got := b.Offer(s); got == slices.Equal(before, want) {
				t.Fatalf("Offer(%v) = %v, and %v became %v", s, got, before, want)
			}
			checkBest(t, b, want, most)
		}
	}
}

// 8.4: as many as may be, out of more.
func TestLongBest(t *testing.T) {
	d := draws(10)
	spots := d.spots(2 * api.MaxEf)
	for i := range spots {
		spots[i].Hit.Dist = d.next()
	}
	b := NewBest(api.MaxEf)
	for _, s := range spots {
		b.Offer(s)
	}
	checkBest(t, b, rank.Least(spots, api.MaxEf), api.MaxEf)
}
