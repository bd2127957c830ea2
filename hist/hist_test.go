package hist

import (
	"fmt"
	"math"
	"slices"
	"testing"

	"ganglion/api"
)

const (
	most  = math.MaxInt
	least = math.MinInt
)

// draws tells numbers that look like chance, the same ones each time.
type draws uint64

func (d *draws) next() uint64 {
	*d = *d*6364136223846793005 + 1442695040888963407
	return uint64(*d >> 32)
}

// below has a number from 0 to below n.
func (d *draws) below(n int) int {
	return int(d.next() % uint64(n))
}

// end is the end of a call of that kind, with these times.
func end(kind int, why api.Errno, worker, from, to int, marks ...int) api.Told {
	return api.Told{Worker: worker, Call: api.Call{Kind: kind}, Err: why, From: from, Marks: marks, To: to}
}

// get is the end of a get without an error.
func get(worker, from, to int, marks ...int) api.Told {
	return end(api.CallGet, api.OK, worker, from, to, marks...)
}

// end is the end of a call of few kinds and workers, with few times that may be right or not.
func (d *draws) end() api.Told {
	kind := []int{api.CallGet, api.CallInsert, api.CallClose, api.CallSearch, api.CallSearch}[d.below(5)]
	why := []api.Errno{api.OK, api.OK, api.ErrClosed, api.ErrNotFound}[d.below(4)]
	e := end(kind, why, d.below(3), d.below(12)-1, d.below(12))
	for range []int{1, 1, 1, 0, 2, 3}[d.below(6)] {
		e.Marks = append(e.Marks, d.below(12))
	}
	return e
}

// history has n ends that are right, by few workers, at times of which many are equal, in any order.
func (d *draws) history(n int) []api.Told {
	var l []api.Told
	soonest := map[int]int{}
	for range n {
		e := d.end()
		e.From = soonest[e.Worker] + d.below(4)
		e.To = e.From + d.below(6)
		soonest[e.Worker] = e.To + 1
		e.Marks = nil
		for at := e.From; at <= e.To; at++ {
			if d.below(3) == 0 {
				e.Marks = append(e.Marks, at)
			}
		}
		if len(e.Marks) == 0 && (e.Call.Kind != api.CallSearch || e.Err != api.OK) {
			e.Marks = []int{e.From + d.below(e.To-e.From+1)}
		}
		l = slices.Insert(l, d.below(len(l)+1), e)
	}
	return l
}

// right tells whether l is right, as the document says it: of each, and of each two.
func right(l []api.Told) bool {
	for i, e := range l {
		if e.From < 0 || e.To < e.From {
			return false
		}
		if len(e.Marks) == 0 && !(e.Call.Kind == api.CallSearch && e.Err == api.OK) {
			return false
		}
		for j, m := range e.Marks {
			if m < e.From || m > e.To || j > 0 && m <= e.Marks[j-1] {
				return false
			}
		}
		for j, other := range l {
			if i != j && e.Worker == other.Worker && !(e.To < other.From) && !(other.To < e.From) {
				return false
			}
		}
	}
	return true
}

// at is the time of an end.
func at(e api.Told) int {
	if len(e.Marks) > 0 {
		return e.Marks[0]
	}
	return e.From
}

// ordered has the places of l, as the document says it: part by part, each place behind those whose times are not greater.
func ordered(l []api.Told) []int {
	parts := [3][]int{}
	for place, e := range l {
		n := 0
		if e.Err == api.ErrClosed {
			n = 2
		} else if e.Call.Kind == api.CallClose {
			n = 1
		}
		to := 0
		for to < len(parts[n]) && at(l[parts[n][to]]) <= at(e) {
			to++
		}
		parts[n] = slices.Insert(parts[n], to, place)
	}
	return slices.Concat(parts[:]...)
}

// respects tells whether l respects the order, as the document says it.
func respects(l []api.Told, order []int) bool {
	sorted := slices.Clone(order)
	slices.Sort(sorted)
	if len(order) != len(l) {
		return false
	}
	for i, place := range sorted {
		if i != place {
			return false
		}
	}
	for i, a := range order {
		for _, b := range order[i+1:] {
			if l[b].To < l[a].From {
				return false
			}
		}
	}
	return true
}

// orders has all orders of the numbers below n.
func orders(n int) [][]int {
	if n == 0 {
		return [][]int{{}}
	}
	var all [][]int
	for _, o := range orders(n - 1) {
		for at := range n {
			all = append(all, slices.Insert(slices.Clone(o), at, n-1))
		}
	}
	return all
}

// 26.1: a call is ahead of one that begins behind its end.
func TestAhead(t *testing.T) {
	times := []int{least, -1, 0, 1, 2, 1 << 32, most}
	for _, to := range times {
		for _, from := range times {
			a, b := get(1, 0, to, 5), get(1, from, 0, 5)
			if got := Ahead(a, b); got != (to < from) {
				t.Errorf("Ahead of one that ends at %d and one from %d = %v", to, from, got)
			}
		}
	}
	if a := get(1, 2, 2, 2); Ahead(a, a) {
		t.Errorf("a call is ahead of itself")
	}
}

// 26.1: what must hold for each end alone.
func TestCheckEnd(t *testing.T) {
	rights := []api.Told{
		get(0, 0, 0, 0),
		get(0, 3, 5, 3),
		get(0, 3, 5, 5),
		get(0, 3, 5, 3, 4, 5),
		get(-1, 3, 5, 3, 5),
		get(most, most, most, most),
		get(least, 0, most, 0, 1<<32, most),
		end(api.CallSearch, api.OK, 0, 3, 5),
		end(api.CallSearch, api.OK, 0, 0, 0),
		end(api.CallSearch, api.OK, 0, 3, 5, 3, 4),
		end(api.CallSearch, api.ErrClosed, 0, 3, 5, 4),
		end(api.CallInsert, api.ErrFull, 0, 3, 5, 4),
		end(api.CallNone, api.OK, 0, 3, 5, 4),
		end(99, api.ErrInvalid, 0, 3, 5, 4),
	}
	for _, e := range rights {
		if why := Check([]api.Told{e}); why != api.OK {
			t.Errorf("Check of %v alone = %v", e, why)
		}
	}
	wrongs := []api.Told{
		get(0, -1, 5, 3),
		get(0, least, 5, 3),
		get(0, 3, 2, 3),
		get(0, 3, 2, 2),
		get(0, 3, 2),
		get(0, 3, -1, 3),
		get(0, 3, 5),
		get(0, 3, 5, 2),
		get(0, 3, 5, 6),
		get(0, 3, 5, 4, 6),
		get(0, 3, 5, 2, 4),
		get(0, 3, 5, 4, 4),
		get(0, 3, 5, 5, 4),
		get(0, 3, 5, 3, 5, 4),
		get(0, 0, most, most, 5),
		get(0, 0, most, most, most),
		get(0, 0, 5, least),
		end(api.CallSearch, api.OK, 0, -1, 5),
		end(api.CallSearch, api.OK, 0, 3, 2),
		end(api.CallSearch, api.OK, 0, 3, 5, 6),
		end(api.CallSearch, api.OK, 0, 3, 5, 4, 4),
		end(api.CallSearch, api.ErrClosed, 0, 3, 5),
		end(api.CallSearch, api.ErrInvalid, 0, 3, 5),
		end(api.CallSearch, -1, 0, 3, 5),
		end(api.CallInsert, api.OK, 0, 3, 5),
		end(api.CallClose, api.OK, 0, 3, 5),
		end(api.CallNone, api.OK, 0, 3, 5),
		end(1<<32+api.CallSearch, api.OK, 0, 3, 5),
	}
	for _, e := range wrongs {
		fine := get(1, 0, 9, 4)
		for _, l := range [][]api.Told{{e}, {e, fine}, {fine, e}, {fine, e, get(1, 20, 21, 20)}} {
			if why := Check(l); why != api.ErrForm {
				t.Errorf("Check of %v = %v", l, why)
			}
		}
	}
	if Check(nil) != api.OK || Check([]api.Told{}) != api.OK {
		t.Errorf("Check of no ends = %v", Check(nil))
	}
}

// 26.1: of two ends of one worker one is ahead of the other, wherever they stand.
func TestCheckWorkers(t *testing.T) {
	for _, c := range []struct {
		l    []api.Told
		want api.Errno
	}{
		{[]api.Told{get(1, 0, 2, 1), get(1, 3, 4, 3)}, api.OK},
		{[]api.Told{get(1, 3, 4, 3), get(1, 0, 2, 1)}, api.OK},
		{[]api.Told{get(1, 0, 3, 1), get(1, 3, 4, 3)}, api.ErrForm},
		{[]api.Told{get(1, 3, 4, 3), get(1, 0, 3, 1)}, api.ErrForm},
		{[]api.Told{get(1, 0, 3, 1), get(2, 3, 4, 3)}, api.OK},
		{[]api.Told{get(1, 0, 3, 1), get(1, 0, 3, 1)}, api.ErrForm},
		{[]api.Told{get(1, 0, 3, 1), get(2, 0, 3, 1)}, api.OK},
		{[]api.Told{get(1, 0, 9, 1), get(1, 3, 4, 3)}, api.ErrForm},
		{[]api.Told{get(1, 0, 9, 1), get(2, 0, 3, 1), get(1, 9, 9, 9)}, api.ErrForm},
		{[]api.Told{get(1, 0, 8, 1), get(2, 0, 3, 1), get(1, 9, 9, 9)}, api.OK},
		{[]api.Told{get(1, 4, 5, 4), get(1, 0, 1, 0), get(1, 2, 3, 2), get(1, 6, 7, 6)}, api.OK},
		{[]api.Told{get(1, 4, 5, 4), get(1, 0, 1, 0), get(1, 2, 4, 2), get(1, 6, 7, 6)}, api.ErrForm},
		{[]api.Told{get(-1, 0, 3, 1), get(1, 2, 4, 3), get(1<<32+1, 2, 4, 3), get(least, 2, 4, 3)}, api.OK},
		{[]api.Told{get(most, 0, most, 1), get(most, most, most, most)}, api.ErrForm},
	} {
		if got := Check(c.l); got != c.want {
			t.Errorf("Check(%v) = %v, want %v", c.l, got, c.want)
		}
	}
}

// 26.1: many histories, most of them wrong, held against the words.
func TestCheckMany(t *testing.T) {
	d := draws(261)
	seen := [2]int{}
	for range 20000 {
		l := d.history(d.below(6))
		if len(l) > 0 && d.below(3) > 0 {
			e := &l[d.below(len(l))]
			switch d.below(3) {
			case 0:
				*e = d.end()
			case 1:
				e.Worker = d.below(3)
			case 2:
				e.To += d.below(3) - 1
			}
		}
		want := api.ErrForm
		if right(l) {
			want = api.OK
		}
		seen[min(int(want), 1)]++
		before := fmt.Sprint(l)
		if got := Check(l); got != want || fmt.Sprint(l) != before {
			t.Fatalf("Check(%s) = %v, want %v; it is %v", before, got, want, l)
		}
	}
	if seen[0] < 4000 || seen[1] < 4000 {
		t.Errorf("of too few: %v", seen)
	}
}

// 26.2: which ends stand ahead of which. It begins with example 1.
func TestOrder(t *testing.T) {
	shut := end(api.CallClose, api.OK, 1, 0, 9, 1)
	late := end(api.CallClose, api.ErrInvalid, 1, 0, 9, 0)
	none := end(api.CallClose, api.ErrClosed, 1, 0, 9, 2)
	over := end(api.CallGet, api.ErrClosed, 1, 0, 9, 0)
	found := end(api.CallSearch, api.OK, 1, 4, 9)
	for _, c := range []struct {
		l    []api.Told
		want []int
	}{
		{[]api.Told{get(1, 1, 4, 3), get(2, 2, 5, 2)}, []int{1, 0}},
		{nil, nil},
		{[]api.Told{get(1, 1, 4, 3)}, []int{0}},
		{[]api.Told{get(1, 1, 4, 2), get(2, 2, 5, 2), get(3, 0, 5, 2)}, []int{0, 1, 2}},
		{[]api.Told{get(1, 1, 9, 5, 0), get(2, 9, 9, 4, 9)}, []int{1, 0}},
		{[]api.Told{get(1, 0, 9, 5), found, get(3, 0, 9, 4), get(3, 0, 9, 3)}, []int{3, 1, 2, 0}},
		{[]api.Told{over, shut, get(1, 0, 9, 8)}, []int{2, 1, 0}},
		{[]api.Told{none, over, shut, late, get(1, 0, 9, 9)}, []int{4, 3, 2, 1, 0}},
		{[]api.Told{shut, shut, over, over, found, found}, []int{4, 5, 0, 1, 2, 3}},
		{[]api.Told{get(1, 0, 9, most), get(1, 0, 9, least), get(1, most, 0), get(1, least, 0)}, []int{1, 3, 0, 2}},
	} {
		if got := Order(c.l); fmt.Sprint(got) != fmt.Sprint(c.want) {
			t.Errorf("Order(%v) = %v, want %v", c.l, got, c.want)
		}
	}
}

// 26.2: many lists, right or not, held against the words.
func TestOrderMany(t *testing.T) {
	d := draws(262)
	for range 5000 {
		var l []api.Told
		for range d.below(30) {
			l = append(l, d.end())
		}
		before := fmt.Sprint(l)
		got := Order(l)
		if want := ordered(l); fmt.Sprint(got) != fmt.Sprint(want) || fmt.Sprint(l) != before {
			t.Fatalf("Order(%s) = %v, want %v; it is %v", before, got, want, l)
		}
	}
}

// 26.3: an order has each place once.
func TestRespectsPlaces(t *testing.T) {
	l := []api.Told{get(1, 0, 9, 1), get(2, 0, 9, 1), get(3, 0, 9, 1)}
	for _, o := range orders(3) {
		if !Respects(l, o) {
			t.Errorf("Respects of %v = false, where none is ahead", o)
		}
	}
	for _, o := range [][]int{nil, {}, {0}, {0, 1}, {1, 2}, {0, 1, 1}, {0, 0, 0}, {0, 1, 3}, {1, 2, 3}, {0, 1, -1}, {0, 1, 2, 2}, {0, 1, 2, 3}, {0, 1, most}, {least, 1, 2}, {0, 1, 1 << 32}} {
		if Respects(l, o) {
			t.Errorf("Respects of %v = true", o)
		}
	}
	if !Respects(nil, nil) || !Respects([]api.Told{}, []int{}) || Respects(nil, []int{0}) {
		t.Errorf("of no ends: %v, %v", Respects(nil, nil), Respects(nil, []int{0}))
	}
}

// 26.3: none stands behind one that it is ahead of, near or far.
func TestRespects(t *testing.T) {
	l := []api.Told{get(1, 0, 2, 1), get(1, 3, 5, 4), get(2, 1, 3, 3), get(3, 6, 6, 6)}
	for _, c := range []struct {
		order []int
		want  bool
	}{
		{[]int{0, 1, 2, 3}, true},
		{[]int{0, 2, 1, 3}, true},
		{[]int{2, 0, 1, 3}, true},
		{[]int{1, 0, 2, 3}, false},
		{[]int{1, 2, 0, 3}, false},
		{[]int{3, 0, 1, 2}, false},
		{[]int{0, 1, 3, 2}, false},
		{[]int{0, 2, 3, 1}, false},
	} {
		if got := Respects(l, c.order); got != c.want {
			t.Errorf("Respects of %v = %v, want %v", c.order, got, c.want)
		}
	}
	// Of one that ends before it begins it is told by its times, too; it is not ahead of itself in an order.
	for _, c := range []struct {
		a, b api.Told
		want bool
	}{
		{get(1, 5, 0, 1), get(2, 0, 9, 1), true},
		{get(1, 5, 0, 1), get(2, 0, 4, 1), false},
		{get(1, least, least, 1), get(2, least, least, 1), true},
		{get(1, most, most, 1), get(2, 0, most, 1), true},
		{get(1, most, most, 1), get(2, 0, most-1, 1), false},
	} {
		if got := Respects([]api.Told{c.a, c.b}, []int{0, 1}); got != c.want {
			t.Errorf("Respects of %v ahead of %v = %v, want %v", c.a, c.b, got, c.want)
		}
	}
}

// 26.3: all orders of many lists, right or not, held against the words.
func TestRespectsMany(t *testing.T) {
	d := draws(263)
	for range 2000 {
		l := d.history(d.below(6))
		if d.below(4) == 0 {
			l = append(l, d.end())
		}
		before := fmt.Sprint(l)
		for _, o := range orders(len(l)) {
			if got := Respects(l, o); got != respects(l, o) {
				t.Fatalf("Respects(%v, %v) = %v", l, o, got)
			}
		}
		for range 20 {
			var o []int
			for range len(l) + d.below(3) - 1 {
				o = append(o, d.below(len(l)+1)-d.below(2))
			}
			told := fmt.Sprint(o)
			if got := Respects(l, o); got != respects(l, o) || fmt.Sprint(o) != told {
				t.Fatalf("Respects(%v, %v) = %v", l, o, got)
			}
		}
		if fmt.Sprint(l) != before {
			t.Fatalf("it was %s, and is %v", before, l)
		}
	}
}

// 26.4: sorted by their times alone, the ends of a right history are in an order that it respects.
func TestAsTimeWent(t *testing.T) {
	d := draws(264)
	for range 5000 {
		l := d.history(d.below(20))
		if why := Check(l); why != api.OK {
			t.Fatalf("Check(%v) = %v", l, why)
		}
		byTime := make([]int, len(l))
		for i := range byTime {
			byTime[i] = i
		}
		slices.SortFunc(byTime, func(a, b int) int { return at(l[a]) - at(l[b]) })
		if !Respects(l, byTime) {
			t.Fatalf("%v does not respect %v", l, byTime)
		}
		// Where all came while the store was open, this is the order of the document, too.
		for i := range l {
			l[i].Err = api.OK
			l[i].Call.Kind = api.CallSearch
		}
		if order := Order(l); !Respects(l, order) {
			t.Fatalf("%v does not respect %v", l, order)
		}
	}
}
