package lock

import (
	"fmt"
	"math"
	"slices"
	"testing"

	"ganglion/api"
)

const (
	most  = math.MaxInt
	least = math.MinInt
	last  = api.MaxWorkers
	end   = api.MaxCap
)

// draws tells numbers that look like chance, the same ones each time.
type draws uint64

func (d *draws) next() uint64 {
	*d = *d*6364136223846793005 + 1442695040888963407
	return uint64(*d >> 32)
}

// below has a number from 0 to below n.
func (d *draws) below(n int) int {
	return int(d.next() % uint64(n))
}

// worker has few workers, and now and then the last one, or one that there is not.
func (d *draws) worker() int {
	if d.below(12) == 0 {
		return []int{last, last, last - 1, last + 1, -1, least, most, 1 << 32}[d.below(8)]
	}
	return d.below(4)
}

// mutex has few mutexes, and now and then the last one, or one that there is not.
func (d *draws) mutex() int {
	if d.below(12) == 0 {
		return []int{end, end, end - 1, end + 1, -1, least, most, 1 << 32}[d.below(8)]
	}
	return d.below(6)
}

// deed is what a worker does to a mutex: it takes it, or gives it back.
type deed struct {
	give bool
	w, n int
}

// do lets the table do it, and tells what it answers.
func do(x *Table, e deed) bool {
	if e.give {
		return x.Give(e.w, e.n)
	}
	return x.Take(e.w, e.n)
}

// takes are deeds that take, of workers and mutexes in turns.
func takes(numbers ...int) []deed {
	var l []deed
	for i := 0; i < len(numbers); i += 2 {
		l = append(l, deed{w: numbers[i], n: numbers[i+1]})
	}
	return l
}

// tableOf is a table in which all this was done, one behind the other.
func tableOf(deeds ...deed) *Table {
	x := New()
	for _, e := range deeds {
		do(x, e)
	}
	return x
}

// said is a table by the document's words: who holds which mutex, and who waits for which, one behind the other.
type said struct {
	holds, waits [][2]int
	fell         bool
}

// holder is who holds n, -1 if nobody does.
func (s *said) holder(n int) int {
	for _, h := range s.holds {
		if h[1] == n {
			return h[0]
		}
	}
	return -1
}

// waitsFor is for which mutex w waits, -1 if for none.
func (s *said) waitsFor(w int) int {
	for _, h := range s.waits {
		if h[0] == w {
			return h[1]
		}
	}
	return -1
}

// held is what w holds, rising.
func (s *said) held(w int) []int {
	var l []int
	for n := range end + 1 {
		if slices.Contains(s.holds, [2]int{w, n}) {
			l = append(l, n)
		}
	}
	return l
}

func (s *said) do(e deed) bool {
	if e.w < 0 || e.w > last || e.n < 0 || e.n > end {
		return false
	}
	has := s.holder(e.n) == e.w
	if has != e.give {
		return false
	}
	free := s.holder(e.n) < 0
	if !e.give {
		for _, h := range s.holds {
			s.fell = s.fell || h[0] == e.w && h[1] > e.n
		}
	}
	s.waits = slices.DeleteFunc(s.waits, func(h [2]int) bool { return h[0] == e.w })
	switch {
	case e.give:
		s.holds = slices.DeleteFunc(s.holds, func(h [2]int) bool { return h[1] == e.n })
	case free:
		s.holds = append(s.holds, [2]int{e.w, e.n})
	default:
		s.waits = append(s.waits, [2]int{e.w, e.n})
	}
	return e.give || free
}

// ring is that of the least worker from which one comes back to it.
func (s *said) ring() []int {
	for w := range last + 1 {
		l := []int{w}
		for range last + 1 {
			n := s.waitsFor(l[len(l)-1])
			if n < 0 || s.holder(n) < 0 {
				break
			}
			if s.holder(n) == w {
				return l
			}
			l = append(l, s.holder(n))
		}
	}
	return nil
}

// tellsWorker fails unless the table tells of this worker just what is said of it.
func tellsWorker(t *testing.T, x *Table, s *said, w int) {
	t.Helper()
	if got, want := x.Held(w), s.held(w); !slices.Equal(got, want) {
		t.Errorf("Held(%d) = %v, want %v", w, got, want)
	}
	n, is := x.Waits(w)
	if want := s.waitsFor(w); is != (want >= 0) || n != max(want, 0) {
		t.Errorf("Waits(%d) = %d, %v, want %d", w, n, is, want)
	}
}

// tells fails unless the table tells of these workers and mutexes just what is said.
func tells(t *testing.T, x *Table, s *said, workers, mutexes []int) {
	t.Helper()
	for _, w := range workers {
		tellsWorker(t, x, s, w)
	}
	for _, n := range mutexes {
		w, is := x.Holder(n)
		if want := s.holder(n); is != (want >= 0) || w != max(want, 0) {
			t.Errorf("Holder(%d) = %d, %v, want %d", n, w, is, want)
		}
	}
	if got, want := x.Ring(), s.ring(); !slices.Equal(got, want) {
		t.Errorf("Ring() = %v, want %v", got, want)
	}
	if got := x.Rising(); got == s.fell {
		t.Errorf("Rising() = %v", got)
	}
}

// upTo has all numbers from 0 to n.
func upTo(n int) []int {
	var l []int
	for i := range n + 1 {
		l = append(l, i)
	}
	return l
}

// odd are numbers of which there is no worker, and no mutex.
var odd = []int{-1, least, most, end + 1, 1 << 32, least + 1}

// allWorkers and allMutexes have all that there are, and some that there are not.
func allWorkers() []int { return append(upTo(last+1), odd...) }
func allMutexes() []int { return append(upTo(end+1), odd...) }

// 19.1, 19.2, 19.3: at first all are free, nobody waits, and nothing was taken.
func TestNew(t *testing.T) {
	x := New()
	if x == nil {
		t.Fatal("there is no table")
	}
	tells(t, x, &said{}, allWorkers(), allMutexes())
}

// 19.1: what each Take and Give answers, and who holds what, and waits for what, behind it.
func TestTakeAndGive(t *testing.T) {
	x := New()
	for i, c := range []struct {
		e           deed
		want        bool
		holder, has int
		waits       int
	}{
		{deed{false, 0, 1}, true, 0, 1, -1},
		{deed{false, 0, 1}, false, 0, 1, -1},
		{deed{false, 1, 1}, false, 0, 0, 1},
		{deed{false, 1, 1}, false, 0, 0, 1},
		{deed{true, 1, 1}, false, 0, 0, 1},
		{deed{true, 0, 2}, false, -1, 1, -1},
		{deed{false, 1, 2}, true, 1, 1, -1},
		{deed{true, 0, 2}, false, 1, 1, -1},
		{deed{false, 0, 2}, false, 1, 1, 2},
		{deed{true, 1, 2}, true, -1, 0, -1},
		{deed{true, 1, 2}, false, -1, 0, -1},
		{deed{false, 0, 2}, true, 0, 2, -1},
		{deed{true, 0, 1}, true, -1, 1, -1},
		{deed{true, 0, 2}, true, -1, 0, -1},
		{deed{false, 1, 2}, true, 1, 1, -1},
	} {
		if got := do(x, c.e); got != c.want {
			t.Errorf("%d: %v answers %v", i, c.e, got)
		}
		w, held := x.Holder(c.e.n)
		if held != (c.holder >= 0) || w != max(c.holder, 0) {
			t.Errorf("%d: %d, %v holds %d, want %d", i, w, held, c.e.n, c.holder)
		}
		n, waits := x.Waits(c.e.w)
		if waits != (c.waits >= 0) || n != max(c.waits, 0) || len(x.Held(c.e.w)) != c.has {
			t.Errorf("%d: %d waits for %d, %v, and holds %v, want %d and %d", i, c.e.w, n, waits, x.Held(c.e.w), c.waits, c.has)
		}
	}
}

// 19.1: a worker waits till it waits for another mutex, takes one, or gives one back; nothing else ends that.
func TestWaits(t *testing.T) {
	// 1 holds 7, and waits for 2; 0 holds 2, 2 holds 3.
	start := takes(1, 7, 0, 2, 2, 3, 1, 2)
	for _, c := range []struct {
		deeds []deed
		want  int
	}{
		{nil, 2},
		{takes(1, 2), 2},
		{takes(1, 3), 3},
		{takes(1, 3, 1, 2), 2},
		{takes(1, 4), -1},
		{takes(1, 4, 1, 2), 2},
		{[]deed{{true, 1, 7}}, -1},
		{[]deed{{true, 1, 7}, {false, 1, 3}}, 3},
		// What it may not do, or what it holds already, changes nothing.
		{takes(1, 7, 1, -1, 1, end+1), 2},
		{[]deed{{true, 1, 2}, {true, 1, 3}, {true, 1, 5}, {true, 1, -1}}, 2},
		// It waits on, though the mutex is free, or another one has it now; till it takes it.
		{[]deed{{true, 0, 2}}, 2},
		{[]deed{{true, 0, 2}, {false, 2, 2}}, 2},
		{[]deed{{true, 0, 2}, {false, 1, 2}}, -1},
		{[]deed{{true, 0, 2}, {false, 2, 2}, {false, 1, 2}}, 2},
		// What others do, and for what they wait, is theirs.
		{[]deed{{false, 2, 2}, {true, 2, 3}, {false, 0, 7}, {false, 0, 5}}, 2},
	} {
		n, is := tableOf(append(slices.Clone(start), c.deeds...)...).Waits(1)
		if is != (c.want >= 0) || n != max(c.want, 0) {
			t.Errorf("behind %v it waits for %d, %v, want %d", c.deeds, n, is, c.want)
		}
	}
}

// 19.2: what a worker holds is told rising, and of that worker alone.
func TestHeld(t *testing.T) {
	x, want := New(), []int{}
	for i := range end + 1 {
		n := i * 1000 % (end + 1)
		if !x.Take(n%3, n) {
			t.Errorf("%d is not taken", n)
		}
	}
	for n := range end + 1 {
		if n%3 == 1 {
			want = append(want, n)
		}
	}
	if got := x.Held(1); !slices.Equal(got, want) {
		t.Errorf("it holds %v", got)
	}
	for _, n := range want[1:] {
		x.Give(1, n)
	}
	if got := x.Held(1); !slices.Equal(got, want[:1]) || len(x.Held(3)) != 0 || len(x.Held(-1)) != 0 {
		t.Errorf("it holds %v", got)
	}
	// 0 as a mutex, and as a worker, is one like any other.
	x = tableOf(takes(0, 0, 5, 0)...)
	w, held := x.Holder(0)
	n, waits := x.Waits(5)
	if w != 0 || !held || n != 0 || !waits || !slices.Equal(x.Held(0), []int{0}) {
		t.Errorf("%d, %v holds 0, for %d, %v it waits", w, held, n, waits)
	}
}

// 19.3: the ring of the least worker in one; the first row is example 1.
func TestRing(t *testing.T) {
	for _, c := range []struct {
		deeds []deed
		want  []int
	}{
		{takes(0, 1, 1, 2, 0, 2, 1, 1), []int{0, 1}},
		{nil, nil},
		{takes(0, 1, 1, 2, 0, 2), nil},
		{takes(0, 1, 1, 1, 2, 1), nil},
		{takes(0, 1, 0, 1), nil},
		// From the least one on, in the order in which they wait.
		{takes(5, 1, 3, 2, 4, 3, 5, 3, 4, 2, 3, 1), []int{3, 5, 4}},
		{takes(5, 1, 3, 2, 4, 3, 5, 2, 3, 3, 4, 1), []int{3, 4, 5}},
		// Who waits for one of a ring is not in it, though it is less.
		{takes(1, 1, 2, 2, 1, 2, 2, 1, 0, 2), []int{1, 2}},
		{takes(3, 1, 2, 2, 3, 2, 2, 1, 1, 5, 0, 5, 1, 1), []int{2, 3}},
		// Of two rings that of the least one.
		{takes(2, 1, 3, 2, 2, 2, 3, 1, 0, 3, 7, 4, 0, 4, 7, 3), []int{0, 7}},
		{takes(0, 3, 7, 4, 0, 4, 7, 3, 2, 1, 3, 2, 2, 2, 3, 1), []int{0, 7}},
		{append(takes(0, 3, 7, 4, 0, 4, 7, 3, 2, 1, 3, 2, 2, 2, 3, 1), deed{true, 7, 4}), []int{2, 3}},
		// Who waits for what is free is in none; nor who waits no more.
		{append(takes(0, 1, 1, 2, 0, 2, 1, 1), deed{true, 1, 2}), nil},
		{append(takes(0, 1, 1, 2, 1, 3, 0, 2, 1, 1), deed{true, 1, 3}), nil},
		{append(takes(0, 1, 1, 2, 0, 2, 1, 1), takes(0, 9)...), nil},
		{append(takes(0, 1, 1, 2, 2, 3, 0, 2, 1, 1), takes(0, 3)...), nil},
		// Who takes what was free is the one that is waited for then.
		{append(takes(0, 1, 1, 2, 2, 3, 0, 2, 2, 1), deed{true, 1, 2}, deed{false, 2, 2}), nil},
		{append(takes(0, 1, 1, 2, 2, 3, 0, 2, 1, 3), deed{true, 2, 3}, deed{false, 0, 3}), nil},
		{append(takes(0, 1, 1, 2, 2, 3, 0, 2), deed{true, 1, 2}, deed{false, 2, 2}, deed{false, 2, 1}), []int{0, 2}},
		// A call that does nothing ends none.
		{append(takes(0, 1, 1, 2, 0, 2, 1, 1), deed{false, 0, 1}, deed{false, 0, -1}, deed{true, 0, 2}, deed{true, 1, 9}), []int{0, 1}},
		{takes(0, 0, last, end, 0, end, last, 0), []int{0, last}},
	} {
		if got := tableOf(c.deeds...).Ring(); !slices.Equal(got, c.want) {
			t.Errorf("behind %v there is %v, want %v", c.deeds, got, c.want)
		}
	}
}

// 19.3: the ring of all workers there are.
func TestRingOfAll(t *testing.T) {
	x, want := New(), []int{0}
	for w := range last + 1 {
		x.Take(w, w)
	}
	for w := range last {
		x.Take(w+1, w)
		if got := x.Ring(); len(got) != 0 {
			t.Errorf("there is %v", got)
		}
		want = append(want, last-w)
	}
	x.Take(0, last)
	if got := x.Ring(); !slices.Equal(got, want) {
		t.Errorf("there is %v", got)
	}
}

// 19.3: has each mutex that was taken, or waited for, been greater than all that its worker held?
func TestRising(t *testing.T) {
	for _, c := range []struct {
		deeds []deed
		want  bool
	}{
		{nil, true},
		{takes(0, 5), true},
		{takes(0, 1, 0, 2, 0, 3), true},
		{takes(0, 2, 0, 1), false},
		{takes(0, 1, 0, 3, 0, 2), false},
		{takes(0, 0, 0, end), true},
		{takes(0, end, 0, 0), false},
		// What a worker waits for counts, whether it gets it then or not.
		{takes(1, 1, 0, 2, 0, 1), false},
		{takes(1, 3, 0, 2, 0, 3), true},
		{append(takes(1, 1, 0, 2, 0, 1), deed{true, 1, 1}, deed{true, 0, 2}), false},
		// Each worker's own count; and what it holds, not what it waits for, or held.
		{takes(0, 5, 1, 1, 2, 0), true},
		{takes(0, 5, 1, 5, 1, 1), true},
		{[]deed{{false, 0, 5}, {true, 0, 5}, {false, 0, 1}}, true},
		{[]deed{{false, 0, 3}, {false, 0, 5}, {true, 0, 5}, {false, 0, 4}}, true},
		{[]deed{{false, 0, 3}, {false, 0, 5}, {true, 0, 3}, {false, 0, 4}}, false},
		// As it was called: what comes behind it changes nothing of that.
		{append(takes(0, 2, 0, 1), deed{true, 0, 2}, deed{true, 0, 1}, deed{false, 0, 7}), false},
		// What did nothing does not count.
		{takes(0, 1, 0, 2, 0, 1, 0, 2), true},
		{takes(0, 5, 0, -1, -1, 1, last+1, 1, 0, end+1), true},
		{[]deed{{false, 0, 5}, {true, 0, 1}, {true, 1, 5}}, true},
		{takes(last, end-1, last, end), true},
		{takes(last, end, last, end-1), false},
	} {
		if got := tableOf(c.deeds...).Rising(); got != c.want {
			t.Errorf("behind %v it is %v", c.deeds, got)
		}
	}
}

// 19.1, 19.2: of a worker, or a mutex, that there is none of nothing happens; those at both ends are like any other.
func TestEnds(t *testing.T) {
	for _, w := range []int{0, 1, last - 1, last} {
		for _, n := range []int{0, 1, end - 1, end} {
			x := New()
			if x.Give(w, n) || !x.Take(w, n) || x.Take(w, n) || !x.Give(w, n) || x.Give(w, n) {
				t.Errorf("%d does not take %d, and give it back, once", w, n)
			}
		}
	}
	for _, none := range odd {
		x, s := New(), &said{}
		for _, e := range append(takes(0, 1, 1, 1, 1, 4), deed{false, last, end}) {
			if do(x, e) != s.do(e) {
				t.Errorf("%v answers something else", e)
			}
		}
		for i := range 2 {
			e := deed{i == 1, 0, none}
			if do(x, e) {
				t.Errorf("there is a mutex %d", none)
			}
			for _, n := range []int{0, 1, 2, end, none} {
				if e := (deed{i == 1, none, n}); do(x, e) {
					t.Errorf("there is a worker %d", none)
				}
			}
		}
		tells(t, x, s, allWorkers(), []int{0, 1, 2, 4, end, none})
	}
	x := New()
	if x.Take(last+1, 3) || x.Take(3, end+1) || !x.Take(last, 3) || x.Take(last+1, 3) {
		t.Error("there are too many")
	}
	if n, is := x.Waits(last + 1); n != 0 || is {
		t.Errorf("it waits for %d, %v", n, is)
	}
}

// 19.3: of a nil table: false, nothing, nobody.
func TestNilTable(t *testing.T) {
	var x *Table
	for _, i := range []int{0, 1, last, end, -1, least, most} {
		if x.Take(i, 0) || x.Take(0, i) || x.Give(i, 0) || x.Give(0, i) {
			t.Errorf("of %d it is true", i)
		}
		w, held := x.Holder(i)
		n, waits := x.Waits(i)
		if w != 0 || held || n != 0 || waits || len(x.Held(i)) != 0 {
			t.Errorf("of %d there is something", i)
		}
	}
	if len(x.Ring()) != 0 || x.Rising() {
		t.Errorf("there is %v, %v", x.Ring(), x.Rising())
	}
}

// 19.2, 19.3: what is told is new each time, and tables have nothing to do with each other.
func TestAnswersAreNew(t *testing.T) {
	x, other := tableOf(takes(0, 1, 0, 3, 1, 2, 0, 2, 1, 1)...), New()
	tell := func() string {
		return fmt.Sprint(x.Held(0), x.Held(1), x.Ring())
	}
	before := tell()
	for _, l := range [][]int{x.Held(0), x.Held(1), x.Ring()} {
		l = l[:cap(l)]
		for i := range l {
			l[i] = 77
		}
	}
	if after := tell(); after != before {
		t.Errorf("it tells %s, and told %s", after, before)
	}
	held, ring := x.Held(0), x.Ring()
	x.Give(0, 1)
	x.Take(0, 0)
	if was := fmt.Sprint(held, ring); was != "[1 3] [0 1]" {
		t.Errorf("it became %s", was)
	}
	if w, is := other.Holder(3); w != 0 || is || !other.Take(5, 3) || !other.Rising() || len(other.Ring()) != 0 {
		t.Error("tables are not apart")
	}
}

// ofFew does all that there may be of so many workers, mutexes and deeds, and holds it against what is said; it tells how many rings there were.
func ofFew(t *testing.T, workers, mutexes, deeds int) int {
	t.Helper()
	var all []deed
	for w := range workers {
		for n := range mutexes {
			all = append(all, deed{false, w, n}, deed{true, w, n})
		}
	}
	rings := 0
	var grow func(l []deed)
	grow = func(l []deed) {
		x, s := New(), &said{}
		for _, e := range l {
			if got, want := do(x, e), s.do(e); got != want {
				t.Errorf("%v: %v answers %v", l, e, got)
			}
		}
		tells(t, x, s, nil, upTo(mutexes))
		for w := range workers {
			n, is := x.Waits(w)
			if want := s.waitsFor(w); is != (want >= 0) || n != max(want, 0) {
				t.Errorf("%v: %d waits for %d, %v", l, w, n, is)
			}
		}
		if len(x.Ring()) > 0 {
			rings++
		}
		if len(l) == deeds || t.Failed() {
			return
		}
		for _, e := range all {
			grow(append(slices.Clone(l), e))
		}
	}
	grow(nil)
	return rings
}

// 19.1 to 19.3: of few deeds all that there may be, held against the document's words.
func TestOfFew(t *testing.T) {
	if rings := ofFew(t, 2, 2, 5); rings < 100 {
		t.Errorf("there are %d rings alone", rings)
	}
	ofFew(t, 3, 3, 3)
}

// 19.1 to 19.3: all that many workers may do, held against the document's words.
func TestOfMany(t *testing.T) {
	d, rings, risen := draws(1), 0, 0
	workers, mutexes := []int{0, 1, 2, 3, 4, last - 1, last, last + 1, -1}, []int{0, 1, 2, 3, 4, 5, 6, end - 1, end, end + 1, -1}
	for range 2000 {
		x, s := New(), &said{}
		for range 5 + d.below(30) {
			e := deed{d.below(3) == 0, d.worker(), d.mutex()}
			if got, want := do(x, e), s.do(e); got != want {
				t.Fatalf("%v answers %v", e, got)
			}
			if l := x.Ring(); len(l) > 0 {
				rings++
				if x.Rising() {
					t.Fatalf("there is %v, though all was taken rising", l)
				}
			} else if x.Rising() {
				risen++
			}
		}
		tells(t, x, s, workers, mutexes)
		if t.Failed() {
			return
		}
	}
	if rings < 1000 || risen < 1000 {
		t.Errorf("there are %d rings alone, %d are rising", rings, risen)
	}
}

// rises tells whether the worker holds nothing from n on.
func rises(x *Table, w, n int) bool {
	return !slices.ContainsFunc(x.Held(w), func(other int) bool { return other >= n })
}

// 19.4: as long as all is taken rising there is no ring, however many wait.
func TestNoRing(t *testing.T) {
	d, waiting := draws(7), 0
	for range 300 {
		x := New()
		for range 200 {
			e := deed{d.below(4) == 0, d.below(6), d.below(8)}
			if !e.give && !rises(x, e.w, e.n) {
				continue
			}
			do(x, e)
			if _, is := x.Waits(e.w); is {
				waiting++
			}
			if l := x.Ring(); len(l) > 0 || !x.Rising() {
				t.Fatalf("behind %v there is %v, rising: %v", e, l, x.Rising())
			}
		}
	}
	if waiting < 10000 {
		t.Errorf("%d wait alone", waiting)
	}
}
