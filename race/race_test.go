package race

import (
	"fmt"
	"math"
	"slices"
	"testing"

	"ganglion/api"
)

const (
	most  = math.MaxInt
	least = math.MinInt
	last  = api.MaxWorkers
)

// draws tells numbers that look like chance, the same ones each time.
type draws uint64

func (d *draws) next() uint64 {
	*d = *d*6364136223846793005 + 1442695040888963407
	return uint64(*d >> 32)
}

// below has a number from 0 to below n.
func (d *draws) below(n int) int {
	return int(d.next() % uint64(n))
}

// worker has few workers, and now and then the last one, or one that there is not.
func (d *draws) worker() int {
	if d.below(12) == 0 {
		return []int{last, last, last - 1, last + 1, -1, least, most, 1 << 32}[d.below(8)]
	}
	return d.below(4)
}

// place has few places, and now and then those at both ends.
func (d *draws) place() int {
	if d.below(8) == 0 {
		return []int{-1, least, most, 1 << 32}[d.below(4)]
	}
	return d.below(2)
}

// The kinds of things that a worker does.
const (
	load = iota
	store
	swap
	read
	write
	kinds
)

// deed is what a worker does to a place, atomic or of data.
type deed struct{ kind, w, place int }

// deed has all kinds, reads and writes more often than not.
func (d *draws) deed() deed {
	return deed{[]int{load, store, swap, read, read, write}[d.below(6)], d.worker(), d.place()}
}

// do lets the watch see it, and tells what it answers, true where it answers nothing.
func do(x *Watch, e deed) bool {
	switch e.kind {
	case load:
		x.Load(e.w, e.place)
	case store:
		x.Store(e.w, e.place)
	case swap:
		x.Swap(e.w, e.place)
	case read:
		return x.Read(e.w, e.place)
	case write:
		return x.Write(e.w, e.place)
	}
	return true
}

// access is that of a read or a write.
func access(e deed) api.Access {
	return api.Access{Worker: e.w, Place: e.place, Write: e.kind == write}
}

// clash is one of two reads or writes.
func clash(first, second deed) api.Clash {
	return api.Clash{First: access(first), Second: access(second)}
}

// row has a number for each worker.
type row [last + 1]int

// written is the last write of a place of data, if there is one, and the reads behind it, by workers, 0 where there is none.
type written struct {
	is       bool
	by, time int
	reads    row
}

// said is a watch by the document's words.
type said struct {
	clocks  [last + 1]row
	places  map[int]row
	data    map[int]written
	clashes []api.Clash
}

func newSaid() *said {
	s := &said{places: map[int]row{}, data: map[int]written{}}
	for w := range s.clocks {
		s.clocks[w][w] = 1
	}
	return s
}

// clockOf is a worker's clock, short.
func (s *said) clockOf(w int) []int {
	c := s.clocks[w][:]
	for len(c) > 0 && c[len(c)-1] == 0 {
		c = c[:len(c)-1]
	}
	return c
}

func (s *said) do(e deed) bool {
	if e.w < 0 || e.w > last {
		return true
	}
	switch e.kind {
	case load:
		s.load(e)
	case store:
		s.store(e)
	case swap:
		s.load(e)
		s.store(e)
	default:
		first, is := s.clashing(e)
		if is {
			s.clashes = append(s.clashes, api.Clash{First: first, Second: access(e)})
		}
		s.noted(e)
		return !is
	}
	return true
}

func (s *said) load(e deed) {
	for w, n := range s.places[e.place] {
		s.clocks[e.w][w] = max(s.clocks[e.w][w], n)
	}
}

func (s *said) store(e deed) {
	s.places[e.place] = s.clocks[e.w]
	s.clocks[e.w][e.w]++
}

// clashing is the access that e clashes with, if there is one.
func (s *said) clashing(e deed) (api.Access, bool) {
	d := s.data[e.place]
	if d.is && d.by != e.w && s.clocks[e.w][d.by] < d.time {
		return api.Access{Worker: d.by, Place: e.place, Write: true}, true
	}
	if e.kind == write {
		for w, time := range d.reads {
			if time > 0 && w != e.w && s.clocks[e.w][w] < time {
				return api.Access{Worker: w, Place: e.place}, true
			}
		}
	}
	return api.Access{}, false
}

func (s *said) noted(e deed) {
	d := s.data[e.place]
	time := s.clocks[e.w][e.w]
	if e.kind == write {
		d = written{is: true, by: e.w, time: time}
	} else {
		d.reads[e.w] = time
	}
	s.data[e.place] = d
}

// checkRun fails unless a watch that sees all this, one behind the other, tells just these clashes, each of them when its second access comes.
func checkRun(t *testing.T, deeds []deed, want ...api.Clash) {
	t.Helper()
	x, told := New(), 0
	for i, e := range deeds {
		ok := do(x, e)
		got := x.Clashes()
		if !ok {
			told++
		}
		if len(got) != told || !ok && got[told-1].Second != access(e) {
			t.Errorf("%v: %d answers %v, and there are %v", deeds, i, ok, got)
		}
	}
	if got := x.Clashes(); !slices.Equal(got, want) {
		t.Errorf("%v: there are %v, want %v", deeds, got, want)
	}
}

// checkClock fails unless a worker's clock is just that.
func checkClock(t *testing.T, x *Watch, w int, want ...int) {
	t.Helper()
	if got := x.Clock(w); !slices.Equal(got, want) {
		t.Errorf("Clock(%d) = %v, want %v", w, got, want)
	}
}

// knowing is a clock of which worker w's number is n, and some others are those.
func knowing(w, n int, others ...int) []int {
	c := append(slices.Clone(others), make([]int, w+1)...)[:max(w+1, len(others))]
	c[w] = n
	return c
}

// 18.3: at first each worker knows of itself alone, and there are no clashes.
func TestNew(t *testing.T) {
	x := New()
	for w := range last + 1 {
		checkClock(t, x, w, knowing(w, 1)...)
	}
	if got := x.Clashes(); len(got) != 0 {
		t.Errorf("there are %v", got)
	}
}

// 18.1: a store tells what its worker knows, and then that one's time goes on; a load joins that.
func TestLoadAndStore(t *testing.T) {
	x := New()
	x.Load(1, 5)
	checkClock(t, x, 1, 0, 1)
	x.Store(0, 5)
	checkClock(t, x, 0, 2)
	checkClock(t, x, 1, 0, 1)
	x.Load(1, 5)
	checkClock(t, x, 1, 1, 1)
	x.Load(1, 5)
	x.Load(0, 5)
	checkClock(t, x, 1, 1, 1)
	checkClock(t, x, 0, 2)
	// What is told goes on by others, but not what they got to know behind it.
	x.Store(1, 6)
	x.Store(2, 7)
	x.Load(1, 7)
	x.Load(3, 6)
	checkClock(t, x, 1, 1, 2, 1)
	checkClock(t, x, 3, 1, 1, 0, 1)
	// A store lets a place forget what it told.
	x.Store(4, 5)
	x.Load(5, 5)
	checkClock(t, x, 5, 0, 0, 0, 0, 1, 1)
	x.Store(0, 5)
	x.Store(0, 5)
	x.Load(5, 5)
	checkClock(t, x, 5, 3, 0, 0, 0, 1, 1)
	checkClock(t, x, 0, 4)
}

// 18.1: a swap joins what the place told, and lets it tell that, too.
func TestSwap(t *testing.T) {
	x := New()
	x.Swap(2, 5)
	checkClock(t, x, 2, 0, 0, 2)
	x.Swap(0, 5)
	checkClock(t, x, 0, 2, 0, 1)
	x.Swap(1, 5)
	checkClock(t, x, 1, 1, 2, 1)
	x.Load(3, 5)
	checkClock(t, x, 3, 1, 1, 1, 1)
	x.Store(4, 5)
	x.Swap(2, 5)
	x.Load(6, 5)
	checkClock(t, x, 2, 0, 0, 3, 0, 1)
	checkClock(t, x, 6, 0, 0, 2, 0, 1, 0, 1)
}

// 18.1: any number is an atomic place of its own, and none has to do with data of that number.
func TestPlaces(t *testing.T) {
	places := []int{0, 1, -1, least, most, 1 << 32, last, last + 1, api.MaxCap + 1}
	x := New()
	for i, place := range places {
		x.Store(i, place)
	}
	for i, place := range places {
		x.Load(20, place)
		if !x.Write(i, place) || x.Read(i+1, place) {
			t.Errorf("place %d has to do with data", place)
		}
		checkClock(t, x, 20, knowing(20, 1, slices.Repeat([]int{1}, i+1)...)...)
	}
	if got := x.Clashes(); len(got) != len(places) {
		t.Errorf("there are %v", got)
	}
}

// 18.2: a read clashes with the last write of another worker that its own does not know; the first two rows are example 1.
func TestRead(t *testing.T) {
	w0, w1 := deed{write, 0, 9}, deed{write, 1, 9}
	r0, r1, r2 := deed{read, 0, 9}, deed{read, 1, 9}, deed{read, 2, 9}
	out, in := deed{store, 0, 5}, deed{load, 1, 5}
	for _, c := range []struct {
		deeds []deed
		want  []api.Clash
	}{
		{[]deed{w0, r1}, []api.Clash{clash(w0, r1)}},
		{[]deed{w0, out, in, r1}, nil},
		{[]deed{r1}, nil},
		{[]deed{r0, r1, r2, r0}, nil},
		{[]deed{w0, r0, r0}, nil},
		{[]deed{w0, r1, r1, r2, r0}, []api.Clash{clash(w0, r1), clash(w0, r1), clash(w0, r2)}},
		{[]deed{w0, {write, 0, 8}, r1}, []api.Clash{clash(w0, r1)}},
		{[]deed{{write, 0, 8}, r1}, nil},
		// What is told ahead of the write, or at another place, or by another worker, or is heard too late, does not help.
		{[]deed{out, w0, in, r1}, []api.Clash{clash(w0, r1)}},
		{[]deed{w0, out, {load, 1, 6}, r1}, []api.Clash{clash(w0, r1)}},
		{[]deed{w0, out, {load, 2, 5}, r1, r2}, []api.Clash{clash(w0, r1)}},
		{[]deed{w0, {store, 2, 5}, in, r1}, []api.Clash{clash(w0, r1)}},
		{[]deed{w0, in, out, r1}, []api.Clash{clash(w0, r1)}},
		{[]deed{w0, out, r1, in, r1}, []api.Clash{clash(w0, r1)}},
		{[]deed{w0, out, {store, 2, 5}, in, r1}, []api.Clash{clash(w0, r1)}},
		{[]deed{w0, {load, 0, 5}, in, r1}, []api.Clash{clash(w0, r1)}},
		// It does where it was told once, whatever comes behind, by way of others, or by swaps.
		{[]deed{w0, out, out, in, r1}, nil},
		{[]deed{w0, out, in, out, r1}, nil},
		{[]deed{w0, out, {load, 2, 5}, {store, 2, 6}, {load, 1, 6}, r1}, nil},
		{[]deed{w0, out, {swap, 2, 5}, in, r1}, nil},
		{[]deed{w0, {swap, 0, 5}, {swap, 1, 5}, r1}, nil},
		{[]deed{w0, {swap, 0, 5}, {swap, 2, 5}, {swap, 3, 5}, {swap, 1, 5}, r1, r2}, nil},
		// The last write alone counts, though it clashed, too.
		{[]deed{w0, w1, r0, r1}, []api.Clash{clash(w0, w1), clash(w1, r0)}},
		{[]deed{w0, w1, {store, 1, 5}, {load, 2, 5}, r2}, []api.Clash{clash(w0, w1)}},
		{[]deed{w0, out, w0, in, r1}, []api.Clash{clash(w0, r1)}},
	} {
		checkRun(t, c.deeds, c.want...)
	}
}

// 18.2: a write clashes with the last write, or else with the reads behind it, of another worker that its own does not know.
func TestWrite(t *testing.T) {
	w0, w1, w2 := deed{write, 0, 9}, deed{write, 1, 9}, deed{write, 2, 9}
	r0, r1, r2, r3 := deed{read, 0, 9}, deed{read, 1, 9}, deed{read, 2, 9}, deed{read, 3, 9}
	out, in := deed{store, 0, 5}, deed{load, 1, 5}
	for _, c := range []struct {
		deeds []deed
		want  []api.Clash
	}{
		{[]deed{w0}, nil},
		{[]deed{w0, w0, r0, w0}, nil},
		{[]deed{w0, w1}, []api.Clash{clash(w0, w1)}},
		{[]deed{w0, out, in, w1}, nil},
		{[]deed{r0, w1}, []api.Clash{clash(r0, w1)}},
		{[]deed{r0, out, in, w1}, nil},
		{[]deed{out, r0, in, w1}, []api.Clash{clash(r0, w1)}},
		{[]deed{r0, {write, 1, 8}, {write, 0, 8}}, []api.Clash{clash(deed{write, 1, 8}, deed{write, 0, 8})}},
		{[]deed{r0, r0, w0}, nil},
		// Of several reads that of the least worker; of a write and reads the write.
		{[]deed{r3, r2, w0}, []api.Clash{clash(r2, w0)}},
		{[]deed{r0, r3, r2, out, in, w1}, []api.Clash{clash(r2, w1)}},
		{[]deed{r2, r1, r0, w0}, []api.Clash{clash(r1, w0)}},
		{[]deed{r1, r3, w1}, []api.Clash{clash(r3, w1)}},
		{[]deed{w2, r0, r1, w1}, []api.Clash{clash(w2, r0), clash(w2, r1), clash(w2, w1)}},
		{[]deed{w2, r2, {store, 2, 4}, {load, 0, 4}, r0, {load, 1, 4}, w1}, []api.Clash{clash(r0, w1)}},
		// Of a worker's reads the last one counts.
		{[]deed{r0, out, r0, in, w1}, []api.Clash{clash(r0, w1)}},
		{[]deed{r0, out, r0, out, in, w1}, nil},
		// Reads ahead of a write count no more, nor does a write ahead of another one.
		{[]deed{r0, w1, {store, 1, 6}, {load, 2, 6}, w2}, []api.Clash{clash(r0, w1)}},
		{[]deed{r0, r2, w1, w1}, []api.Clash{clash(r0, w1)}},
		{[]deed{w0, w1, w0, w2}, []api.Clash{clash(w0, w1), clash(w1, w0), clash(w0, w2)}},
		{[]deed{w0, out, in, w1, w0}, []api.Clash{clash(w1, w0)}},
		// A read that clashed is noted all the same.
		{[]deed{w0, r1, out, {load, 2, 5}, w2}, []api.Clash{clash(w0, r1), clash(r1, w2)}},
	} {
		checkRun(t, c.deeds, c.want...)
	}
}

// 18.2: any number is a place of data of its own.
func TestData(t *testing.T) {
	places := []int{0, 1, -1, least, most, 1 << 32, api.MaxCap}
	x := New()
	for i, place := range places {
		if !x.Write(i, place) {
			t.Errorf("data %d are those of others", place)
		}
	}
	for i, place := range places {
		if x.Read(40, place) || !x.Read(i, place) {
			t.Errorf("data %d are not told apart", place)
		}
		first, second := api.Access{Worker: i, Place: place, Write: true}, api.Access{Worker: 40, Place: place}
		if got := x.Clashes(); len(got) != i+1 || got[i] != (api.Clash{First: first, Second: second}) {
			t.Errorf("there are %v", got)
		}
	}
}

// 18.1 to 18.3: the last worker is one like any other.
func TestLastWorker(t *testing.T) {
	w, r, in := deed{write, last, 1}, deed{read, last, 1}, deed{write, last - 1, 1}
	checkRun(t, []deed{w, in}, clash(w, in))
	checkRun(t, []deed{r, in}, clash(r, in))
	checkRun(t, []deed{in, r}, clash(in, r))
	checkRun(t, []deed{w, {store, last, 2}, {load, last - 1, 2}, in})
	x := New()
	x.Store(last, 2)
	x.Swap(0, 2)
	checkClock(t, x, last, knowing(last, 2)...)
	checkClock(t, x, 0, knowing(last, 1, 2)...)
}

// 18.3: of a worker that there is none of nothing happens, and it is true.
func TestNoSuchWorker(t *testing.T) {
	for _, none := range []int{-1, last + 1, last + 2, least, most, 1 << 32, least + 1} {
		x := New()
		x.Store(0, 5)
		x.Write(0, 9)
		for kind := range kinds {
			for place := range 10 {
				if !do(x, deed{kind, none, place}) {
					t.Errorf("worker %d clashes", none)
				}
			}
		}
		checkClock(t, x, none)
		// The place tells what it did, and nobody else wrote, or read.
		x.Load(1, 5)
		checkClock(t, x, 1, 1, 1)
		if x.Read(1, 9) || !x.Read(0, 9) || !x.Write(1, 8) {
			t.Errorf("worker %d has left something", none)
		}
		for w := range last + 1 {
			if w > 1 {
				checkClock(t, x, w, knowing(w, 1)...)
			}
		}
		want := clash(deed{write, 0, 9}, deed{read, 1, 9})
		if got := x.Clashes(); !slices.Equal(got, []api.Clash{want}) {
			t.Errorf("there are %v, want %v", got, want)
		}
	}
}

// 18.3: of a nil watch nothing happens, it is true, and nothing is told.
func TestNilWatch(t *testing.T) {
	var x *Watch
	for _, w := range []int{0, 1, 0, last, last + 1, -1, least, most} {
		for kind := range kinds {
			if !do(x, deed{kind, w, 1}) {
				t.Errorf("worker %d clashes", w)
			}
		}
		checkClock(t, x, w)
		if got := x.Clashes(); len(got) != 0 {
			t.Errorf("there are %v", got)
		}
	}
}

// 18.3: what is told is new each time, and watches have nothing to do with each other.
func TestAnswersAreNew(t *testing.T) {
	x, other := New(), New()
	for _, e := range []deed{{write, 0, 9}, {store, 0, 5}, {write, 1, 9}, {load, 1, 5}, {store, 1, 6}, {read, 3, 9}, {swap, 2, 5}} {
		do(x, e)
	}
	tell := func() string {
		return fmt.Sprint(x.Clashes(), x.Clock(0), x.Clock(1), x.Clock(2), x.Clock(last))
	}
	before := tell()
	for w := range last + 1 {
		c := x.Clock(w)
		for i := range c[:cap(c)] {
			c[:cap(c)][i] = 77
		}
	}
	l := x.Clashes()
	clear(l[:cap(l)])
	if after := tell(); after != before {
		t.Errorf("it tells %s, and told %s", after, before)
	}
	x.Load(4, 5)
	x.Load(4, 6)
	checkClock(t, x, 4, 1, 1, 1, 0, 1)
	// Nor does an answer change by what comes behind it.
	told, clocks := x.Clashes(), x.Clock(4)
	was := fmt.Sprint(told, clocks)
	x.Store(4, 1)
	x.Read(4, 9)
	x.Read(5, 9)
	if now := fmt.Sprint(told, clocks); now != was {
		t.Errorf("%s became %s", was, now)
	}
	checkClock(t, other, 0, 1)
	if !other.Write(2, 9) || len(other.Clashes()) != 0 {
		t.Errorf("watches are not apart: %v", other.Clashes())
	}
}

// 18.1 to 18.3: all that many workers may do, held against the document's words.
func TestOfMany(t *testing.T) {
	d, clashes, quiet := draws(1), 0, 0
	for range 3000 {
		x, s := New(), newSaid()
		for range 5 + d.below(60) {
			e := d.deed()
			before := fmt.Sprint(x.Clashes())
			if got, want := do(x, e), s.do(e); got != want {
				t.Fatalf("%v answers %v, behind %s", e, got, before)
			} else if e.kind >= read && got && want {
				quiet++
			}
			if got := x.Clashes(); !slices.Equal(got, s.clashes) {
				t.Fatalf("behind %v there are %v, want %v", e, got, s.clashes)
			}
		}
		clashes += len(s.clashes)
		for w := range last + 1 {
			checkClock(t, x, w, s.clockOf(w)...)
		}
		if t.Failed() {
			return
		}
	}
	if clashes < 10000 || quiet < 10000 {
		t.Errorf("there are %d clashes alone, %d are none", clashes, quiet)
	}
}

// ordered tells of each two deeds, by their places, whether something orders the first one ahead of the second.
func ordered(deeds []deed) [][]bool {
	before := make([][]bool, len(deeds))
	for i := range deeds {
		before[i] = make([]bool, len(deeds))
	}
	for second := range deeds {
		for first := range second {
			if !orders(deeds, first, second) {
				continue
			}
			// What is ahead of the first one is known by now, since deeds are gone through in order.
			before[first][second] = true
			for ahead := range first {
				before[ahead][second] = before[ahead][second] || before[ahead][first]
			}
		}
	}
	return before
}

// orders tells whether the first one alone orders the second: it is the same worker's, or a store that is loaded ahead of the next one.
func orders(deeds []deed, first, second int) bool {
	a, b := deeds[first], deeds[second]
	if a.w == b.w {
		return true
	}
	stores := func(e deed) bool { return e.place == a.place && (e.kind == store || e.kind == swap) }
	loads := b.place == a.place && (b.kind == load || b.kind == swap)
	return stores(a) && loads && !slices.ContainsFunc(deeds[first+1:second], stores)
}

// pairs has each two accesses of one place of data, one of them a write, that nothing orders, by the second one's place.
func pairs(deeds []deed) map[int][]api.Clash {
	before, l := ordered(deeds), map[int][]api.Clash{}
	for second, b := range deeds {
		for first, a := range deeds[:second] {
			data := a.kind >= read && b.kind >= read && a.place == b.place
			if data && (a.kind == write || b.kind == write) && !before[first][second] {
				l[second] = append(l[second], clash(a, b))
			}
		}
	}
	return l
}

// checkJustSo fails unless the first clash comes with the first access that nothing orders behind another one, and is of such two; it tells whether there is one.
func checkJustSo(t *testing.T, deeds []deed) bool {
	t.Helper()
	x, l := New(), pairs(deeds)
	for i, e := range deeds {
		ok := do(x, e)
		if ok != (len(l[i]) == 0) {
			t.Errorf("%v: %d answers %v, and nothing orders %v", deeds, i, ok, l[i])
		}
		if len(x.Clashes()) > 0 {
			if !slices.Contains(l[i], x.Clashes()[0]) {
				t.Errorf("%v: there is %v, and nothing orders %v", deeds, x.Clashes(), l[i])
			}
			return true
		}
	}
	return false
}

// 18.4: there is a clash just if nothing orders two accesses; of few deeds all that there may be.
func TestJustSoOfFew(t *testing.T) {
	var all []deed
	for kind := range kinds {
		for w := range 3 {
			all = append(all, deed{kind, w, 0})
		}
	}
	clashes := 0
	var grow func(deeds []deed)
	grow = func(deeds []deed) {
		if checkJustSo(t, deeds) {
			clashes++
		}
		if len(deeds) == 4 || t.Failed() {
			return
		}
		for _, e := range all {
			grow(append(slices.Clone(deeds), e))
		}
	}
	grow(nil)
	if clashes < 10000 && !t.Failed() {
		t.Errorf("there are %d clashes alone", clashes)
	}
}

// tidy is a deed that is mostly one of a worker that took what guards the data: 0 by swaps, 1 by loads and stores.
func (d *draws) tidy(deeds []deed) []deed {
	w, place := d.below(4), d.below(2)
	in := deed{[]int{swap, load}[place], w, place}
	access := deed{read + d.below(2), w, place}
	whole := []deed{in, access, access, {store, w, place}}
	if d.below(24) == 0 {
		at := d.below(len(whole))
		whole = slices.Delete(whole, at, at+1)
	}
	return append(deeds, whole...)
}

// 18.4: likewise of many, some of which are in good order.
func TestJustSoOfMany(t *testing.T) {
	d, clashes, quiet := draws(3), 0, 0
	for n := range 20000 {
		var deeds []deed
		for len(deeds) < 28 {
			if n%2 == 0 {
				deeds = d.tidy(deeds)
			} else {
				deeds = append(deeds, deed{d.below(kinds), d.below(3), d.below(3)})
			}
		}
		if checkJustSo(t, deeds) {
			clashes++
		} else {
			quiet++
		}
		if t.Failed() {
			return
		}
	}
	if clashes < 5000 || quiet < 2000 {
		t.Errorf("there are clashes in %d, and in %d none", clashes, quiet)
	}
}

// 18.1 to 18.3: all workers, one behind the other, many times, with a mutex; and then without.
func TestLongRun(t *testing.T) {
	const rounds = 200
	x := New()
	for range rounds {
		for w := range last + 1 {
			x.Load(w, 0)
			if !x.Read(w, w%7) || !x.Write(w, w%7) {
				t.Fatalf("worker %d clashes", w)
			}
			x.Store(w, 0)
		}
	}
	for w := range last + 1 {
		want := append(slices.Repeat([]int{rounds}, w), rounds+1)
		checkClock(t, x, w, append(want, slices.Repeat([]int{rounds - 1}, last-w)...)...)
	}
	for w := range last + 1 {
		if x.Write(w, 100) != (w == 0) || x.Read(w, 101) != true {
			t.Errorf("of worker %d it is not so", w)
		}
	}
	if x.Write(last, 101) || len(x.Clashes()) != last+1 {
		t.Errorf("there are %d", len(x.Clashes()))
	}
}
