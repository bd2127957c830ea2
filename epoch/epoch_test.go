package epoch

import (
	"fmt"
	"math"
	"slices"
	"testing"

	"ganglion/api"
)

const (
	most  = math.MaxInt
	least = math.MinInt
)

// draws tells numbers that look like chance, the same ones each time.
type draws uint64

func (d *draws) next() uint64 {
	*d = *d*6364136223846793005 + 1442695040888963407
	return uint64(*d >> 32)
}

// below has a number from 0 to below n.
func (d *draws) below(n int) int {
	return int(d.next() % uint64(n))
}

// The kinds of things that are done to a clock.
const (
	load = iota
	pin
	unpin
	retire
	look
	free
	kinds
)

// deed is one of them, with the worker, or the slot.
type deed struct{ kind, n int }

// do lets the clock do it, and tells what it answers.
func do(c *Clock, e deed) string {
	switch e.kind {
	case load:
		return fmt.Sprint(c.Load(e.n))
	case pin:
		return fmt.Sprint(c.Pin(e.n))
	case unpin:
		return fmt.Sprint(c.Unpin(e.n))
	case retire:
		return fmt.Sprint(c.Retire(e.n))
	case look:
		return fmt.Sprint(c.Look())
	}
	return fmt.Sprint(c.Free())
}

// said is a clock by the document's words.
type said struct {
	epoch, looked int
	loaded, recs  []int
	limbo         []api.Ref
}

func newSaid(workers int) *said {
	return &said{loaded: make([]int, workers), recs: make([]int, workers)}
}

// has tells whether there is such a worker.
func (s *said) has(w int) bool {
	return w >= 0 && w < len(s.recs)
}

func (s *said) do(e deed) string {
	is := false
	switch e.kind {
	case load:
		if !s.has(e.n) {
			return "0"
		}
		s.loaded[e.n] = s.epoch
		return fmt.Sprint(s.epoch)
	case pin:
		if is = s.has(e.n) && s.recs[e.n] == 0; is {
			s.recs[e.n] = s.loaded[e.n] + 1
		}
	case unpin:
		if is = s.has(e.n) && s.recs[e.n] != 0; is {
			s.recs[e.n] = 0
		}
	case retire:
		is = true
		for _, r := range s.limbo {
			is = is && r.Slot != e.n
		}
		if is {
			s.limbo = append(s.limbo, api.Ref{Slot: e.n, Gen: s.epoch})
		}
	case look:
		is = s.look()
	case free:
		return fmt.Sprint(s.free())
	}
	return fmt.Sprint(is)
}

func (s *said) look() bool {
	rec := s.recs[s.looked]
	stands := rec != 0 && rec != s.epoch+1
	over := !stands && s.looked == len(s.recs)-1
	if stands || over {
		s.looked = 0
	} else {
		s.looked++
	}
	if over {
		s.epoch++
	}
	return over
}

func (s *said) free() []int {
	var freed []int
	var stays []api.Ref
	for _, r := range s.limbo {
		if r.Gen+2 <= s.epoch {
			freed = append(freed, r.Slot)
		} else {
			stays = append(stays, r)
		}
	}
	s.limbo = stays
	return freed
}

// newClock is a clock for so many workers; the test fails, if there is none.
func newClock(t *testing.T, workers int) *Clock {
	t.Helper()
	c, why := New(workers)
	if c == nil || why != api.OK {
		t.Fatalf("New(%d) = %v, %v", workers, c, why)
	}
	return c
}

// tells fails unless the clock tells just what is said.
func tells(t *testing.T, c *Clock, s *said) {
	t.Helper()
	if got := c.Epoch(); got != s.epoch {
		t.Errorf("Epoch() = %d, want %d", got, s.epoch)
	}
	for w := -1; w <= len(s.recs); w++ {
		want := 0
		if s.has(w) {
			want = s.recs[w]
		}
		if got := c.Rec(w); got != want {
			t.Errorf("Rec(%d) = %d, want %d", w, got, want)
		}
	}
	if got := c.Limbo(); !slices.Equal(got, s.limbo) {
		t.Errorf("Limbo() = %v, want %v", got, s.limbo)
	}
}

// checkRun fails unless a clock for so many workers, of which all this is asked, answers just that, one behind the other.
func checkRun(t *testing.T, workers int, deeds []deed, want ...string) *Clock {
	t.Helper()
	c := newClock(t, workers)
	for i, e := range deeds {
		if got := do(c, e); got != want[i] {
			t.Errorf("%v: %d answers %s, want %s", deeds, i, got, want[i])
		}
	}
	return c
}

// looks lets the clock look so often.
func looks(c *Clock, times int) {
	for range times {
		c.Look()
	}
}

// checkLimbo fails unless this is retired: slots and epochs in turns.
func checkLimbo(t *testing.T, c *Clock, want ...int) {
	t.Helper()
	var got []int
	for _, r := range c.Limbo() {
		got = append(got, r.Slot, r.Gen)
	}
	if !slices.Equal(got, want) {
		t.Errorf("Limbo() = %v, want %v", got, want)
	}
}

// 20.1: there may be from 1 to MaxWorkers workers; at first the epoch is 0, nobody is pinned, and nothing is retired.
func TestNew(t *testing.T) {
	for _, n := range []int{0, -1, api.MaxWorkers + 1, least, most, 1 << 32, 1<<32 + 1} {
		if c, why := New(n); c != nil || why != api.ErrRange {
			t.Errorf("New(%d) = %v, %v", n, c, why)
		}
	}
	for _, n := range []int{1, 2, api.MaxWorkers - 1, api.MaxWorkers} {
		c := newClock(t, n)
		tells(t, c, newSaid(n))
		if !c.Pin(n-1) || c.Pin(n) || c.Rec(n-1) != 1 {
			t.Errorf("of %d there are not so many", n)
		}
	}
}

// 20.1: a record is what its worker loaded last, and 1, however long ago that was.
func TestPin(t *testing.T) {
	c := newClock(t, 3)
	if !c.Pin(1) || c.Rec(1) != 1 || c.Rec(0) != 0 || c.Rec(2) != 0 {
		t.Errorf("the records are %d %d %d", c.Rec(0), c.Rec(1), c.Rec(2))
	}
	if c.Pin(1) || c.Rec(1) != 1 || !c.Unpin(1) || c.Rec(1) != 0 || c.Unpin(1) || c.Unpin(0) {
		t.Errorf("the record is %d", c.Rec(1))
	}
	looks(c, 6)
	if c.Epoch() != 2 || c.Load(1) != 2 || c.Load(1) != 2 || c.Rec(1) != 0 {
		t.Errorf("the epoch is %d, the record %d", c.Epoch(), c.Rec(1))
	}
	looks(c, 3)
	// 1 loaded 2, 2 loads 3, and 0 loaded nothing.
	if c.Load(2) != 3 || !c.Pin(0) || !c.Pin(1) || !c.Pin(2) {
		t.Error("it can't be pinned")
	}
	if c.Rec(0) != 1 || c.Rec(1) != 3 || c.Rec(2) != 4 {
		t.Errorf("the records are %d %d %d", c.Rec(0), c.Rec(1), c.Rec(2))
	}
	// What is loaded by one that is pinned counts for the next time alone.
	if c.Load(0) != 3 || c.Rec(0) != 1 || c.Pin(0) || c.Rec(0) != 1 || !c.Unpin(0) || !c.Pin(0) || c.Rec(0) != 4 {
		t.Errorf("the record is %d", c.Rec(0))
	}
	// It was loaded once, for as often as it is pinned.
	if !c.Unpin(1) || !c.Pin(1) || c.Rec(1) != 3 || c.Rec(2) != 4 {
		t.Errorf("the record is %d", c.Rec(1))
	}
}

// 20.2: a slot is retired once, with the epoch then, till it is freed.
func TestRetire(t *testing.T) {
	c := newClock(t, 1)
	if !c.Retire(5) || c.Retire(5) || !c.Retire(3) {
		t.Error("it is not retired once")
	}
	checkLimbo(t, c, 5, 0, 3, 0)
	c.Look()
	if c.Retire(3) || !c.Retire(4) || c.Retire(5) {
		t.Error("it is not retired once")
	}
	checkLimbo(t, c, 5, 0, 3, 0, 4, 1)
	c.Look()
	if c.Retire(3) || !slices.Equal(c.Free(), []int{5, 3}) {
		t.Error("it is freed too soon, or not at all")
	}
	checkLimbo(t, c, 4, 1)
	if c.Retire(4) || !c.Retire(3) || c.Retire(3) || !c.Retire(5) {
		t.Error("what was freed is retired, or what was not is not")
	}
	checkLimbo(t, c, 4, 1, 3, 2, 5, 2)
	// Any number is a slot of its own.
	odd := []int{0, -1, least, most, api.MaxCap, api.MaxCap + 1, 1 << 32}
	for _, slot := range odd {
		if !c.Retire(slot) || c.Retire(slot) {
			t.Errorf("%d is not retired once", slot)
		}
	}
	looks(c, 2)
	if got := c.Free(); !slices.Equal(got, append([]int{4, 3, 5}, odd...)) {
		t.Errorf("freed is %v", got)
	}
	checkLimbo(t, c)
}

// 20.2: the epoch is one more behind a look at each record, none of which stands in the way; else it begins anew.
func TestLook(t *testing.T) {
	l, begin := deed{kind: look}, []deed{{look, 0}, {look, 0}, {look, 0}}
	for _, c := range []struct {
		workers int
		deeds   []deed
		want    []string
		epoch   int
	}{
		{1, []deed{l, l, l}, []string{"true", "true", "true"}, 3},
		{3, []deed{l, l, l, l, l, l, l}, []string{"false", "false", "true", "false", "false", "true", "false"}, 2},
		// A record that is the epoch and 1 stands in no one's way; but behind that it does.
		{1, []deed{{pin, 0}, l, l, l, {unpin, 0}, l}, []string{"true", "true", "false", "false", "true", "true"}, 2},
		{2, []deed{{pin, 1}, l, l, l, l, l, l}, []string{"true", "false", "true", "false", "false", "false", "false"}, 1},
		// It begins anew with the first one, when the second one stood in the way.
		{2, []deed{{pin, 1}, l, l, l, l, {pin, 0}, {unpin, 1}, l, l}, []string{"true", "false", "true", "false", "false", "true", "true", "false", "false"}, 1},
		{2, []deed{{pin, 1}, l, l, l, l, {unpin, 1}, l, l}, []string{"true", "false", "true", "false", "false", "true", "false", "true"}, 2},
		{2, []deed{{pin, 0}, l, l, l, {unpin, 0}, l, l}, []string{"true", "false", "true", "false", "true", "false", "true"}, 2},
		// Who is looked at already may be pinned in the old epoch; it stands in the way of the next one.
		{2, []deed{l, {pin, 0}, l, l, {unpin, 0}, {load, 0}, {pin, 0}, l, l}, []string{"false", "true", "true", "false", "true", "1", "true", "false", "true"}, 2},
		// Who pins itself by what it loaded long ago stands in the way at once.
		{1, []deed{l, {pin, 0}, l, {unpin, 0}, {load, 0}, {pin, 0}, l}, []string{"true", "true", "false", "true", "1", "true", "true"}, 2},
		{3, append(begin, deed{pin, 2}, l, l, l, deed{unpin, 2}, l, l, l), []string{"false", "false", "true", "true", "false", "false", "false", "true", "false", "false", "true"}, 2},
	} {
		if got := checkRun(t, c.workers, c.deeds, c.want...).Epoch(); got != c.epoch {
			t.Errorf("behind %v the epoch is %d, want %d", c.deeds, got, c.epoch)
		}
	}
}

// 20.2: each of the most workers there may be is looked at, the last one, too.
func TestLookAtAll(t *testing.T) {
	for w := range api.MaxWorkers {
		c := newClock(t, api.MaxWorkers)
		for i := range api.MaxWorkers {
			if c.Look() != (i == api.MaxWorkers-1) {
				t.Errorf("%d looks do something else", i+1)
			}
		}
		c.Pin(w)
		looks(c, 3*api.MaxWorkers)
		if c.Epoch() != 1 {
			t.Errorf("worker %d does not stand in the way", w)
		}
		// Each time it came to w it began anew, so the last beginning is no longer ago than that.
		c.Unpin(w)
		left := api.MaxWorkers - 3*api.MaxWorkers%(w+1)
		for i := range left {
			if c.Look() != (i == left-1) {
				t.Errorf("behind worker %d, %d looks do something else", w, i+1)
			}
		}
	}
}

// 20.3: freed is what was retired two epochs ago, or more, in order; the first row is example 1.
func TestFree(t *testing.T) {
	l, f := deed{kind: look}, deed{kind: free}
	for _, c := range []struct {
		deeds []deed
		want  []string
	}{
		{[]deed{{retire, 7}, l, l, f, f}, []string{"true", "true", "true", "[7]", "[]"}},
		{[]deed{f, l, l, l, f}, []string{"[]", "true", "true", "true", "[]"}},
		{[]deed{{retire, 7}, f, l, f, l, f}, []string{"true", "[]", "true", "[]", "true", "[7]"}},
		{[]deed{{retire, 7}, l, l, l, l, f}, []string{"true", "true", "true", "true", "true", "[7]"}},
		{[]deed{{retire, 7}, {retire, 2}, {retire, 5}, l, l, f}, []string{"true", "true", "true", "true", "true", "[7 2 5]"}},
		{[]deed{{retire, 7}, l, {retire, 2}, l, f, l, f}, []string{"true", "true", "true", "true", "[7]", "true", "[2]"}},
		{[]deed{{retire, 7}, l, {retire, 2}, l, {retire, 1}, l, f}, []string{"true", "true", "true", "true", "true", "true", "[7 2]"}},
		{[]deed{l, l, l, {retire, 7}, f, l, f, l, f}, []string{"true", "true", "true", "true", "[]", "true", "[]", "true", "[7]"}},
		// As long as somebody stands in the way it is not.
		{[]deed{{pin, 0}, {retire, 7}, l, l, l, f, {unpin, 0}, f, l, f}, []string{"true", "true", "true", "false", "false", "[]", "true", "[]", "true", "[7]"}},
		{[]deed{{retire, 7}, l, {load, 0}, {pin, 0}, l, f}, []string{"true", "true", "1", "true", "true", "[7]"}},
	} {
		checkRun(t, 1, c.deeds, c.want...)
	}
}

// 20.3: the epoch, records and what is retired are told as they are; Load, and all that is refused, changes none of it.
func TestTold(t *testing.T) {
	c, s := newClock(t, 2), newSaid(2)
	for _, e := range []deed{{retire, 9}, {look, 0}, {look, 0}, {retire, 4}, {load, 1}, {pin, 1}, {look, 0}} {
		if got, want := do(c, e), s.do(e); got != want {
			t.Errorf("%v answers %s", e, got)
		}
		tells(t, c, s)
	}
	for _, e := range []deed{{pin, 1}, {unpin, 0}, {retire, 9}, {retire, 4}, {load, 0}, {load, 1}, {pin, 2}, {unpin, -1}, {load, 2}, {free, 0}} {
		do(c, e)
		tells(t, c, s)
	}
	// It looked at one worker, and goes on with the other.
	if !c.Look() || c.Look() || c.Look() || c.Epoch() != 2 || c.Rec(1) != 2 {
		t.Errorf("the epoch is %d", c.Epoch())
	}
}

// 20.1, 20.3: of a worker that there is none of it is 0 and false, and nothing happens.
func TestNoSuchWorker(t *testing.T) {
	for _, none := range []int{-1, 2, 3, api.MaxWorkers, least, most, 1 << 32, 1<<32 + 1} {
		c, s := newClock(t, 2), newSaid(2)
		for _, e := range []deed{{look, 0}, {look, 0}, {load, 0}, {pin, 0}, {retire, 1}} {
			do(c, e)
			s.do(e)
		}
		if c.Load(none) != 0 || c.Pin(none) || c.Unpin(none) || c.Rec(none) != 0 {
			t.Errorf("there is a worker %d", none)
		}
		tells(t, c, s)
		if c.Look() || !c.Look() || !c.Pin(1) || c.Rec(1) != 1 {
			t.Errorf("worker %d has left something", none)
		}
	}
}

// 20.3: of a nil clock: 0, false, nothing.
func TestNilClock(t *testing.T) {
	var c *Clock
	for _, i := range []int{0, 1, 0, api.MaxWorkers, -1, least, most} {
		if c.Load(i) != 0 || c.Pin(i) || c.Unpin(i) || c.Retire(i) || c.Look() {
			t.Errorf("of %d it is something", i)
		}
		if c.Epoch() != 0 || c.Rec(i) != 0 || len(c.Free()) != 0 || len(c.Limbo()) != 0 {
			t.Errorf("of %d there is something", i)
		}
	}
}

// 20.3: what is told is new each time, and clocks have nothing to do with each other.
func TestAnswersAreNew(t *testing.T) {
	c, other := newClock(t, 1), newClock(t, 1)
	for slot := range 5 {
		c.Retire(slot)
	}
	looks(c, 2)
	c.Retire(9)
	l := c.Limbo()
	clear(l[:cap(l)])
	checkLimbo(t, c, 0, 0, 1, 0, 2, 0, 3, 0, 4, 0, 9, 2)
	before := c.Limbo()
	freed := c.Free()
	all := freed[:cap(freed)]
	for i := range all {
		all[i] = 77
	}
	checkLimbo(t, c, 9, 2)
	// Nor does an answer change by what comes behind it.
	for slot := range 5 {
		c.Retire(20 + slot)
	}
	looks(c, 2)
	if fmt.Sprint(freed) != "[77 77 77 77 77]" || fmt.Sprint(before) != "[{0 0} {1 0} {2 0} {3 0} {4 0} {9 2}]" {
		t.Errorf("%v and %v", freed, before)
	}
	if got := c.Free(); !slices.Equal(got, []int{9, 20, 21, 22, 23, 24}) {
		t.Errorf("freed is %v", got)
	}
	tells(t, other, newSaid(1))
	if !other.Retire(9) || !other.Pin(0) || c.Rec(0) != 0 {
		t.Error("clocks are not apart")
	}
}

// 20.1 to 20.3: of few deeds all that there may be, held against the document's words.
func TestOfFew(t *testing.T) {
	all := []deed{{look, 0}, {free, 0}, {retire, 1}, {retire, 2}}
	for w := range 2 {
		all = append(all, deed{load, w}, deed{pin, w}, deed{unpin, w})
	}
	for workers := 1; workers <= 2; workers++ {
		var grow func(l []deed)
		grow = func(l []deed) {
			c, s := newClock(t, workers), newSaid(workers)
			for i, e := range l {
				if got, want := do(c, e), s.do(e); got != want {
					t.Errorf("%v: %d answers %s, want %s", l, i, got, want)
				}
			}
			tells(t, c, s)
			if len(l) == 5 || t.Failed() {
				return
			}
			for _, e := range all {
				grow(append(slices.Clone(l), e))
			}
		}
		grow(nil)
	}
}

// deed has all kinds, looks more often than not, and now and then a worker that there is not.
func (d *draws) deed(workers int) deed {
	kind := []int{load, pin, unpin, unpin, retire, look, look, look, look, free}[d.below(10)]
	switch {
	case kind == retire:
		return deed{kind, d.below(9)}
	case d.below(12) == 0:
		return deed{kind, []int{workers, -1, least, most}[d.below(4)]}
	}
	return deed{kind, d.below(workers)}
}

// 20.1 to 20.3: all that many workers may do, held against the document's words.
func TestOfMany(t *testing.T) {
	d, epochs, freed := draws(1), 0, 0
	for n := range 3000 {
		workers := 1 + n%4
		if n%50 == 0 {
			workers = api.MaxWorkers
		}
		c, s := newClock(t, workers), newSaid(workers)
		for range 20 + d.below(100) {
			e := d.deed(workers)
			got, want := do(c, e), s.do(e)
			if got != want {
				t.Fatalf("%v answers %s, want %s", e, got, want)
			}
			if e.kind == free && got != "[]" {
				freed++
			}
			tells(t, c, s)
		}
		epochs += c.Epoch()
		if t.Failed() {
			return
		}
	}
	if epochs < 10000 || freed < 1000 {
		t.Errorf("there are %d epochs alone, %d freed", epochs, freed)
	}
}

// seen has since when each worker is pinned (0: it is not), and since when what is retired is.
type seen struct {
	pinned  map[int]int
	retired map[int]int
}

// do lets the clock do it at that time; it fails, if something is freed that one who is pinned could see, and tells how many were not pinned long enough for that.
func (v *seen) do(t *testing.T, c *Clock, e deed, now int) int {
	t.Helper()
	younger := 0
	switch e.kind {
	case pin:
		if c.Pin(e.n) {
			v.pinned[e.n] = now
		}
	case unpin:
		if c.Unpin(e.n) {
			delete(v.pinned, e.n)
		}
	case retire:
		if c.Retire(e.n) {
			v.retired[e.n] = now
		}
	case free:
		for _, slot := range c.Free() {
			for w, since := range v.pinned {
				if since < v.retired[slot] {
					t.Errorf("%d is freed at %d, that was retired at %d; worker %d is pinned since %d", slot, now, v.retired[slot], w, since)
				}
				younger++
			}
			delete(v.retired, slot)
		}
	default:
		do(c, e)
	}
	return younger
}

// 20.4: what is freed was retired when nobody had been pinned that is pinned still.
func TestNobodyCanSeeIt(t *testing.T) {
	d, younger := draws(5), 0
	for n := range 4000 {
		workers := 1 + n%3
		c, v := newClock(t, workers), &seen{map[int]int{}, map[int]int{}}
		for now := range 150 {
			younger += v.do(t, c, d.deed(workers), now+1)
		}
		if t.Failed() {
			return
		}
	}
	if younger < 1000 {
		t.Errorf("there were %d alone that were pinned behind it", younger)
	}
}

// 20.4: whoever is pinned holds up what is retired then, whatever it loaded, and wherever the look is; it is freed behind that.
func TestPinnedHoldsUp(t *testing.T) {
	const workers = 3
	for w := range workers {
		for looked := range 2 * workers {
			for _, loads := range []bool{false, true} {
				c := newClock(t, workers)
				looks(c, looked)
				if loads {
					c.Load(w)
				}
				c.Pin(w)
				c.Retire(7)
				looks(c, 10*workers)
				if got := c.Free(); len(got) != 0 {
					t.Errorf("%v is freed, though worker %d is pinned, behind %d looks", got, w, looked)
				}
				c.Unpin(w)
				looks(c, 4*workers)
				if got := c.Free(); !slices.Equal(got, []int{7}) {
					t.Errorf("%v is freed behind worker %d", got, w)
				}
			}
		}
	}
}

// 20.2, 20.3: many slots, in many epochs.
func TestLongRun(t *testing.T) {
	const many = 200000
	c, freed := newClock(t, 1), 0
	for slot := range many {
		if !c.Retire(slot) || c.Retire(slot) || c.Retire(slot-slot%1000) {
			t.Fatalf("%d is not retired once", slot)
		}
		if slot%1000 == 999 {
			c.Look()
			for _, got := range c.Free() {
				if got != freed {
					t.Fatalf("%d is freed, want %d", got, freed)
				}
				freed++
			}
		}
	}
	if freed != many-1000 || len(c.Limbo()) != 1000 {
		t.Errorf("%d are freed, %d are retired", freed, len(c.Limbo()))
	}
}
