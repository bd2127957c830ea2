package clock

import (
	"fmt"
	"math"
	"slices"
	"testing"

	"ganglion/api"
)

const (
	most  = math.MaxInt
	least = math.MinInt
	limit = 1 << 62
	last  = api.MaxWorkers
)

// draws tells numbers that look like chance, the same ones each time.
type draws uint64

func (d *draws) next() uint64 {
	*d = *d*6364136223846793005 + 1442695040888963407
	return uint64(*d >> 32)
}

// below has a number from 0 to below n.
func (d *draws) below(n int) int {
	return int(d.next() % uint64(n))
}

// number has few numbers, and now and then those at both ends, and around the limit.
func (d *draws) number() int {
	if d.below(6) == 0 {
		return []int{least, -2, -1, limit - 1, limit, limit + 1, most}[d.below(7)]
	}
	return d.below(4)
}

// clock has few places, or about as many as there are workers, or more.
func (d *draws) clock() []int {
	c := make([]int, []int{0, 1, 2, 3, last, last + 1, last + 2, last + 9}[d.below(8)])
	for i := range c {
		if len(c) < last || d.below(20) == 0 {
			c[i] = d.number()
		}
	}
	return c
}

// near is c with few numbers changed, and places put behind, so that often none of them is greater, or none is less.
func (d *draws) near(c []int) []int {
	c = append(slices.Clone(c), make([]int, d.below(4))...)
	for range d.below(3) {
		if len(c) > 0 {
			c[d.below(len(c))] = d.number()
		}
	}
	return c
}

// worker has those that there are, and some that there are not.
func (d *draws) worker() int {
	return []int{0, 1, 2, 3, last - 1, last, last + 1, last + 2, -1, least, most, 1 << 32}[d.below(12)]
}

// numberOf is w's number by the document's words.
func numberOf(c []int, w int) int {
	if w < 0 || w > last || w >= len(c) || c[w] < 0 {
		return 0
	}
	return c[w]
}

// shortOf is the short clock, by the document's words, of the numbers that number tells.
func shortOf(number func(w int) int) []int {
	var c []int
	for w := range last + 1 {
		c = append(c, number(w))
	}
	for len(c) > 0 && c[len(c)-1] == 0 {
		c = c[:len(c)-1]
	}
	return c
}

// tickOf is Tick by the document's words.
func tickOf(c []int, w int) []int {
	return shortOf(func(other int) int {
		n := numberOf(c, other)
		if other == w && n < limit {
			n++
		}
		return n
	})
}

// joinOf is Join by the document's words.
func joinOf(a, b []int) []int {
	return shortOf(func(w int) int { return max(numberOf(a, w), numberOf(b, w)) })
}

// compareOf is Compare by the document's words.
func compareOf(a, b []int) int {
	greater, less := false, false
	for w := range last + 1 {
		greater = greater || numberOf(a, w) > numberOf(b, w)
		less = less || numberOf(a, w) < numberOf(b, w)
	}
	switch {
	case !greater && !less:
		return 0
	case !greater:
		return -1
	case !less:
		return 1
	}
	return 2
}

// far is a clock whose worker w has number n, and all others 0.
func far(w, n int) []int {
	c := make([]int, w+1)
	c[w] = n
	return c
}

// checkClock fails unless a clock is just as wanted, place by place.
func checkClock(t *testing.T, what string, got, want []int) {
	t.Helper()
	if !slices.Equal(got, want) {
		t.Errorf("%s = %v, want %v", what, got, want)
	}
}

// checkCompare fails unless a stands so to b, and b to a the other way round.
func checkCompare(t *testing.T, a, b []int, want int) {
	t.Helper()
	if got := Compare(a, b); got != want {
		t.Errorf("Compare(%v, %v) = %d, want %d", a, b, got, want)
	}
	if want < 2 {
		want = -want
	}
	if got := Compare(b, a); got != want {
		t.Errorf("Compare(%v, %v) = %d, want %d", b, a, got, want)
	}
}

// 17.1: what stands at a worker's place, if there is such a worker, and such a place, and no number below 0.
func TestAt(t *testing.T) {
	wide := slices.Repeat([]int{9}, last+3)
	for _, c := range []struct {
		clock   []int
		w, want int
	}{
		{nil, 0, 0}, {[]int{}, 0, 0}, {nil, -1, 0},
		{[]int{4, 5}, 0, 4}, {[]int{4, 5}, 1, 5}, {[]int{4, 5}, 2, 0}, {[]int{4, 5}, last, 0},
		{[]int{4, -5, 6}, 1, 0}, {[]int{4, least, 6}, 1, 0}, {[]int{4, -1, 6}, 2, 6}, {[]int{0, most}, 1, most},
		{wide, 0, 9}, {wide, last - 1, 9}, {wide, last, 9}, {wide, last + 1, 0}, {wide, last + 2, 0},
		{wide, -1, 0}, {wide, least, 0}, {wide, most, 0}, {wide, 1 << 32, 0}, {wide, least + 1, 0},
	} {
		if got := At(c.clock, c.w); got != c.want {
			t.Errorf("At(%v, %d) = %d, want %d", c.clock, c.w, got, c.want)
		}
	}
}

// 17.1: no places behind the last number that is not 0, none for a worker that there is not, and no number below 0.
func TestShort(t *testing.T) {
	wide := slices.Repeat([]int{9}, last+3)
	for _, c := range []struct{ clock, want []int }{
		{nil, nil}, {[]int{}, nil}, {[]int{0}, nil}, {[]int{0, 0, 0}, nil}, {[]int{-1, least}, nil},
		{[]int{1}, []int{1}}, {[]int{1, 0, 0}, []int{1}}, {[]int{1, 0, 2, 0}, []int{1, 0, 2}}, {[]int{0, 0, 3}, []int{0, 0, 3}},
		{[]int{1, -1, 2, -7}, []int{1, 0, 2}}, {[]int{-1, most}, []int{0, most}}, {[]int{0, limit, least}, []int{0, limit}},
		{wide[:last], wide[:last]}, {wide[:last+1], wide[:last+1]}, {wide[:last+2], wide[:last+1]}, {wide, wide[:last+1]},
		{far(last, 1), far(last, 1)}, {far(last+1, 1), nil}, {append(far(2, 1), far(last, 7)...), far(2, 1)},
		{append(far(last, -1), 5), nil},
	} {
		checkClock(t, fmt.Sprintf("Short(%v)", c.clock), Short(c.clock), c.want)
	}
}

// 17.1: one more for a worker, unless there is none, or that would be too many; and short in any case.
func TestTick(t *testing.T) {
	for _, c := range []struct {
		clock []int
		w     int
		want  []int
	}{
		{nil, 0, []int{1}}, {[]int{}, 2, []int{0, 0, 1}}, {nil, last, far(last, 1)},
		{[]int{4, 5}, 0, []int{5, 5}}, {[]int{4, 5}, 1, []int{4, 6}}, {[]int{4, 5}, 3, []int{4, 5, 0, 1}},
		{[]int{4, 5, 0, 0}, 1, []int{4, 6}}, {[]int{4, 0, 0, 0}, 2, []int{4, 0, 1}},
		{[]int{-3, -1}, 0, []int{1}}, {[]int{-3, -1, 2}, 1, []int{0, 1, 2}}, {[]int{least}, 0, []int{1}},
		{[]int{limit - 1}, 0, []int{limit}}, {[]int{limit}, 0, []int{limit}}, {[]int{limit + 1}, 0, []int{limit + 1}}, {[]int{most}, 0, []int{most}},
		{[]int{most, 1}, 1, []int{most, 2}},
		{[]int{4, 5, 0}, -1, []int{4, 5}}, {[]int{4, -5, 0}, last + 1, []int{4}}, {[]int{4}, least, []int{4}}, {[]int{4}, most, []int{4}}, {[]int{4}, 1 << 32, []int{4}},
		{nil, -1, nil}, {nil, last + 1, nil},
		{far(last+1, 7), last, far(last, 1)}, {far(last+1, 7), last + 1, nil}, {far(last, 7), last, far(last, 8)},
	} {
		checkClock(t, fmt.Sprintf("Tick(%v, %d)", c.clock, c.w), Tick(c.clock, c.w), c.want)
	}
}

// 17.1: of each worker the greater number, however long the clocks are; and short.
func TestJoin(t *testing.T) {
	for _, c := range []struct{ a, b, want []int }{
		{nil, nil, nil}, {nil, []int{0, 0}, nil}, {[]int{}, []int{-1, least}, nil},
		{[]int{1, 5}, nil, []int{1, 5}}, {[]int{1, 5}, []int{1, 5}, []int{1, 5}}, {[]int{1, 5, 0}, []int{0}, []int{1, 5}},
		{[]int{1, 5}, []int{3, 2}, []int{3, 5}}, {[]int{1}, []int{0, 0, 2}, []int{1, 0, 2}}, {[]int{4, 0, 2}, []int{1}, []int{4, 0, 2}},
		{[]int{-1, 2}, []int{-5, 1}, []int{0, 2}}, {[]int{-1, 0, -9}, []int{1, -5, least}, []int{1}}, {[]int{-1}, []int{7}, []int{7}},
		{[]int{most, limit}, []int{limit, most}, []int{most, most}},
		{far(last, 2), far(last, 3), far(last, 3)}, {far(last+1, 2), far(last+1, 3), nil}, {far(last+1, 2), []int{1}, []int{1}},
		{far(last, 2), far(last+4, 3), far(last, 2)},
	} {
		checkClock(t, fmt.Sprintf("Join(%v, %v)", c.a, c.b), Join(c.a, c.b), c.want)
		checkClock(t, fmt.Sprintf("Join(%v, %v)", c.b, c.a), Join(c.b, c.a), c.want)
	}
}

// 17.2: the same, none greater, none less, and neither; places that say nothing tell nothing. Its first row is example 1.
func TestCompare(t *testing.T) {
	for _, c := range []struct {
		a, b []int
		want int
	}{
		{[]int{1, 0}, []int{0, 1}, 2},
		{nil, nil, 0}, {nil, []int{}, 0}, {nil, []int{0, 0}, 0}, {nil, []int{-1, least}, 0}, {[]int{-2}, []int{-1}, 0},
		{[]int{1, 2}, []int{1, 2}, 0}, {[]int{1, 2}, []int{1, 2, 0, 0}, 0}, {[]int{1, -2}, []int{1}, 0},
		{nil, []int{1}, -1}, {[]int{0}, []int{0, 1}, -1}, {[]int{1, 2}, []int{1, 3}, -1}, {[]int{1, 2}, []int{4, 2}, -1}, {[]int{1, 2}, []int{2, 3}, -1},
		{[]int{1}, []int{1, 0, 1}, -1}, {[]int{-1, 1}, []int{0, 2}, -1}, {[]int{-1, 1}, []int{least, 2}, -1}, {[]int{limit}, []int{most}, -1},
		{[]int{1, 2}, []int{2, 1}, 2}, {[]int{0, 0, 1}, []int{1}, 2}, {[]int{2, 1, 1}, []int{1, 1, 2}, 2}, {[]int{0, 1}, []int{most}, 2}, {[]int{-1, 1}, []int{1, -1}, 2},
		{far(last, 1), nil, 1}, {far(last, 1), far(last, 2), -1}, {far(last, 1), []int{1}, 2},
		{far(last+1, 1), nil, 0}, {far(last+1, 1), far(last+1, 2), 0}, {far(last+1, 9), []int{1}, -1}, {append(far(last, 1), 5), append(far(last, 2), 4), -1},
	} {
		checkCompare(t, c.a, c.b, c.want)
	}
}

// 17.1 and 17.2: clocks of all kinds, held against the document's words.
func TestOfMany(t *testing.T) {
	d, met := draws(1), map[int]int{}
	for range 40000 {
		a, w := d.clock(), d.worker()
		b := d.clock()
		if d.below(2) == 0 {
			b = d.near(a)
		}
		if got, want := At(a, w), numberOf(a, w); got != want {
			t.Errorf("At(%v, %d) = %d, want %d", a, w, got, want)
		}
		checkClock(t, fmt.Sprintf("Short(%v)", a), Short(a), shortOf(func(w int) int { return numberOf(a, w) }))
		checkClock(t, fmt.Sprintf("Tick(%v, %d)", a, w), Tick(a, w), tickOf(a, w))
		checkClock(t, fmt.Sprintf("Join(%v, %v)", a, b), Join(a, b), joinOf(a, b))
		checkCompare(t, a, b, compareOf(a, b))
		met[Compare(a, b)]++
		if t.Failed() {
			return
		}
	}
	for _, how := range []int{-1, 0, 1, 2} {
		if met[how] < 2000 {
			t.Errorf("clocks that stand so: %v", met)
		}
	}
}

// few are all clocks of so many places, with numbers from 0 to below n.
func few(places, n int) [][]int {
	all := [][]int{{}}
	for range places {
		var longer [][]int
		for _, c := range all {
			for number := range n {
				longer = append(longer, append(slices.Clone(c), number))
			}
		}
		all = longer
	}
	return all
}

// noMore tells whether none of a's numbers is greater, by Compare.
func noMore(a, b []int) bool {
	how := Compare(a, b)
	return how == 0 || how == -1
}

// 17.3: a join is no less than both, and no greater than any that is: of all clocks of few numbers.
func TestLeastAboveBoth(t *testing.T) {
	all := few(3, 3)
	for _, a := range all {
		for _, b := range all {
			both := Join(a, b)
			if !noMore(a, both) || !noMore(b, both) {
				t.Fatalf("Join(%v, %v) = %v is less than one of them", a, b, both)
			}
			for _, c := range all {
				if noMore(a, c) && noMore(b, c) && !noMore(both, c) {
					t.Fatalf("Join(%v, %v) = %v, and %v is not less than either", a, b, both, c)
				}
			}
		}
	}
}

// 17.3: likewise of clocks of all kinds; a tick is above what it was, if it may be.
func TestLeastAboveMany(t *testing.T) {
	d, above := draws(2), 0
	for range 20000 {
		a := d.clock()
		b, c := d.near(a), d.near(a)
		both := Join(a, b)
		if !noMore(a, both) || !noMore(b, both) {
			t.Fatalf("Join(%v, %v) = %v is less than one of them", a, b, both)
		}
		if noMore(a, c) && noMore(b, c) {
			above++
			if !noMore(both, c) {
				t.Fatalf("Join(%v, %v) = %v, and %v is not less than either", a, b, both, c)
			}
		}
		w, want := d.worker(), 0
		if w >= 0 && w <= last && At(a, w) < limit {
			want = -1
		}
		checkCompare(t, a, Tick(a, w), want)
	}
	if above < 1000 {
		t.Errorf("%d alone are above both", above)
	}
}

// 17.1: what is handed in stays as it is, and answers are new.
func TestClocksStay(t *testing.T) {
	a := append(make([]int, 0, 80), 1, -1, 3, 0)
	b := append(make([]int, 0, 80), 1, 2, 3)
	tell := func() [][]int {
		return [][]int{Short(a), Short(b), Tick(a, 1), Tick(b, 9), Tick(b, -1), Join(a, b), Join(b, a), Join(b, b), Join(b, nil), Join(nil, b)}
	}
	before, told := fmt.Sprint(a, b), fmt.Sprint(tell())
	for range 2 {
		for i, c := range tell() {
			if got := fmt.Sprint(tell()[i]); got != fmt.Sprint(c) {
				t.Errorf("answer %d is %s, it was %v", i, got, c)
			}
			for k := range c[:cap(c)] {
				c[:cap(c)][k] = 77
			}
			if after := fmt.Sprint(a, b); after != before {
				t.Fatalf("%s became %s", before, after)
			}
		}
		if got := fmt.Sprint(tell()); got != told {
			t.Errorf("an answer is kept: %s, it was %s", got, told)
		}
	}
	Compare(a, b)
	At(a, 1)
	if after := fmt.Sprint(a, b); after != before {
		t.Errorf("%s became %s", before, after)
	}
}

// 17.1 and 17.2: clocks with very many places.
func TestWideClocks(t *testing.T) {
	a := slices.Repeat([]int{3}, 1<<20)
	b := slices.Clone(a[:last+1])
	checkCompare(t, a, b, 0)
	checkClock(t, "Short", Short(a), b)
	checkClock(t, "Join", Join(a, b), b)
	a[last]--
	checkCompare(t, a, b, -1)
	checkClock(t, "Tick", Tick(a, last), b)
}
