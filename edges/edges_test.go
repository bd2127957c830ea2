package edges

import (
	"fmt"
	"math"
	"slices"
	"testing"

	"ganglion/api"
	"ganglion/rank"
	"ganglion/vec"
)

const (
	top   = math.MaxUint64
	most  = math.MaxInt
	least = math.MinInt
)

// draws tells numbers that look like chance, the same ones each time.
type draws uint64

func (d *draws) next() uint64 {
	*d = *d*6364136223846793005 + 1442695040888963407
	return uint64(*d >> 32)
}

// number has few numbers, so that many are equal, and those at both ends.
func (d *draws) number() int {
	return []int{0, 1, 2, 3, 4, -1, least, most}[d.next()%8]
}

// list has up to so many numbers.
func (d *draws) list(n int) []int {
	l := make([]int, d.next()%uint64(n+1))
	for i := range l {
		l[i] = d.number()
	}
	return l
}

// item has few components, ids and tags, so that many spots are equal, or nearly.
func (d *draws) item() api.Item {
	v := make([]int32, d.next()%3)
	for i := range v {
		v[i] = int32(d.next()%5) - 2
	}
	return api.Item{Id: d.next() % 3, Vec: v, Tags: d.next()}
}

// line has the numbers from 1 to n.
func line(n int) []int {
	l := make([]int, n)
	for i := range l {
		l[i] = i + 1
	}
	return l
}

// at is an item with this id, at this place of a line.
func at(id uint64, place int32) api.Item {
	return api.Item{Id: id, Vec: []int32{place}, Tags: top}
}

// spotOf is that with this distance, id and slot.
func spotOf(dist, id uint64, slot int) api.Spot {
	return api.Spot{Hit: api.Hit{Dist: dist, Id: id}, Slot: slot}
}

// farthest is a Far by the document's words: the one that is ahead of no other.
func farthest(v []int32, l []int, items []api.Item) (api.Spot, bool) {
	var spots []api.Spot
	for i, n := range l {
		it := api.Item{}
		if i < len(items) {
			it = items[i]
		}
		spots = append(spots, spotOf(vec.Dist(v, it.Vec), it.Id, n))
	}
	for _, s := range spots {
		if !slices.ContainsFunc(spots, func(other api.Spot) bool { return rank.Spot(s, other) }) {
			return s, true
		}
	}
	return api.Spot{}, false
}

// 9.1: twice links on level 0 alone; links from 1 to MaxLinks, else the nearest of these.
func TestMost(t *testing.T) {
	for _, c := range []struct{ links, low, high int }{
		{4, 8, 4}, {1, 2, 1}, {2, 4, 2}, {31, 62, 31}, {32, 64, 32},
		{0, 2, 1}, {-1, 2, 1}, {-4, 2, 1}, {least, 2, 1},
		{33, 64, 32}, {64, 64, 32}, {1 << 32, 64, 32}, {1<<62 + 1, 64, 32}, {most, 64, 32},
	} {
		if got := Most(c.links, 0); got != c.low {
			t.Errorf("Most(%d, 0) = %d, want %d", c.links, got, c.low)
		}
		for _, level := range []int{1, 2, 6, 7, 8, 1 << 32, most, -1, least} {
			if got := Most(c.links, level); got != c.high {
				t.Errorf("Most(%d, %d) = %d, want %d", c.links, level, got, c.high)
			}
		}
	}
}

// 9.1: what is in a list, and what is put in, or left out.
func TestHasWithWithout(t *testing.T) {
	for _, c := range []struct {
		l             []int
		n             int
		has           bool
		with, without []int
	}{
		{nil, 0, false, []int{0}, nil},
		{nil, 5, false, []int{5}, nil},
		{[]int{}, -1, false, []int{-1}, nil},
		{[]int{5}, 5, true, []int{5}, nil},
		{[]int{5}, 6, false, []int{5, 6}, []int{5}},
		{[]int{5}, 0, false, []int{5, 0}, []int{5}},
		{[]int{3, 1, 2}, 1, true, []int{3, 1, 2}, []int{3, 2}},
		{[]int{3, 1, 2}, 3, true, []int{3, 1, 2}, []int{1, 2}},
		{[]int{3, 1, 2}, 2, true, []int{3, 1, 2}, []int{3, 1}},
		{[]int{3, 1, 2}, 4, false, []int{3, 1, 2, 4}, []int{3, 1, 2}},
		{[]int{7, 1, 7, 7, 2, 7}, 7, true, []int{7, 1, 7, 7, 2, 7}, []int{1, 2}},
		{[]int{7, 1, 7, 7, 2, 7}, 2, true, []int{7, 1, 7, 7, 2, 7}, []int{7, 1, 7, 7, 7}},
		{[]int{7, 1, 7, 1}, 9, false, []int{7, 1, 7, 1, 9}, []int{7, 1, 7, 1}},
		{[]int{7, 7, 7}, 7, true, []int{7, 7, 7}, nil},
		{[]int{0, -1, least, most}, least, true, []int{0, -1, least, most}, []int{0, -1, most}},
		{[]int{0, -1, least}, most, false, []int{0, -1, least, most}, []int{0, -1, least}},
		{[]int{1}, 1<<32 + 1, false, []int{1, 1<<32 + 1}, []int{1}},
	} {
		if got := Has(c.l, c.n); got != c.has {
			t.Errorf("Has(%v, %d) = %v", c.l, c.n, got)
		}
		if got := With(c.l, c.n); !slices.Equal(got, c.with) {
			t.Errorf("With(%v, %d) = %v, want %v", c.l, c.n, got, c.with)
		}
		if got := Without(c.l, c.n); !slices.Equal(got, c.without) {
			t.Errorf("Without(%v, %d) = %v, want %v", c.l, c.n, got, c.without)
		}
	}
}

// 9.1: each number but the last one, and the next.
func TestPairs(t *testing.T) {
	for _, c := range []struct {
		l    []int
		want [][2]int
	}{
		{nil, nil}, {[]int{}, nil}, {[]int{1}, nil}, {[]int{0}, nil},
		{[]int{1, 2}, [][2]int{{1, 2}}},
		{[]int{1, 2, 3}, [][2]int{{1, 2}, {2, 3}}},
		{[]int{3, 3}, [][2]int{{3, 3}}},
		{[]int{2, 1, 2, 1}, [][2]int{{2, 1}, {1, 2}, {2, 1}}},
		{[]int{0, -1, least, most, 0}, [][2]int{{0, -1}, {-1, least}, {least, most}, {most, 0}}},
	} {
		if got := Pairs(c.l); !slices.Equal(got, c.want) {
			t.Errorf("Pairs(%v) = %v, want %v", c.l, got, c.want)
		}
	}
	long := Pairs(line(5000))
	if len(long) != 4999 || long[0] != [2]int{1, 2} || long[4998] != [2]int{4999, 5000} {
		t.Error("Pairs of a long list")
	}
}

// 9.2: what may not be in a list.
func TestRight(t *testing.T) {
	for _, c := range []struct {
		l           []int
		self, slots int
		want        bool
	}{
		{nil, 1, 9, true}, {[]int{}, 0, 0, true}, {nil, least, least, true}, {nil, 1, -1, true},
		{[]int{1}, 2, 9, true}, {[]int{9}, 2, 9, true}, {[]int{9, 1, 5}, 2, 9, true}, {[]int{1}, 2, 1, true},
		{[]int{0}, 2, 9, false}, {[]int{-1}, 2, 9, false}, {[]int{least}, 2, 9, false},
		{[]int{10}, 2, 9, false}, {[]int{most}, 2, 9, false}, {[]int{1<<32 + 1}, 2, 9, false}, {[]int{most}, 2, most, true},
		{[]int{1}, 2, 0, false}, {[]int{1}, 2, -1, false}, {[]int{0}, 2, 0, false}, {[]int{-1}, 2, -1, false}, {[]int{1}, 2, least, false},
		{[]int{2}, 2, 9, false}, {[]int{1, 2}, 2, 9, false}, {[]int{2, 1}, 2, 9, false}, {[]int{1, 2, 3}, 2, 9, false},
		{[]int{1}, 0, 9, true}, {[]int{0}, 0, 9, false}, {[]int{1}, -1, 9, true}, {[]int{9}, 10, 9, true}, {[]int{10}, 10, 9, false},
		{[]int{1, 1}, 2, 9, false}, {[]int{1, 3, 1}, 2, 9, false}, {[]int{1, 3, 3}, 2, 9, false}, {[]int{3, 4, 5, 4}, 2, 9, false},
		{[]int{1, 3, 0}, 2, 9, false}, {[]int{1, 3, 10}, 2, 9, false}, {[]int{0, 1, 3}, 2, 9, false}, {[]int{10, 1, 3}, 2, 9, false},
	} {
		for _, level := range []int{0, 1, 7} {
			if got := Right(c.l, c.self, 4, level, c.slots); got != c.want {
				t.Errorf("Right(%v, %d, 4, %d, %d) = %v", c.l, c.self, level, c.slots, got)
			}
		}
	}
}

// 9.2: a list is as long as its level's most, and not longer.
func TestRightLength(t *testing.T) {
	for _, links := range []int{least, -1, 0, 1, 2, 3, 31, 32, 33, most} {
		for _, level := range []int{-1, 0, 1, 2, 7, 8} {
			want := min(max(links, 1), 32)
			if level == 0 {
				want *= 2
			}
			for n := range 70 {
				if got := Right(line(n), 4096, links, level, 4096); got != (n <= want) {
					t.Errorf("Right of %d numbers, %d links and level %d: %v", n, links, level, got)
				}
			}
		}
	}
	if Right(line(1<<14), 0, 32, 0, most) {
		t.Error("a list that is far too long is right")
	}
}

// 9.2: one wrong number at each place of a list that is full.
func TestRightAtEachPlace(t *testing.T) {
	const self, slots = 100, 64
	for place := range 64 {
		for _, wrong := range []int{0, -1, self, slots + 1, most, least} {
			l := line(64)
			l[place] = wrong
			if Right(l, self, 32, 0, slots) {
				t.Errorf("right with %d at place %d", wrong, place)
			}
		}
		if Right(line(64), place+1, 32, 0, slots) {
			t.Errorf("right with itself at place %d", place)
		}
		for other := range place {
			l := line(64)
			l[place] = l[other]
			if Right(l, self, 32, 0, slots) {
				t.Errorf("right with one number at the places %d and %d", other, place)
			}
		}
	}
	if !Right(line(64), self, 32, 0, slots) || !Right(line(64), 65, 32, 0, slots) {
		t.Error("a full list is right")
	}
}

// 9.3: which of some spots is the last one.
func TestFar(t *testing.T) {
	for _, c := range []struct {
		v     []int32
		l     []int
		items []api.Item
		want  api.Spot
	}{
		{[]int32{1}, []int{7}, []api.Item{at(9, 4)}, spotOf(9, 9, 7)},
		// Wherever it stands.
		{[]int32{0}, []int{1, 2, 3}, []api.Item{at(1, 3), at(2, 1), at(3, -2)}, spotOf(9, 1, 1)},
		{[]int32{0}, []int{1, 2, 3}, []api.Item{at(1, 1), at(2, -3), at(3, 2)}, spotOf(9, 2, 2)},
		{[]int32{0}, []int{1, 2, 3}, []api.Item{at(1, 1), at(2, 2), at(3, 3)}, spotOf(9, 3, 3)},
		// The item is told by the place of its number, not by the number.
		{[]int32{0}, []int{2, 0, 1}, []api.Item{at(1, 1), at(2, 5), at(3, 2)}, spotOf(25, 2, 0)},
		{[]int32{0}, []int{4096, -3, most, least}, []api.Item{at(1, 1), at(2, 5), at(3, 2), at(4, 4)}, spotOf(25, 2, -3)},
		// Of equal distances the id tells, of equal hits the slot.
		{[]int32{0}, []int{3, 2, 1}, []api.Item{at(5, 2), at(7, -2), at(6, 2)}, spotOf(4, 7, 2)},
		{[]int32{0}, []int{3, 2, 1}, []api.Item{at(5, 2), at(top, -2), at(1<<63, 2)}, spotOf(4, top, 2)},
		{[]int32{0}, []int{2, 3, 1}, []api.Item{at(5, 2), at(5, -2), at(5, 2)}, spotOf(4, 5, 3)},
		{[]int32{0}, []int{-2, least, -1}, []api.Item{at(5, 2), at(5, -2), at(5, 2)}, spotOf(4, 5, -1)},
		{[]int32{0}, []int{5, 5, 5}, []api.Item{at(1, 1), at(1, 1), at(1, 1)}, spotOf(1, 1, 5)},
		{[]int32{0}, []int{5, 5}, []api.Item{at(1, 1), at(2, 0)}, spotOf(1, 1, 5)},
		// An item that is not there is zero.
		{[]int32{3, 4}, []int{1, 2}, []api.Item{{Id: 9, Vec: []int32{3, 3}}}, spotOf(25, 0, 2)},
		{[]int32{0}, []int{1, 2}, []api.Item{at(9, 1)}, spotOf(1, 9, 1)},
		{[]int32{3, 4}, []int{8, 6, 7}, nil, spotOf(25, 0, 8)},
		{nil, []int{-5}, nil, spotOf(0, 0, -5)},
		{nil, []int{0, -5}, nil, spotOf(0, 0, 0)},
		// More items than numbers.
		{[]int32{0}, []int{1}, []api.Item{at(9, 1), at(8, 100)}, spotOf(1, 9, 1)},
		// Vectors that are not as long as each other, and a distance that is held.
		{[]int32{1}, []int{1, 2}, []api.Item{{Id: 1, Vec: []int32{1, 2, -3}}, {Id: 2, Vec: []int32{4}}}, spotOf(13, 1, 1)},
		{slices.Repeat([]int32{math.MaxInt32}, 2), []int{1, 2}, []api.Item{{Id: 1, Vec: slices.Repeat([]int32{math.MinInt32}, 2)}, {Id: 2}}, spotOf(top, 1, 1)},
	} {
		if got, ok := Far(c.v, c.l, c.items); got != c.want || !ok {
			t.Errorf("Far(%v, %v, %v) = %v, %v; want %v", c.v, c.l, c.items, got, ok, c.want)
		}
	}
}

// 9.3: of an empty list there is none, whatever items there are.
func TestFarOfNone(t *testing.T) {
	for _, l := range [][]int{nil, {}} {
		for _, items := range [][]api.Item{nil, {}, {at(1, 1)}, {at(1, 1), at(2, 2)}} {
			if got, ok := Far([]int32{5}, l, items); got != (api.Spot{}) || ok {
				t.Errorf("Far of none, of items %v: %v, %v", items, got, ok)
			}
		}
	}
}

// 9.3: lists of all kinds, with fewer and more items than numbers.
func TestFarOfMany(t *testing.T) {
	d := draws(1)
	for range 20000 {
		l, items, v := d.list(6), make([]api.Item, d.next()%8), d.item().Vec
		for i := range items {
			items[i] = d.item()
		}
		want, isWant := farthest(v, l, items)
		if got, ok := Far(v, l, items); got != want || ok != isWant {
			t.Fatalf("Far(%v, %v, %v) = %v, %v; want %v, %v", v, l, items, got, ok, want, isWant)
		}
	}
}

// 9.4: what was put in is there once, behind all else, and is gone when it was left out.
func TestInAndOut(t *testing.T) {
	d := draws(2)
	for range 20000 {
		l, n := d.list(8), d.number()
		in, out := With(l, n), Without(l, n)
		if !Has(in, n) || Has(out, n) || Has(Without(in, n), n) || !Has(With(out, n), n) {
			t.Fatalf("of %v and %d: in %v, out %v", l, n, in, out)
		}
		if Has(l, n) != slices.Equal(in, l) || Has(l, n) == slices.Equal(out, l) {
			t.Fatalf("of %v and %d: in %v, out %v", l, n, in, out)
		}
		if again := With(in, n); !slices.Equal(again, in) {
			t.Fatalf("%v became %v", in, again)
		}
		if back := With(out, n); !slices.Equal(back[:len(back)-1], out) || back[len(back)-1] != n {
			t.Fatalf("%v, and %d behind: %v", out, n, back)
		}
		if gone := Without(With(out, n), n); !slices.Equal(gone, out) {
			t.Fatalf("%v became %v", out, gone)
		}
		if other := d.number(); other != n && (Has(in, other) != Has(l, other) || Has(out, other) != Has(l, other)) {
			t.Fatalf("of %v and %d: %d was moved", l, n, other)
		}
	}
}

// 9.1 to 9.3: what is handed in stays as it is, and is not what is told.
func TestListsStay(t *testing.T) {
	l := make([]int, 3, 9)
	copy(l, []int{4, 2, 6})
	v, items := []int32{1, 2}, []api.Item{at(3, 1), at(1, 9), at(2, 5)}
	before := fmt.Sprint(l[:9], v, items)
	Has(l, 4)
	clear(With(l, 4))
	clear(With(l, 5))
	clear(With(l[:2], 5))
	clear(With(l[:0], 5))
	clear(Without(l, 4))
	clear(Without(l, 6))
	clear(Without(l, 5))
	clear(Pairs(l))
	Right(l, 1, 4, 0, 9)
	Far(v, l, items)
	if after := fmt.Sprint(l[:9], v, items); after != before {
		t.Errorf("%s became %s", before, after)
	}
	for _, told := range [][]int{With(l, 4), With(l, 5), Without(l, 5), Without(l, 4)} {
		_ = append(told[:0], 9, 9)
	}
	if after := fmt.Sprint(l[:9], v, items); after != before {
		t.Errorf("%s became %s", before, after)
	}
}

// 9.1: what is put into one answer is not seen in another one.
func TestAnswersAreApart(t *testing.T) {
	l := []int{1, 2, 3}
	for _, calls := range [][2]func() []int{
		{func() []int { return With(l, 4) }, func() []int { return With(l, 5) }},
		{func() []int { return With(l, 1) }, func() []int { return With(l, 1) }},
		{func() []int { return Without(l, 1) }, func() []int { return Without(l, 9) }},
	} {
		a, b := calls[0](), calls[1]()
		before := fmt.Sprint(a)
		clear(b)
		if fmt.Sprint(a) != before {
			t.Errorf("%s became %v", before, a)
		}
	}
}
