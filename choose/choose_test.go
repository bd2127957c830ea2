package choose

import (
	"fmt"
	"math"
	"slices"
	"testing"

	"ganglion/api"
	"ganglion/rank"
	"ganglion/vec"
)

const (
	top   = math.MaxUint64
	most  = math.MaxInt
	least = math.MinInt
)

// draws tells numbers that look like chance, the same ones each time.
type draws uint64

func (d *draws) next() uint64 {
	*d = *d*6364136223846793005 + 1442695040888963407
	return uint64(*d >> 32)
}

// vector has few components, or none, so that many are equal.
func (d *draws) vector() []int32 {
	v := make([]int32, d.next()%4)
	for i := range v {
		v[i] = int32(d.next()%7) - 3
	}
	return v
}

// items has so many items.
func (d *draws) items(n int) []api.Item {
	l := make([]api.Item, n)
	for i := range l {
		l[i] = api.Item{Id: d.next() % 4, Vec: d.vector(), Tags: d.next()}
	}
	return l
}

// spots has so many spots, with distances that have nothing to do with any item.
func (d *draws) spots(n int) []api.Spot {
	l := make([]api.Spot, n)
	for i := range l {
		l[i] = spot(d.next()%12, d.next()%2, int(d.next()%3)-1)
	}
	return l
}

// spot is that with this distance, id and slot.
func spot(dist, id uint64, slot int) api.Spot {
	return api.Spot{Hit: api.Hit{Dist: dist, Id: id}, Slot: slot}
}

// seen has items at these places, with their spots as they are seen from the empty vector; place i has the id i and the slot i + 1.
func seen(places ...[]int32) ([]api.Spot, []api.Item) {
	l, items := make([]api.Spot, len(places)), make([]api.Item, len(places))
	for i, v := range places {
		l[i] = spot(vec.Dist(nil, v), uint64(i), i+1)
		items[i] = api.Item{Id: uint64(i), Vec: v}
	}
	return l, items
}

// onLine has items at these places of a line, seen from 0.
func onLine(places ...int32) ([]api.Spot, []api.Item) {
	var l [][]int32
	for _, p := range places {
		l = append(l, []int32{p})
	}
	return seen(l...)
}

// slots has the slots of the spots of l.
func slots(l []api.Spot) []int {
	out := []int{}
	for _, s := range l {
		out = append(out, s.Slot)
	}
	return out
}

// vecAt is the vector of the item at place i, or none.
func vecAt(items []api.Item, i int) []int32 {
	if i >= len(items) {
		return nil
	}
	return items[i].Vec
}

// places has the places of l in the order in which they are gone through, by the document's words: the first one that no other that is left is ahead of, again and again.
func places(l []api.Spot) []int {
	left, out := []int{}, []int{}
	for i := range l {
		left = append(left, i)
	}
	for len(left) > 0 {
		first := 0
		for k := range left {
			if rank.Spot(l[left[k]], l[left[first]]) {
				first = k
			}
		}
		out = append(out, left[first])
		left = slices.Delete(left, first, first+1)
	}
	return out
}

// parts has the places of those that are apart, and of the others, by the document's words.
func parts(l []api.Spot, items []api.Item) (apart, others []int) {
	for _, i := range places(l) {
		nearer := func(k int) bool { return vec.Dist(vecAt(items, i), vecAt(items, k)) < l[i].Hit.Dist }
		if slices.ContainsFunc(apart, nearer) {
			others = append(others, i)
		} else {
			apart = append(apart, i)
		}
	}
	return apart, others
}

// checkAll fails unless Apart, and Best of each most, tell what the document's words say.
func checkAll(t *testing.T, l []api.Spot, items []api.Item) {
	t.Helper()
	apart, others := parts(l, items)
	spots := func(places []int) []api.Spot {
		out := []api.Spot{}
		for _, i := range places {
			out = append(out, l[i])
		}
		return out
	}
	if got, want := Apart(l, items), spots(apart); !slices.Equal(got, want) {
		t.Fatalf("Apart(%v, %v) = %v, want %v", l, items, got, want)
	}
	both := spots(slices.Concat(apart, others))
	for n := -1; n <= len(l)+2; n++ {
		want := both[:min(max(n, 0), len(both))]
		if got := Best(l, items, n); !slices.Equal(got, want) {
			t.Fatalf("Best(%v, %v, %d) = %v, want %v", l, items, n, got, want)
		}
	}
}

// 10.1: which ones are apart, and in which order.
func TestApart(t *testing.T) {
	for _, c := range []struct {
		places [][]int32
		want   []int
	}{
		{nil, nil},
		{[][]int32{{3}}, []int{1}},
		{[][]int32{{1}, {2}, {-5}}, []int{1, 3}},
		{[][]int32{{-5}, {2}, {1}}, []int{3, 1}},
		{[][]int32{{-5, 0}, {0, 3}, {1, 0}, {0, -4}}, []int{3, 2, 4, 1}},
		// As far from a chosen one as from where they are chosen from, and a little nearer.
		{[][]int32{{2, 0}, {1, 2}}, []int{1, 2}},
		{[][]int32{{2, 0}, {1, -2}, {1, 2}}, []int{1, 2, 3}},
		{[][]int32{{4, 0}, {2, 4}}, []int{1, 2}},
		{[][]int32{{4, 0}, {3, 4}}, []int{1}},
		// One that lies near to one that was not chosen is apart all the same.
		{[][]int32{{2, 0}, {3, 2}, {1, 4}}, []int{1, 3}},
		// One is held against all that were chosen, not just the first or the last one.
		{[][]int32{{1, 0}, {0, 2}, {5, 0}}, []int{1, 2}},
		{[][]int32{{1, 0}, {0, 2}, {0, 5}}, []int{1, 2}},
		{[][]int32{{1, 0}, {0, -2}, {-3, 0}, {0, -5}}, []int{1, 2, 3}},
		// Of equal places the first one in order is chosen, and no other; at where they are chosen from all are.
		{[][]int32{{3}, {3}, {3}}, []int{1}},
		{[][]int32{{0}, {0}, {}}, []int{1, 2, 3}},
		{[][]int32{{1}, {0}, {2}}, []int{2, 1}},
		{[][]int32{{0}, {1}, {-1}}, []int{1, 2, 3}},
	} {
		l, items := seen(c.places...)
		if got := slots(Apart(l, items)); !slices.Equal(got, c.want) {
			t.Errorf("of %v there are apart %v, want %v", c.places, got, c.want)
		}
		checkAll(t, l, items)
	}
}

// 10.1: the order of spots is that of rank: of equal distances the id tells, of equal hits the slot.
func TestApartTellsByAllFields(t *testing.T) {
	items := slices.Repeat([]api.Item{{Vec: []int32{2}}}, 4)
	for _, c := range []struct {
		l    []api.Spot
		want api.Spot
	}{
		{[]api.Spot{spot(4, 0, 0), spot(3, top, 9)}, spot(3, top, 9)},
		{[]api.Spot{spot(4, 7, 0), spot(4, 6, 9), spot(4, 8, 0)}, spot(4, 6, 9)},
		{[]api.Spot{spot(4, 7, 3), spot(4, 7, 2), spot(4, 7, 4)}, spot(4, 7, 2)},
		{[]api.Spot{spot(4, 7, 3), spot(4, 7, -1), spot(4, 7, least), spot(4, 7, most)}, spot(4, 7, least)},
		{[]api.Spot{spot(top, 0, 0), spot(top-1, top, most)}, spot(top-1, top, most)},
	} {
		if got := Apart(c.l, items); !slices.Equal(got, []api.Spot{c.want}) {
			t.Errorf("Apart(%v) = %v, want %v", c.l, got, c.want)
		}
		checkAll(t, c.l, items)
	}
}

// 10.1: of equal spots the first place goes first, and its item with it.
func TestApartOfEqualSpots(t *testing.T) {
	s, near := spot(4, 5, 6), spot(4, 6, 6)
	at := func(places ...int32) []api.Item {
		_, items := onLine(places...)
		return items
	}
	for _, c := range []struct {
		items []api.Item
		want  []api.Spot
	}{
		{at(0, 1, 10, 11), []api.Spot{s, s}},
		{at(0, 10, 1, 11), []api.Spot{s, s}},
		// 0 is chosen, so 1 is not, and 2 is.
		{at(0, 1, 2, 1), []api.Spot{s, s}},
		// 1 is chosen, so neither 0 nor 2 is.
		{at(1, 0, 2, 3), []api.Spot{s, near}},
		{at(1, 0, 2, 0), []api.Spot{s}},
		{at(2, 1, 0, 4), []api.Spot{s, s, near}},
	} {
		l := []api.Spot{s, s, s, near}
		if got := Apart(l, c.items); !slices.Equal(got, c.want) {
			t.Errorf("Apart(%v, %v) = %v, want %v", l, c.items, got, c.want)
		}
		checkAll(t, l, c.items)
	}
	// So many that a sort that lets equal ones change places would show.
	d := draws(1)
	for range 20 {
		l, items := slices.Repeat([]api.Spot{s, near}, 50), d.items(100)
		checkAll(t, l, items)
	}
}

// 10.1: an item that is not there is zero; one that has no candidate is not looked at.
func TestApartWithFewerAndMoreItems(t *testing.T) {
	l := []api.Spot{spot(9, 1, 1), spot(9, 2, 2), spot(9, 3, 3)}
	for _, c := range []struct {
		items []api.Item
		want  []int
	}{
		{nil, []int{1}},
		{[]api.Item{}, []int{1}},
		{[]api.Item{{Vec: []int32{3}}}, []int{1, 2}},
		{[]api.Item{{Vec: []int32{2}}}, []int{1}},
		{[]api.Item{{Vec: []int32{3}}, {Vec: []int32{-3}}}, []int{1, 2, 3}},
		{[]api.Item{{Vec: []int32{3}}, {Vec: []int32{-3}}, {Vec: []int32{5}}}, []int{1, 2}},
		{[]api.Item{{Vec: []int32{3}}, {Vec: []int32{-3}}, {Vec: []int32{6}}, {Vec: []int32{6}}}, []int{1, 2, 3}},
	} {
		if got := slots(Apart(l, c.items)); !slices.Equal(got, c.want) {
			t.Errorf("of %v there are apart %v, want %v", c.items, got, c.want)
		}
		checkAll(t, l, c.items)
	}
	checkAll(t, nil, nil)
	checkAll(t, nil, []api.Item{{Id: 1, Vec: []int32{1}}})
}

// 10.1: what tells is a spot's own distance, whatever place it has, and vectors of unlike lengths.
func TestApartTellsByItsOwnDist(t *testing.T) {
	items := []api.Item{{Vec: []int32{1}}, {Vec: []int32{1, 2}}}
	for _, c := range []struct {
		dist uint64
		want []int
	}{
		{0, []int{2, 1}}, {2, []int{1, 2}}, {3, []int{1, 2}}, {4, []int{1, 2}}, {5, []int{1}}, {1 << 63, []int{1}}, {top, []int{1}},
	} {
		l := []api.Spot{spot(1, 0, 1), spot(c.dist, 0, 2)}
		if got := slots(Apart(l, items)); !slices.Equal(got, c.want) {
			t.Errorf("with Dist %d there are apart %v, want %v", c.dist, got, c.want)
		}
		checkAll(t, l, items)
	}
	// Two distances that are held at the greatest number are equal.
	up, down := slices.Repeat([]int32{math.MaxInt32}, 2), slices.Repeat([]int32{math.MinInt32}, 2)
	l := []api.Spot{spot(top, 1, 1), spot(top, 2, 2), spot(top, 3, 3)}
	if got := slots(Apart(l, []api.Item{{Vec: up}, {Vec: down}, {Vec: up}})); !slices.Equal(got, []int{1, 2}) {
		t.Errorf("of those that are as far as may be there are apart %v", got)
	}
}

// 10.2: those that are apart go first, and others behind them, as many as are missing.
func TestBest(t *testing.T) {
	l, items := onLine(1, 2, -5, 3, -6, -7, 4)
	for _, c := range []struct {
		most int
		want []int
	}{
		{least, nil}, {-1, nil}, {0, nil},
		{1, []int{1}}, {2, []int{1, 3}}, {3, []int{1, 3, 2}}, {4, []int{1, 3, 2, 4}}, {5, []int{1, 3, 2, 4, 7}},
		{6, []int{1, 3, 2, 4, 7, 5}}, {7, []int{1, 3, 2, 4, 7, 5, 6}}, {8, []int{1, 3, 2, 4, 7, 5, 6}},
		{1 << 32, []int{1, 3, 2, 4, 7, 5, 6}}, {most, []int{1, 3, 2, 4, 7, 5, 6}},
	} {
		if got := slots(Best(l, items, c.most)); !slices.Equal(got, c.want) {
			t.Errorf("the best %d: %v, want %v", c.most, got, c.want)
		}
	}
}

// 10.2: if enough are apart, there are no others among the best; if all are, they are all.
func TestBestOfThoseApart(t *testing.T) {
	l, items := seen([]int32{1, 0}, []int32{2, 0}, []int32{0, 3}, []int32{-4, 0}, []int32{0, 4}, []int32{0, -5})
	for n, want := range [][]int{{}, {1}, {1, 3}, {1, 3, 4}, {1, 3, 4, 6}, {1, 3, 4, 6, 2}, {1, 3, 4, 6, 2, 5}, {1, 3, 4, 6, 2, 5}} {
		if got := slots(Best(l, items, n)); !slices.Equal(got, want) {
			t.Errorf("the best %d: %v, want %v", n, got, want)
		}
	}
	l, items = onLine(-2, 1)
	for n, want := range [][]int{{}, {2}, {2, 1}, {2, 1}} {
		if got := slots(Best(l, items, n)); !slices.Equal(got, want) {
			t.Errorf("the best %d: %v, want %v", n, got, want)
		}
	}
	for _, n := range []int{least, -1, 0, 1, most} {
		if got := Best(nil, items, n); len(got) != 0 {
			t.Errorf("the best %d of none: %v", n, got)
		}
	}
}

// 10.2: a spot is among the best as often as it is there.
func TestBestHasSpotsMoreThanOnce(t *testing.T) {
	l, items := onLine(3)
	l, items = slices.Repeat(l, 4), slices.Repeat(items, 4)
	if got := Best(l, items, 3); !slices.Equal(got, l[:3]) {
		t.Errorf("the best 3 are %v", got)
	}
	if got := Best(l, items, 9); !slices.Equal(got, l) {
		t.Errorf("the best 9 are %v", got)
	}
}

// 10.1 and 10.2: candidates of all kinds, with fewer and more items.
func TestMany(t *testing.T) {
	d := draws(2)
	for range 5000 {
		checkAll(t, d.spots(int(d.next()%9)), d.items(int(d.next()%9)))
	}
	for range 20 {
		checkAll(t, d.spots(60), d.items(60))
	}
}

// 10.1 and 10.2: as many as a search may find.
func TestLong(t *testing.T) {
	d := draws(3)
	l, items := make([]api.Spot, api.MaxEf), make([]api.Item, api.MaxEf)
	for i := range l {
		items[i].Vec = []int32{int32(d.next()%2000) - 1000, int32(d.next()%2000) - 1000}
		l[i] = spot(vec.Dist(items[i].Vec, nil), d.next(), i)
	}
	apart, others := parts(l, items)
	for _, n := range []int{1, 5, 32, api.MaxEf - 1, api.MaxEf, most} {
		got := Best(l, items, n)
		for k, i := range slices.Concat(apart, others)[:min(n, len(l))] {
			if k >= len(got) || got[k] != l[i] {
				t.Fatalf("the best %d: at place %d there is not %v", n, k, l[i])
			}
		}
		if len(got) != min(n, len(l)) {
			t.Fatalf("the best %d are %d", n, len(got))
		}
	}
}

// 10.3: of two that are chosen the later one lies at least as far from the earlier one as from where they are chosen from.
func TestChosenLieApart(t *testing.T) {
	d := draws(4)
	for range 3000 {
		from, items := d.vector(), d.items(int(d.next()%20))
		l := make([]api.Spot, len(items))
		for i, it := range items {
			l[i] = spot(vec.Dist(from, it.Vec), it.Id, i)
		}
		apart := Apart(l, items)
		for k, later := range apart {
			for _, earlier := range apart[:k] {
				if vec.Dist(items[later.Slot].Vec, items[earlier.Slot].Vec) < later.Hit.Dist || rank.Spot(later, earlier) {
					t.Fatalf("from %v, of %v: %v and %v", from, items, earlier, later)
				}
			}
		}
		// Each other one is nearer to one of these that is ahead of it.
		for i, s := range l {
			nearer := func(c api.Spot) bool {
				return rank.Spot(c, s) && vec.Dist(items[c.Slot].Vec, items[i].Vec) < s.Hit.Dist
			}
			if slices.Contains(apart, s) == slices.ContainsFunc(apart, nearer) {
				t.Fatalf("from %v, of %v: %v", from, items, s)
			}
		}
	}
}

// 10.1 and 10.2: what is handed in stays as it is, and is not what is told.
func TestCandidatesStay(t *testing.T) {
	l, items := onLine(2, -5, 1, 3, 9)
	l, items = l[:4], items[:4]
	before := fmt.Sprint(l[:5], items[:5])
	clear(Apart(l, items))
	clear(Apart(l[:1], items))
	for n := range 6 {
		clear(Best(l, items, n))
		_ = append(Best(l, items, n), spot(7, 7, 7))
		clear(Best(l[2:3], items[2:3], n))
	}
	if after := fmt.Sprint(l[:5], items[:5]); after != before {
		t.Errorf("%s became %s", before, after)
	}
}
