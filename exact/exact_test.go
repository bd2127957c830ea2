package exact

import (
	"fmt"
	"math"
	"slices"
	"testing"

	"ganglion/api"
)

const (
	top      = math.MaxUint64
	most     = math.MaxInt
	least    = math.MinInt
	leastNum = math.MinInt32
)

// draws tells numbers that look like chance, the same ones each time.
type draws uint64

func (d *draws) next() uint64 {
	*d = *d*6364136223846793005 + 1442695040888963407
	return uint64(*d >> 32)
}

// vector has few components, or none, so that many distances are equal.
func (d *draws) vector() []int32 {
	v := make([]int32, d.next()%4)
	for i := range v {
		v[i] = int32(d.next()%7) - 3
	}
	return v
}

// mask has few bits, at both ends.
func (d *draws) mask() uint64 {
	m := d.next()
	return m&3 | m&4<<61
}

// items has up to so many items, some of which have one id.
func (d *draws) items(n int) []api.Item {
	l := make([]api.Item, d.next()%uint64(n+1))
	for i := range l {
		l[i] = api.Item{Id: d.next() % 6, Vec: d.vector(), Tags: d.mask()}
	}
	return l
}

// hit is that with this distance and id.
func hit(dist, id uint64) api.Hit {
	return api.Hit{Dist: dist, Id: id}
}

// at is an item with this id, at this place of a line, with no tags.
func at(id uint64, place int32) api.Item {
	return api.Item{Id: id, Vec: []int32{place}}
}

// tagged is an item with this id and these tags, at the place of its id on a line.
func tagged(id, tags uint64) api.Item {
	return api.Item{Id: id, Vec: []int32{int32(id)}, Tags: tags}
}

// ahead tells by the document's words whether a is ahead of b.
func ahead(a, b api.Hit) bool {
	return a.Dist < b.Dist || a.Dist == b.Dist && a.Id < b.Id
}

// counting are by the document's words the hits of the items that count, as they stand in l; all components are small.
func counting(l []api.Item, q []int32, mask uint64) []api.Hit {
	var out []api.Hit
	for _, it := range l {
		sum := 0
		for i := range max(len(it.Vec), len(q)) {
			by := 0
			if i < len(it.Vec) {
				by = int(it.Vec[i])
			}
			if i < len(q) {
				by -= int(q[i])
			}
			sum += by * by
		}
		if it.Tags|mask == it.Tags {
			out = append(out, hit(uint64(sum), it.Id))
		}
	}
	return out
}

// ordered has hits in order, by the document's words: each is put ahead of the first one that it is ahead of.
func ordered(l []api.Hit) []api.Hit {
	var out []api.Hit
	for _, h := range l {
		i := 0
		for i < len(out) && !ahead(h, out[i]) {
			i++
		}
		out = slices.Insert(out, i, h)
	}
	return out
}

// checkSearch fails unless the first k are want.
func checkSearch(t *testing.T, l []api.Item, q []int32, mask uint64, k int, want ...api.Hit) {
	t.Helper()
	if got := Search(l, q, mask, k); !slices.Equal(got, want) {
		t.Errorf("Search(%v, %v, %b, %d) = %v, want %v", l, q, mask, k, got, want)
	}
}

// checkWithin fails unless those at most so far off are want.
func checkWithin(t *testing.T, l []api.Item, q []int32, mask, far uint64, want ...api.Hit) {
	t.Helper()
	if got := Within(l, q, mask, far); !slices.Equal(got, want) {
		t.Errorf("Within(%v, %v, %b, %d) = %v, want %v", l, q, mask, far, got, want)
	}
}

// checkPlace fails unless so many are ahead of h.
func checkPlace(t *testing.T, l []api.Item, q []int32, mask uint64, h api.Hit, want int) {
	t.Helper()
	if got := Place(l, q, mask, h); got != want {
		t.Errorf("Place(%v, %v, %b, %v) = %d, want %d", l, q, mask, h, got, want)
	}
}

// 13.1: the first of few, and the document's example.
func TestSearch(t *testing.T) {
	l := []api.Item{at(1, 3), at(2, -1), at(3, 2)}
	checkSearch(t, l, []int32{0}, 0, 1, hit(1, 2))
	checkSearch(t, l, []int32{0}, 0, 2, hit(1, 2), hit(4, 3))
	checkSearch(t, l, []int32{0}, 0, 3, hit(1, 2), hit(4, 3), hit(9, 1))
	checkSearch(t, l, []int32{3}, 0, 2, hit(0, 1), hit(1, 3))
	checkSearch(t, l, []int32{-10}, 0, 2, hit(81, 2), hit(144, 3))
	checkSearch(t, l, []int32{1, 2, 0}, 0, 3, hit(5, 3), hit(8, 1), hit(8, 2))
	checkSearch(t, l, nil, 0, 1, hit(1, 2))
}

// 13.1: k below 0, 0, and beyond all that there are.
func TestSearchOfSoMany(t *testing.T) {
	l := []api.Item{at(1, 3), at(2, -1)}
	for _, k := range []int{least, -2, -1, 0} {
		checkSearch(t, l, []int32{0}, 0, k)
	}
	for _, k := range []int{2, 3, 1 << 32, most} {
		checkSearch(t, l, []int32{0}, 0, k, hit(1, 2), hit(9, 1))
		checkSearch(t, l[:1], nil, 0, k, hit(9, 1))
		checkSearch(t, nil, nil, 0, k)
		checkSearch(t, []api.Item{}, []int32{5}, 1, k)
		checkSearch(t, []api.Item{{}}, nil, 0, k, hit(0, 0))
	}
}

// 13.1: where distances are equal the id tells, whatever stands first; and each item is there, though its hit is another one's, too.
func TestOrderAndTwins(t *testing.T) {
	l := []api.Item{at(9, 1), at(top, 0), at(4, -1), at(0, 1), at(4, 1), at(4, 2), at(top, 0)}
	q := []int32{0}
	all := []api.Hit{hit(0, top), hit(0, top), hit(1, 0), hit(1, 4), hit(1, 4), hit(1, 9), hit(4, 4)}
	for range len(l) {
		for k := range len(l) + 1 {
			checkSearch(t, l, q, 0, k, all[:k]...)
		}
		checkWithin(t, l, q, 0, 0, all[:2]...)
		checkWithin(t, l, q, 0, 1, all[:6]...)
		checkWithin(t, l, q, 0, 3, all[:6]...)
		checkWithin(t, l, q, 0, 4, all...)
		checkPlace(t, l, q, 0, hit(1, 4), 3)
		checkPlace(t, l, q, 0, hit(1, 5), 5)
		l = append(l[1:], l[0])
	}
}

// 13.1 and 13.2: those count that have all tags of the mask, and maybe others.
func TestTags(t *testing.T) {
	const high = 1 << 63
	l := []api.Item{tagged(1, 0), tagged(2, 1), tagged(3, 2), tagged(4, 3), tagged(5, high), tagged(6, high+1), tagged(7, top)}
	for _, c := range []struct {
		mask uint64
		ids  []uint64
	}{
		{0, []uint64{1, 2, 3, 4, 5, 6, 7}},
		{1, []uint64{2, 4, 6, 7}},
		{2, []uint64{3, 4, 7}},
		{3, []uint64{4, 7}},
		{4, []uint64{7}},
		{high, []uint64{5, 6, 7}},
		{high + 1, []uint64{6, 7}},
		{high + 3, []uint64{7}},
		{top, []uint64{7}},
	} {
		var want []api.Hit
		for _, id := range c.ids {
			want = append(want, hit(id*id, id))
		}
		checkSearch(t, l, nil, c.mask, len(l), want...)
		checkSearch(t, l, nil, c.mask, 1, want[0])
		checkWithin(t, l, nil, c.mask, 49, want...)
		checkWithin(t, l, nil, c.mask, 48, want[:len(want)-1]...)
		for i, h := range want {
			checkPlace(t, l, nil, c.mask, h, i)
		}
		checkPlace(t, l, nil, c.mask, hit(top, top), len(want))
		checkSearch(t, l[:1], nil, c.mask|4, 9)
		checkWithin(t, l[:6], nil, c.mask|4, top)
		checkPlace(t, l[:6], nil, c.mask|4, hit(top, top), 0)
	}
}

// 13.1: the most is itself near enough; distances that are held are near enough for the greatest alone.
func TestWithin(t *testing.T) {
	l := []api.Item{at(1, 3), at(2, -1), at(3, 2), at(4, 0)}
	q := []int32{0}
	for far, n := range []int{1, 2, 2, 2, 3, 3, 3, 3, 3, 4, 4} {
		checkWithin(t, l, q, 0, uint64(far), []api.Hit{hit(0, 4), hit(1, 2), hit(4, 3), hit(9, 1)}[:n]...)
	}
	checkWithin(t, nil, nil, 0, top)
	checkWithin(t, []api.Item{{}}, nil, 0, 0, hit(0, 0))
	checkWithin(t, l[:3], q, 0, 0)
	held := []api.Item{{Id: 8, Vec: slices.Repeat([]int32{leastNum}, 5)}, {Id: 7, Vec: slices.Repeat([]int32{leastNum}, 4)}, {Id: 9, Vec: slices.Repeat([]int32{leastNum}, 3)}}
	checkWithin(t, held, nil, 0, top, hit(3<<62, 9), hit(top, 7), hit(top, 8))
	checkWithin(t, held, nil, 0, top-1, hit(3<<62, 9))
	checkWithin(t, held, nil, 0, 3<<62-1)
	checkSearch(t, held, nil, 0, 2, hit(3<<62, 9), hit(top, 7))
	checkPlace(t, held, nil, 0, hit(top, 8), 2)
}

// 13.2: hits that are of no item, and of some; those that are equal are not ahead.
func TestPlace(t *testing.T) {
	l := []api.Item{at(5, 1), at(7, 2), at(5, 2), at(6, 0), at(7, -2)}
	q := []int32{0}
	for _, c := range []struct {
		h    api.Hit
		want int
	}{
		{hit(0, 0), 0}, {hit(0, 6), 0}, {hit(0, 7), 1}, {hit(0, top), 1},
		{hit(1, 0), 1}, {hit(1, 5), 1}, {hit(1, 6), 2}, {hit(3, 0), 2},
		{hit(4, 5), 2}, {hit(4, 6), 3}, {hit(4, 7), 3}, {hit(4, 8), 5},
		{hit(5, 0), 5}, {hit(top, 0), 5}, {hit(top, top), 5},
	} {
		checkPlace(t, l, q, 0, c.h, c.want)
		checkPlace(t, l, q, 1, c.h, 0)
		checkPlace(t, nil, q, 0, c.h, 0)
	}
}

// 13.1 to 13.3: items of all kinds, held against the document's words; what is found of less is the beginning of what is found of more.
func TestOfMany(t *testing.T) {
	d := draws(1)
	for range 4000 {
		l, q, mask := d.items(12), d.vector(), d.mask()
		counts := counting(l, q, mask)
		all := ordered(counts)
		for k := range len(l) + 2 {
			checkSearch(t, l, q, mask, k, all[:min(k, len(all))]...)
		}
		less, before := Search(l, q, mask, -1), Within(l, q, mask, 0)
		for n := range 40 {
			more, near := Search(l, q, mask, n), Within(l, q, mask, uint64(n))
			if !slices.Equal(more[:min(len(less), len(more))], less) || !slices.Equal(near[:min(len(before), len(near))], before) {
				t.Fatalf("of %v there are %v of less, and %v of more; %v of less, and %v of more", l, less, more, before, near)
			}
			if !slices.Equal(near, all[:len(near)]) || len(near) < len(all) && all[len(near)].Dist <= uint64(n) {
				t.Fatalf("within %d there are %v, of %v", n, near, all)
			}
			less, before = more, near
		}
		for _, h := range append(all, hit(d.next()%20, d.next()%7)) {
			n := 0
			for _, other := range counts {
				if ahead(other, h) {
					n++
				}
			}
			checkPlace(t, l, q, mask, h, n)
		}
		if t.Failed() {
			return
		}
	}
}

// 13.1: many items.
func TestSearchOfThousands(t *testing.T) {
	d := draws(2)
	l := make([]api.Item, 1<<16)
	for i := range l {
		l[i] = at(d.next()%1000, int32(d.next()%1000))
	}
	all := Search(l, []int32{400}, 0, len(l))
	if len(all) != len(l) {
		t.Fatalf("of %d items there are %d hits", len(l), len(all))
	}
	for i := 1; i < len(all); i++ {
		if ahead(all[i], all[i-1]) {
			t.Fatalf("%v stands behind %v", all[i], all[i-1])
		}
	}
	checkPlace(t, l, []int32{400}, 0, hit(top, top), len(l))
}

// 13.1 and 13.2: what is handed in stays as it is, and answers are new.
func TestItemsStay(t *testing.T) {
	l := []api.Item{{Id: 3, Vec: []int32{5, 1}, Tags: 3}, {Id: 2, Vec: []int32{0}, Tags: 1}, {Id: 1, Vec: []int32{2, 2, 2}, Tags: 7}}
	q := []int32{1, 2}
	before := fmt.Sprint(l, q)
	for _, call := range []func() []api.Hit{
		func() []api.Hit { return Search(l, q, 1, 2) },
		func() []api.Hit { return Search(l, q, 1, 3) },
		func() []api.Hit { return Within(l, q, 1, 10) },
		func() []api.Hit { Place(l, q, 1, hit(9, 9)); return nil },
	} {
		got := call()
		told := fmt.Sprint(got)
		clear(got[:cap(got)])
		if after := fmt.Sprint(l, q); after != before {
			t.Fatalf("%s became %s", before, after)
		}
		if again := fmt.Sprint(call()); again != told {
			t.Errorf("an answer is kept: %s, it was %s", again, told)
		}
	}
}
