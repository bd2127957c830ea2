package rank

import (
	"fmt"
	"math"
	"slices"
	"testing"

	"ganglion/api"
)

const (
	top   = math.MaxUint64
	most  = math.MaxInt
	least = math.MinInt
)

// draws tells numbers that look like chance, the same ones each time.
type draws uint64

func (d *draws) next() uint64 {
	*d = *d*6364136223846793005 + 1442695040888963407
	return uint64(*d >> 32)
}

// number has few numbers, so that many are equal, and those at both ends.
func (d *draws) number() uint64 {
	return []uint64{0, 1, 2, 3, 1 << 31, 1 << 63, top - 1, top}[d.next()%8]
}

func (d *draws) hit() api.Hit {
	return api.Hit{Dist: d.number(), Id: d.number()}
}

func (d *draws) spot() api.Spot {
	return api.Spot{Hit: d.hit(), Slot: int(d.number())}
}

// hits has up to so many hits.
func (d *draws) hits(n int) []api.Hit {
	l := make([]api.Hit, d.next()%uint64(n+1))
	for i := range l {
		l[i] = d.hit()
	}
	return l
}

// spots has up to so many spots.
func (d *draws) spots(n int) []api.Spot {
	l := make([]api.Spot, d.next()%uint64(n+1))
	for i := range l {
		l[i] = d.spot()
	}
	return l
}

// hit is that with this distance and id.
func hit(dist, id uint64) api.Hit {
	return api.Hit{Dist: dist, Id: id}
}

// spot is that with this distance, id and slot.
func spot(dist, id uint64, slot int) api.Spot {
	return api.Spot{Hit: hit(dist, id), Slot: slot}
}

// risingHits are unlike hits, each ahead of those behind it.
func risingHits() []api.Hit {
	return []api.Hit{
		hit(0, 0), hit(0, 1), hit(0, 1<<63), hit(0, top),
		hit(1, 0), hit(1, 5), hit(2, 1), hit(2, 9), hit(3, 2),
		hit(1<<32, 0), hit(1<<32, 1<<32), hit(1<<63-1, top), hit(1<<63, 0), hit(1<<63, 1<<63-1), hit(1<<63, 1<<63),
		hit(top-1, top), hit(top, 0), hit(top, 1<<63-1), hit(top, top-1), hit(top, top),
	}
}

// risingSpots are unlike spots, each ahead of those behind it.
func risingSpots() []api.Spot {
	var l []api.Spot
	for _, h := range risingHits() {
		for _, slot := range []int{least, -1, 0, 1, 2, 1 << 32, most} {
			l = append(l, api.Spot{Hit: h, Slot: slot})
		}
	}
	return l
}

// ordered has the spots of l in order, by the document's words: the one that no other is ahead of goes first, again and again.
func ordered(l []api.Spot) []api.Spot {
	rest, out := slices.Clone(l), []api.Spot{}
	for len(rest) > 0 {
		first := 0
		for i := range rest {
			if Spot(rest[i], rest[first]) {
				first = i
			}
		}
		out = append(out, rest[first])
		rest = slices.Delete(rest, first, first+1)
	}
	return out
}

// 7.1: the distance goes ahead of the id.
func TestHit(t *testing.T) {
	for i, a := range risingHits() {
		for k, b := range risingHits() {
			if got := Hit(a, b); got != (i < k) {
				t.Errorf("Hit(%v, %v) = %v", a, b, got)
			}
		}
	}
}

// 7.1: the hit goes ahead of the slot.
func TestSpot(t *testing.T) {
	for i, a := range risingSpots() {
		for k, b := range risingSpots() {
			if got := Spot(a, b); got != (i < k) {
				t.Errorf("Spot(%v, %v) = %v", a, b, got)
			}
		}
	}
}

// 7.1: spots in order, as often as they are there.
func TestSort(t *testing.T) {
	for _, c := range []struct{ l, want []api.Spot }{
		{nil, nil},
		{[]api.Spot{}, nil},
		{[]api.Spot{{}}, []api.Spot{{}}},
		{[]api.Spot{spot(2, 1, 1), spot(1, 2, 2)}, []api.Spot{spot(1, 2, 2), spot(2, 1, 1)}},
		{[]api.Spot{spot(1, 2, 1), spot(1, 1, 2)}, []api.Spot{spot(1, 1, 2), spot(1, 2, 1)}},
		{[]api.Spot{spot(1, 1, 2), spot(1, 1, 1)}, []api.Spot{spot(1, 1, 1), spot(1, 1, 2)}},
		{[]api.Spot{spot(1, 1, 0), spot(1, 1, -1)}, []api.Spot{spot(1, 1, -1), spot(1, 1, 0)}},
		{[]api.Spot{spot(top, 0, 0), spot(1, 0, 0)}, []api.Spot{spot(1, 0, 0), spot(top, 0, 0)}},
		{[]api.Spot{spot(3, 1, 1), spot(3, 1, 1), spot(1, 1, 1), spot(3, 1, 1)}, []api.Spot{spot(1, 1, 1), spot(3, 1, 1), spot(3, 1, 1), spot(3, 1, 1)}},
	} {
		if got := Sort(c.l); !slices.Equal(got, c.want) {
			t.Errorf("Sort(%v) = %v, want %v", c.l, got, c.want)
		}
	}
	rising := risingSpots()
	falling := slices.Clone(rising)
	slices.Reverse(falling)
	if !slices.Equal(Sort(rising), rising) || !slices.Equal(Sort(falling), rising) {
		t.Error("spots that rise, or fall, are not in order")
	}
}

// 7.1: lists of all kinds.
func TestSortOfMany(t *testing.T) {
	d := draws(1)
	for range 2000 {
		l := d.spots(40)
		if got, want := Sort(l), ordered(l); !slices.Equal(got, want) {
			t.Fatalf("Sort(%v) = %v, want %v", l, got, want)
		}
	}
}

// 7.1: the first ones; none, and all.
func TestLeast(t *testing.T) {
	l := []api.Spot{spot(3, 1, 1), spot(1, 9, 2), spot(1, 2, 3), spot(3, 1, 1), spot(1, 2, 1)}
	sorted := []api.Spot{spot(1, 2, 1), spot(1, 2, 3), spot(1, 9, 2), spot(3, 1, 1), spot(3, 1, 1)}
	for _, c := range []struct{ k, want int }{
		{least, 0}, {-1, 0}, {0, 0}, {1, 1}, {2, 2}, {3, 3}, {4, 4}, {5, 5}, {6, 5}, {1000, 5}, {most, 5},
	} {
		if got := Least(l, c.k); !slices.Equal(got, sorted[:c.want]) {
			t.Errorf("Least(%v, %d) = %v, want %v", l, c.k, got, sorted[:c.want])
		}
	}
	for _, k := range []int{least, -1, 0, 1, most} {
		if len(Least(nil, k)) != 0 || len(Least([]api.Spot{}, k)) != 0 {
			t.Errorf("Least of none has some, for %d", k)
		}
	}
}

// 7.1: the first ones of lists of all kinds.
func TestLeastOfMany(t *testing.T) {
	d := draws(2)
	for range 2000 {
		l := d.spots(20)
		for k := -1; k <= len(l)+1; k++ {
			want := ordered(l)[:max(0, min(k, len(l)))]
			if got := Least(l, k); !slices.Equal(got, want) {
				t.Fatalf("Least(%v, %d) = %v, want %v", l, k, got, want)
			}
		}
	}
}

// 7.2: hits of both lists, each one once, whatever order they come in.
func TestMerge(t *testing.T) {
	for _, c := range []struct{ a, b, want []api.Hit }{
		{[]api.Hit{hit(1, 5), hit(3, 2)}, []api.Hit{hit(1, 5), hit(2, 9)}, []api.Hit{hit(1, 5), hit(2, 9), hit(3, 2)}},
		{nil, nil, nil},
		{nil, []api.Hit{}, nil},
		{nil, []api.Hit{{}}, []api.Hit{{}}},
		{[]api.Hit{{}}, []api.Hit{{}}, []api.Hit{{}}},
		{[]api.Hit{hit(2, 1), hit(1, 2)}, nil, []api.Hit{hit(1, 2), hit(2, 1)}},
		{nil, []api.Hit{hit(1, 2), hit(1, 1)}, []api.Hit{hit(1, 1), hit(1, 2)}},
		{[]api.Hit{hit(1, 1), hit(1, 1), hit(1, 1)}, nil, []api.Hit{hit(1, 1)}},
		{[]api.Hit{hit(2, 2), hit(1, 1), hit(2, 2)}, []api.Hit{hit(1, 1), hit(2, 2), hit(1, 1)}, []api.Hit{hit(1, 1), hit(2, 2)}},
		// Equal in one of the two alone: these are not one.
		{[]api.Hit{hit(1, 1), hit(1, 2)}, []api.Hit{hit(2, 1), hit(2, 2)}, []api.Hit{hit(1, 1), hit(1, 2), hit(2, 1), hit(2, 2)}},
		{[]api.Hit{hit(top, top)}, []api.Hit{hit(0, top), hit(top, 0)}, []api.Hit{hit(0, top), hit(top, 0), hit(top, top)}},
	} {
		if got := Merge(c.a, c.b); !slices.Equal(got, c.want) {
			t.Errorf("Merge(%v, %v) = %v, want %v", c.a, c.b, got, c.want)
		}
		if got := Merge(c.b, c.a); !slices.Equal(got, c.want) {
			t.Errorf("Merge(%v, %v) = %v, want %v", c.b, c.a, got, c.want)
		}
	}
}

// 7.2: lists of all kinds; what is merged rises, has all that was handed in, and nothing else.
func TestMergeOfMany(t *testing.T) {
	d := draws(3)
	for range 5000 {
		a, b := d.hits(12), d.hits(12)
		got, met := Merge(a, b), map[api.Hit]int{}
		for _, h := range slices.Concat(a, b) {
			met[h]++
		}
		for _, h := range got {
			if met[h] == 0 {
				t.Fatalf("Merge(%v, %v) has %v", a, b, h)
			}
		}
		if len(got) != len(met) || !Rising(got) {
			t.Fatalf("Merge(%v, %v) = %v", a, b, got)
		}
	}
}

// 7.2: few hits, those that are equal, and those that fall.
func TestRising(t *testing.T) {
	for _, c := range []struct {
		l    []api.Hit
		want bool
	}{
		{nil, true}, {[]api.Hit{}, true}, {[]api.Hit{{}}, true}, {[]api.Hit{hit(top, top)}, true},
		{[]api.Hit{hit(1, 1), hit(1, 2)}, true}, {[]api.Hit{hit(1, 2), hit(2, 1)}, true},
		{[]api.Hit{hit(1, 1), hit(1, 1)}, false}, {[]api.Hit{{}, {}}, false},
		{[]api.Hit{hit(1, 2), hit(1, 1)}, false}, {[]api.Hit{hit(2, 1), hit(1, 2)}, false},
		{[]api.Hit{hit(1, 5), hit(2, 9), hit(3, 2)}, true},
		{[]api.Hit{hit(1, 5), hit(2, 9), hit(2, 9)}, false},
		{[]api.Hit{hit(1, 5), hit(1, 5), hit(2, 9)}, false},
		{[]api.Hit{hit(1, 5), hit(3, 2), hit(2, 9), hit(4, 0)}, false},
		{[]api.Hit{hit(2, 0), hit(1, 0), hit(3, 0)}, false},
		{[]api.Hit{hit(1<<63-1, 0), hit(1<<63, 0)}, true}, {[]api.Hit{hit(0, top), hit(0, 1)}, false},
	} {
		if got := Rising(c.l); got != c.want {
			t.Errorf("Rising(%v) = %v", c.l, got)
		}
	}
}

// 7.2: a long list with one place at which it does not rise.
func TestRisingAtOnePlace(t *testing.T) {
	rising := risingHits()
	if !Rising(rising) {
		t.Fatal("each hit is ahead of the next")
	}
	for i := 1; i < len(rising); i++ {
		twice, swapped := slices.Clone(rising), slices.Clone(rising)
		twice[i] = twice[i-1]
		swapped[i-1], swapped[i] = swapped[i], swapped[i-1]
		if Rising(twice) || Rising(swapped) {
			t.Errorf("at place %d it does not rise", i)
		}
	}
}

// 7.3: of two unlike ones just one is ahead of the other; of those that are alike none.
func TestOneOrder(t *testing.T) {
	d := draws(4)
	for range 20000 {
		a, b, c := d.spot(), d.spot(), d.spot()
		if one, other := Spot(a, b), Spot(b, a); one && other || (one || other) == (a == b) {
			t.Fatalf("of %v and %v: %v, %v", a, b, one, other)
		}
		if one, other := Hit(a.Hit, b.Hit), Hit(b.Hit, a.Hit); one && other || (one || other) == (a.Hit == b.Hit) {
			t.Fatalf("of %v and %v: %v, %v", a.Hit, b.Hit, one, other)
		}
		if Spot(a, b) && Spot(b, c) && !Spot(a, c) {
			t.Fatalf("%v is ahead of %v, which is ahead of %v", a, b, c)
		}
	}
}

// 7.4: the least of two lists are the least of the least of each.
func TestInParts(t *testing.T) {
	d := draws(5)
	for range 5000 {
		a, b := d.spots(12), d.spots(12)
		for k := -1; k <= 26; k++ {
			whole := Least(slices.Concat(a, b), k)
			parts := Least(slices.Concat(Least(a, k), Least(b, k)), k)
			if !slices.Equal(whole, parts) {
				t.Fatalf("the least %d of %v and %v: %v, in parts %v", k, a, b, whole, parts)
			}
		}
	}
}

// 7.1 and 7.2: what is handed in stays as it is, and is not what is told.
func TestListsStay(t *testing.T) {
	spots := []api.Spot{spot(2, 1, 1), spot(1, 2, 2), spot(1, 2, 2)}
	a, b := make([]api.Hit, 2, 9), make([]api.Hit, 2, 9)
	copy(a, []api.Hit{hit(3, 2), hit(1, 5)})
	copy(b, []api.Hit{hit(2, 9), hit(1, 5)})
	before := fmt.Sprint(spots, a[:9], b[:9])
	Rising(a)
	clear(Sort(spots))
	clear(Sort(spots[:1]))
	clear(Least(spots, 2))
	clear(Least(spots, most))
	clear(Merge(a, b))
	clear(Merge(a, nil))
	clear(Merge(nil, b[:1]))
	if after := fmt.Sprint(spots, a[:9], b[:9]); after != before {
		t.Errorf("%s became %s", before, after)
	}
}
