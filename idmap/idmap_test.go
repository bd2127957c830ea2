package idmap

import (
	"fmt"
	"math"
	"slices"
	"testing"

	"ganglion/api"
	"ganglion/rng"
)

const (
	most  = math.MaxInt
	least = math.MinInt
)

// draws tells numbers that look like chance, the same ones each time.
type draws uint64

func (d *draws) next() uint64 {
	*d = *d*6364136223846793005 + 1442695040888963407
	return uint64(*d >> 32)
}

// below has a number from 0 to below n.
func (d *draws) below(n int) int {
	return int(d.next() % uint64(n))
}

// The kinds of things that are done to a map.
const (
	get = iota
	put
	drop
	kinds
)

// deed is one of them, with the id, and the ref.
type deed struct {
	kind int
	id   uint64
	ref  api.Ref
}

// do lets the map do it, and tells what it answers.
func do(m *Map, e deed) string {
	switch e.kind {
	case get:
		return fmt.Sprint(m.Get(e.id))
	case put:
		return fmt.Sprint(m.Put(e.id, e.ref))
	}
	return fmt.Sprint(m.Drop(e.id))
}

// said is a map by the document's words: what ids have which ref, rising.
type said struct {
	shards  int
	named   []api.Named
	version int
}

// place is where an id stands, or would stand, and whether it has a ref.
func (s *said) place(id uint64) (int, bool) {
	i := 0
	for i < len(s.named) && s.named[i].Id < id {
		i++
	}
	return i, i < len(s.named) && s.named[i].Id == id
}

func (s *said) do(e deed) string {
	i, has := s.place(e.id)
	var ref api.Ref
	if has {
		ref = s.named[i].Ref
	}
	switch e.kind {
	case put:
		if !has {
			s.named = slices.Insert(s.named, i, api.Named{Id: e.id, Ref: e.ref})
			s.version++
		}
		return fmt.Sprint(!has)
	case drop:
		if has {
			s.named = slices.Delete(s.named, i, i+1)
			s.version++
		}
	}
	return fmt.Sprint(ref, has)
}

// newMap is a map of so many shards; the test fails, if there is none.
func newMap(t *testing.T, shards int) *Map {
	t.Helper()
	m, why := New(shards)
	if m == nil || why != api.OK {
		t.Fatalf("New(%d) = %v, %v", shards, m, why)
	}
	return m
}

// tells fails unless the map tells just what is said.
func tells(t *testing.T, m *Map, s *said) {
	t.Helper()
	if m.Len() != len(s.named) || m.Version() != s.version {
		t.Errorf("Len %d, Version %d, want %d, %d", m.Len(), m.Version(), len(s.named), s.version)
	}
	if got := m.List(); !slices.Equal(got, s.named) {
		t.Errorf("List() = %v, want %v", got, s.named)
	}
	sizes := map[int]int{}
	for _, n := range s.named {
		sizes[int(rng.Below(rng.Mix(n.Id), uint64(s.shards)))]++
		if r, has := m.Get(n.Id); !has || r != n.Ref {
			t.Errorf("Get(%d) = %v, %v, want %v", n.Id, r, has, n.Ref)
		}
	}
	for shard := -1; shard <= s.shards; shard++ {
		if got := m.Size(shard); got != sizes[shard] {
			t.Errorf("Size(%d) = %d, want %d", shard, got, sizes[shard])
		}
	}
}

// sameRun fails unless a map of so many shards answers, and tells, all of this as it is said.
func sameRun(t *testing.T, shards int, deeds []deed) {
	t.Helper()
	m, s := newMap(t, shards), &said{shards: shards}
	for i, e := range deeds {
		if got, want := do(m, e), s.do(e); got != want {
			t.Fatalf("%v: %d answers %s, want %s", deeds, i, got, want)
		}
	}
	tells(t, m, s)
}

// 22.1: there may be from 1 to 64 shards; at first there is nothing.
func TestNew(t *testing.T) {
	for _, n := range []int{0, -1, 65, least, most, 1 << 32, 1<<32 + 1} {
		if m, why := New(n); m != nil || why != api.ErrRange {
			t.Errorf("New(%d) = %v, %v", n, m, why)
		}
	}
	for _, n := range []int{1, 2, 63, 64} {
		m := newMap(t, n)
		tells(t, m, &said{shards: n})
		for _, id := range []uint64{0, 1, math.MaxUint64} {
			if r, has := m.Get(id); has || r != (api.Ref{}) {
				t.Errorf("Get(%d) = %v, %v", id, r, has)
			}
		}
	}
}

// 22.1: an id has the ref that was put first, till it is dropped; the version counts what was changed. The first row is example 1.
func TestRuns(t *testing.T) {
	one, two := api.Ref{Slot: 1, Gen: 5}, api.Ref{Slot: 2}
	for _, c := range []struct {
		deeds   []deed
		want    []string
		version int
	}{
		{[]deed{{put, 9, one}, {put, 9, one}, {drop, 9, one}}, []string{"true", "false", "{1 5} true"}, 2},
		{[]deed{{put, 9, one}, {put, 9, two}, {get, 9, two}}, []string{"true", "false", "{1 5} true"}, 1},
		{[]deed{{get, 9, one}, {drop, 9, one}, {put, 9, two}, {get, 9, one}}, []string{"{0 0} false", "{0 0} false", "true", "{2 0} true"}, 1},
		{[]deed{{put, 9, one}, {drop, 9, two}, {drop, 9, one}, {get, 9, one}}, []string{"true", "{1 5} true", "{0 0} false", "{0 0} false"}, 2},
		{[]deed{{put, 9, one}, {drop, 9, two}, {put, 9, two}, {get, 9, one}}, []string{"true", "{1 5} true", "true", "{2 0} true"}, 3},
		// Ids have nothing to do with one another, though they may have one ref.
		{[]deed{{put, 9, one}, {put, 0, one}, {drop, 9, one}, {get, 0, two}}, []string{"true", "true", "{1 5} true", "{1 5} true"}, 3},
		// A ref of zeros is one, too.
		{[]deed{{put, 0, api.Ref{}}, {put, 0, one}, {get, 0, one}, {drop, 0, one}, {drop, 0, one}}, []string{"true", "false", "{0 0} true", "{0 0} true", "{0 0} false"}, 2},
		{[]deed{{put, math.MaxUint64, api.Ref{Slot: least, Gen: most}}, {get, math.MaxUint64, one}, {get, 1<<63 - 1, one}}, []string{"true", fmt.Sprintf("{%d %d} true", least, most), "{0 0} false"}, 1},
	} {
		for _, shards := range []int{1, 2, 64} {
			m := newMap(t, shards)
			for i, e := range c.deeds {
				if got := do(m, e); got != c.want[i] {
					t.Errorf("%v: %d answers %s, want %s", c.deeds, i, got, c.want[i])
				}
			}
			if m.Version() != c.version {
				t.Errorf("behind %v the version is %d, want %d", c.deeds, m.Version(), c.version)
			}
		}
	}
}

// 22.2: an id's shard is Below of its Mix and the number of shards; the first ones were reckoned elsewhere.
func TestShard(t *testing.T) {
	for _, c := range []struct {
		shards int
		want   []int
	}{
		{1, []int{0, 0, 0, 0}},
		{2, []int{1, 1, 1, 0}},
		{64, []int{56, 36, 37, 7}},
	} {
		m := newMap(t, c.shards)
		for id, want := range c.want {
			if got := m.Shard(uint64(id)); got != want {
				t.Errorf("of %d the shard of %d is %d, want %d", c.shards, id, got, want)
			}
		}
	}
	d := draws(5)
	for shards := 1; shards <= 64; shards++ {
		m := newMap(t, shards)
		for range 200 {
			id := d.next()<<32 | d.next()
			got, want := m.Shard(id), int(rng.Below(rng.Mix(id), uint64(shards)))
			if got != want {
				t.Errorf("of %d the shard of %d is %d, want %d", shards, id, got, want)
			}
			// It is that one that is greater by one when it is put.
			size := m.Size(want)
			if !m.Put(id, api.Ref{}) || m.Size(want) != size+1 || m.Shard(id) != want {
				t.Errorf("of %d: %d does not stand in its shard", shards, id)
			}
		}
		if m.Len() != 200 {
			t.Errorf("Len() = %d", m.Len())
		}
	}
}

// 22.2: in a shard that there is not nothing is.
func TestNoSuchShard(t *testing.T) {
	m := newMap(t, 3)
	for id := range uint64(100) {
		m.Put(id, api.Ref{Slot: 1})
	}
	for _, none := range []int{-1, 3, 64, least, most, 1 << 32, 1<<32 + 1} {
		if got := m.Size(none); got != 0 {
			t.Errorf("Size(%d) = %d", none, got)
		}
	}
	if sum := m.Size(0) + m.Size(1) + m.Size(2); sum != 100 || m.Len() != 100 {
		t.Errorf("the shards have %d", sum)
	}
}

// 22.2: all ids that have a ref are told rising, whatever the order in which they were put.
func TestList(t *testing.T) {
	want := []api.Named{{Id: 0, Ref: api.Ref{Slot: 4}}, {Id: 1}, {Id: 2, Ref: api.Ref{Slot: 1, Gen: 1}}, {Id: 1 << 32}, {Id: 1 << 63}, {Id: math.MaxUint64, Ref: api.Ref{Slot: 1}}}
	for _, shards := range []int{1, 2, 64} {
		for turn := range want {
			m := newMap(t, shards)
			for i := range want {
				n := want[(i*5+turn)%len(want)]
				m.Put(n.Id, n.Ref)
			}
			if got := m.List(); !slices.Equal(got, want) {
				t.Errorf("List() = %v, want %v", got, want)
			}
			m.Drop(2)
			if got := m.List(); !slices.Equal(got, slices.Delete(slices.Clone(want), 2, 3)) {
				t.Errorf("List() = %v", got)
			}
		}
	}
}

// A list that was told is new memory, and two maps have nothing in common.
func TestApart(t *testing.T) {
	a, b := newMap(t, 1), newMap(t, 1)
	a.Put(1, api.Ref{Slot: 1})
	a.Put(2, api.Ref{Slot: 2})
	tells(t, b, &said{shards: 1})
	l := a.List()
	l[0], l[1] = api.Named{}, api.Named{}
	tells(t, a, &said{shards: 1, version: 2, named: []api.Named{{Id: 1, Ref: api.Ref{Slot: 1}}, {Id: 2, Ref: api.Ref{Slot: 2}}}})
}

// 22.2: of a nil map: zero, false, nothing.
func TestNilMap(t *testing.T) {
	var m *Map
	for _, id := range []uint64{0, 1, 77, math.MaxUint64} {
		r, has := m.Get(id)
		dropped, did := m.Drop(id)
		if has || did || r != (api.Ref{}) || dropped != (api.Ref{}) || m.Put(id, api.Ref{Slot: 1}) || m.Shard(id) != 0 {
			t.Errorf("a nil map has %d", id)
		}
	}
	for _, shard := range []int{0, 1, -1, least, most} {
		if m.Size(shard) != 0 {
			t.Errorf("a nil map has a shard %d", shard)
		}
	}
	if m.Len() != 0 || m.Version() != 0 || len(m.List()) != 0 {
		t.Errorf("a nil map has %v", m.List())
	}
}

// 22.1, 22.2: whatever few deeds are done, all is as it is said.
func TestFewDeeds(t *testing.T) {
	var all []deed
	for kind := range kinds {
		for id := range uint64(3) {
			all = append(all, deed{kind, id, api.Ref{Slot: int(id) + 1}})
		}
	}
	var each func(deeds []deed, left int)
	each = func(deeds []deed, left int) {
		if left == 0 {
			sameRun(t, 2, deeds)
			return
		}
		for i, e := range all {
			e.ref.Gen = i + len(deeds)
			each(append(slices.Clip(deeds), e), left-1)
		}
	}
	each(nil, 4)
}

// 22.1, 22.2: so it is of many deeds.
func TestManyDeeds(t *testing.T) {
	d := draws(22)
	for range 300 {
		var deeds []deed
		for range 100 {
			id := uint64(d.below(20))
			if d.below(2) == 0 {
				id = -id
			}
			deeds = append(deeds, deed{d.below(kinds), id, api.Ref{Slot: d.below(9), Gen: d.below(9)}})
		}
		sameRun(t, 1+d.below(64), deeds)
	}
}

// 22.3: a put does something just if a drop would not have.
func TestOneAtMost(t *testing.T) {
	d := draws(223)
	for range 100 {
		a, b := newMap(t, 4), newMap(t, 4)
		for range 60 {
			// Both maps are the same up to here: a drops, b puts.
			id, ref := uint64(d.below(5)), api.Ref{Slot: d.below(3)}
			_, dropped := a.Drop(id)
			put := b.Put(id, ref)
			if put == dropped {
				t.Fatalf("of %d a drop does %v, and a put %v", id, dropped, put)
			}
			// Now a is as it was with id dropped, b as it was with id put: they meet again by one deed of either kind.
			if d.below(2) == 0 {
				b.Drop(id)
			} else if r, has := b.Get(id); has {
				a.Put(id, r)
			}
			if !slices.Equal(a.List(), b.List()) {
				t.Fatalf("they part: %v and %v", a.List(), b.List())
			}
		}
	}
}
