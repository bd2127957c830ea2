package model

import (
	"fmt"
	"math"
	"slices"
	"testing"

	"ganglion/api"
	"ganglion/rank"
	"ganglion/tag"
	"ganglion/vec"
)

const (
	most  = math.MaxInt
	least = math.MinInt
)

// draws tells numbers that look like chance, the same ones each time.
type draws uint64

func (d *draws) next() uint64 {
	*d = *d*6364136223846793005 + 1442695040888963407
	return uint64(*d >> 32)
}

// below has a number from 0 to below n.
func (d *draws) below(n int) int {
	return int(d.next() % uint64(n))
}

// call is a call of few ids, with vectors of two small components; now and then it may not be.
func (d *draws) call() api.Call {
	c := api.Call{Kind: d.below(api.CallClose), K: d.below(4), Ef: d.below(4), Draw: d.next()}
	c.Item = api.Item{Id: uint64(d.below(5)), Vec: []int32{int32(d.below(5)), int32(d.below(5))}, Tags: uint64(d.below(4))}
	switch d.below(30) {
	case 0:
		c.K = -1
	case 1:
		c.Ef = api.MaxEf + 1
	case 2:
		c.Item.Vec = c.Item.Vec[:1]
	case 3:
		c.Kind = api.CallClose
	}
	return c
}

// insert, drop, get and search are calls for vectors of one component.
func insert(id uint64, at int32, tags uint64) api.Call {
	return api.Call{Kind: api.CallInsert, Item: api.Item{Id: id, Vec: []int32{at}, Tags: tags}}
}

func drop(id uint64) api.Call {
	return api.Call{Kind: api.CallDelete, Item: api.Item{Id: id}}
}

func get(id uint64) api.Call {
	return api.Call{Kind: api.CallGet, Item: api.Item{Id: id}}
}

func search(at int32, tags uint64, k int) api.Call {
	return api.Call{Kind: api.CallSearch, Item: api.Item{Vec: []int32{at}, Tags: tags}, K: k}
}

// The calls that name nothing.
var (
	count = api.Call{Kind: api.CallLen}
	end   = api.Call{Kind: api.CallClose}
)

// deed is a call, and what comes of it beside the call, as text.
type deed struct {
	call api.Call
	want string
}

// why is an end that has an error alone.
func why(e api.Errno) string {
	return answers(api.Told{Err: e})
}

// answers is an end without its call, as text.
func answers(told api.Told) string {
	told.Call = api.Call{}
	return fmt.Sprint(told)
}

// run does the deeds, and fails unless each of them answers as it should, and has its call.
func run(t *testing.T, m *Map, deeds ...deed) {
	t.Helper()
	for i, e := range deeds {
		got := m.Do(e.call)
		if fmt.Sprint(got.Call) != fmt.Sprint(e.call) {
			t.Errorf("%d: of %v the call is told as %v", i, e.call, got.Call)
		}
		if answers(got) != e.want {
			t.Errorf("%d: %v answers %s, want %s", i, e.call, answers(got), e.want)
		}
	}
}

// said is a map by the words of the document: items in the order of their inserts.
type said struct {
	dim    int
	items  []api.Item
	closed bool
}

// may tells whether a call may be.
func may(c api.Call, dim int) bool {
	switch c.Kind {
	case api.CallInsert:
		return vec.Check(c.Item.Vec, dim) == api.OK
	case api.CallSearch:
		return vec.Check(c.Item.Vec, dim) == api.OK && c.K >= 0 && c.Ef >= 0 && c.Ef <= api.MaxEf
	}
	return c.Kind >= api.CallInsert && c.Kind <= api.CallClose
}

// do is the end of the call.
func (s *said) do(c api.Call) api.Told {
	told := api.Told{Call: c}
	place := slices.IndexFunc(s.items, func(it api.Item) bool { return it.Id == c.Item.Id })
	switch {
	case s.closed:
		told.Err = api.ErrClosed
	case !may(c, s.dim):
		told.Err = api.ErrInvalid
	case c.Kind == api.CallInsert && place >= 0:
		told.Err = api.ErrExists
	case c.Kind == api.CallInsert:
		s.items = append(s.items, c.Item)
	case (c.Kind == api.CallDelete || c.Kind == api.CallGet) && place < 0:
		told.Err = api.ErrNotFound
	case c.Kind == api.CallDelete:
		s.items = slices.Delete(s.items, place, place+1)
	case c.Kind == api.CallGet:
		told.Item = s.items[place]
	case c.Kind == api.CallSearch:
		told.Hits = s.hits(c)
	case c.Kind == api.CallLen:
		told.Len = len(s.items)
	case c.Kind == api.CallClose:
		s.closed = true
	}
	return told
}

// hits has the nearest ones, each put where it belongs.
func (s *said) hits(c api.Call) []api.Hit {
	var l []api.Hit
	for _, it := range s.items {
		if !tag.Has(it.Tags, c.Item.Tags) {
			continue
		}
		h := api.Hit{Dist: vec.Dist(it.Vec, c.Item.Vec), Id: it.Id}
		place := 0
		for place < len(l) && rank.Hit(l[place], h) {
			place++
		}
		l = slices.Insert(l, place, h)
	}
	return l[:min(c.K, len(l))]
}

// sorted has the items by rising ids.
func (s *said) sorted() []api.Item {
	l := slices.Clone(s.items)
	slices.SortFunc(l, func(a, b api.Item) int {
		if a.Id < b.Id {
			return -1
		}
		return 1
	})
	return l
}

// isAs fails, unless the map has what is said.
func isAs(t *testing.T, m *Map, s *said) {
	t.Helper()
	if fmt.Sprint(m.Items()) != fmt.Sprint(s.sorted()) || m.Closed() != s.closed {
		t.Fatalf("it has %v, %v; want %v, %v", m.Items(), m.Closed(), s.sorted(), s.closed)
	}
}

// 25.1: a call may be, if its kind is one of the six; an insert and a search need a right vector.
func TestValidVec(t *testing.T) {
	long := make([]int32, api.MaxDim+1)
	vecs := []struct {
		vec   []int32
		dim   int
		right bool
	}{
		{[]int32{0}, 1, true},
		{[]int32{api.MaxComp, -api.MaxComp}, 2, true},
		{long[1:], api.MaxDim, true},
		{[]int32{api.MaxComp + 1}, 1, false},
		{[]int32{0, -api.MaxComp - 1}, 2, false},
		{[]int32{0}, 2, false},
		{[]int32{0, 0}, 1, false},
		{nil, 1, false},
		{nil, 0, false},
		{[]int32{}, 0, false},
		{[]int32{0}, -1, false},
		{[]int32{0}, least, false},
		{long, api.MaxDim + 1, false},
		{[]int32{0}, most, false},
	}
	kinds := []int{least, -1, api.CallNone, api.CallInsert, api.CallDelete, api.CallGet, api.CallSearch, api.CallLen, api.CallClose, api.CallCount, 1<<32 + 1, most}
	for _, v := range vecs {
		for _, kind := range kinds {
			want := api.ErrInvalid
			switch kind {
			case api.CallDelete, api.CallGet, api.CallLen, api.CallClose:
				want = api.OK
			case api.CallInsert, api.CallSearch:
				if v.right {
					want = api.OK
				}
			}
			c := api.Call{Kind: kind, Item: api.Item{Vec: v.vec}}
			if got := Valid(c, v.dim); got != want {
				t.Errorf("Valid of kind %d with %d components for %d = %v, want %v", kind, len(v.vec), v.dim, got, want)
			}
		}
	}
}

// 25.1: K and Ef of a search have bounds; those of other calls have none.
func TestValidNumbers(t *testing.T) {
	for _, k := range []int{least, -1, 0, 1, api.MaxEf + 1, most} {
		for _, ef := range []int{least, -1, 0, 1, api.MaxEf, api.MaxEf + 1, 1 << 32, most} {
			for kind := api.CallNone; kind <= api.CallCount; kind++ {
				c := api.Call{Kind: kind, Item: api.Item{Vec: []int32{1}}, K: k, Ef: ef}
				want := api.OK
				if kind == api.CallNone || kind == api.CallCount {
					want = api.ErrInvalid
				}
				if kind == api.CallSearch && (k < 0 || ef < 0 || ef > api.MaxEf) {
					want = api.ErrInvalid
				}
				if got := Valid(c, 1); got != want {
					t.Errorf("Valid of kind %d, K %d, Ef %d = %v, want %v", kind, k, ef, got, want)
				}
			}
		}
	}
}

// 25.1: a new map is empty, and not closed; what is there is told by rising ids, and by each id.
func TestItems(t *testing.T) {
	m := New(1)
	if len(m.Items()) != 0 || m.Closed() {
		t.Errorf("a new map has %v, %v", m.Items(), m.Closed())
	}
	if it, is := m.Get(0); is || fmt.Sprint(it) != "{0 [] 0}" {
		t.Errorf("Get of an empty map = %v, %v", it, is)
	}
	ids := []uint64{7, 0, math.MaxUint64, 3, 1 << 63, 5, 1, 9}
	for _, id := range ids {
		m.Do(insert(id, int32(id%100), id+1))
	}
	slices.Sort(ids)
	var want []api.Item
	for _, id := range ids {
		it := api.Item{Id: id, Vec: []int32{int32(id % 100)}, Tags: id + 1}
		want = append(want, it)
		if got, is := m.Get(id); !is || fmt.Sprint(got) != fmt.Sprint(it) {
			t.Errorf("Get(%d) = %v, %v, want %v", id, got, is, it)
		}
	}
	if got := m.Items(); fmt.Sprint(got) != fmt.Sprint(want) {
		t.Errorf("Items = %v, want %v", got, want)
	}
	if it, is := m.Get(2); is || fmt.Sprint(it) != "{0 [] 0}" {
		t.Errorf("Get(2) = %v, %v", it, is)
	}
}

// 25.2: what comes of each kind of call. It begins with example 1.
func TestDo(t *testing.T) {
	m := New(1)
	run(t, m,
		deed{insert(5, 1, 1), why(api.OK)},
		deed{insert(5, 2, 2), why(api.ErrExists)},
		deed{get(5), answers(api.Told{Item: insert(5, 1, 1).Item})},
		deed{get(6), why(api.ErrNotFound)},
		deed{drop(6), why(api.ErrNotFound)},
		deed{count, answers(api.Told{Len: 1})},
		deed{insert(0, 4, 3), why(api.OK)},
		deed{insert(9, -2, 2), why(api.OK)},
		deed{insert(8, -2, 3), why(api.OK)},
		deed{count, answers(api.Told{Len: 4})},
		deed{search(1, 0, 9), answers(api.Told{Hits: []api.Hit{{Dist: 0, Id: 5}, {Dist: 9, Id: 0}, {Dist: 9, Id: 8}, {Dist: 9, Id: 9}}})},
		deed{search(1, 0, 2), answers(api.Told{Hits: []api.Hit{{Dist: 0, Id: 5}, {Dist: 9, Id: 0}}})},
		deed{search(-2, 1, 2), answers(api.Told{Hits: []api.Hit{{Dist: 0, Id: 8}, {Dist: 9, Id: 5}}})},
		deed{search(1, 3, most), answers(api.Told{Hits: []api.Hit{{Dist: 9, Id: 0}, {Dist: 9, Id: 8}}})},
		deed{search(1, 4, 9), why(api.OK)},
		deed{search(1, 0, 0), why(api.OK)},
		deed{drop(5), why(api.OK)},
		deed{drop(5), why(api.ErrNotFound)},
		deed{get(5), why(api.ErrNotFound)},
		deed{insert(5, 2, 0), why(api.OK)},
		deed{get(5), answers(api.Told{Item: insert(5, 2, 0).Item})},
		deed{end, why(api.OK)},
		deed{end, why(api.ErrClosed)},
		deed{count, why(api.ErrClosed)},
		deed{get(5), why(api.ErrClosed)},
		deed{insert(1, 1, 1), why(api.ErrClosed)},
	)
	if !m.Closed() || len(m.Items()) != 4 {
		t.Errorf("when it is closed it has %v, %v", m.Items(), m.Closed())
	}
}

// 25.2: a call that may not be is refused, ahead of all but a closed map; its call is told all the same.
func TestDoWrong(t *testing.T) {
	m := New(1)
	run(t, m, deed{insert(1, 1, 0), why(api.OK)})
	wrong := []api.Call{
		{},
		{Kind: -1, Item: api.Item{Id: 1, Vec: []int32{1}}, K: 1, Ef: 1, Draw: 9},
		{Kind: api.CallCount},
		{Kind: most},
		{Kind: api.CallInsert, Item: api.Item{Id: 1}},
		{Kind: api.CallInsert, Item: api.Item{Id: 2, Vec: []int32{1, 2}}},
		{Kind: api.CallSearch, Item: api.Item{Vec: []int32{1}}, K: -1},
		{Kind: api.CallSearch, Item: api.Item{Vec: []int32{1}}, K: 1, Ef: api.MaxEf + 1},
		{Kind: api.CallSearch, K: 1},
	}
	for _, c := range wrong {
		run(t, m, deed{c, why(api.ErrInvalid)})
	}
	isAs(t, m, &said{dim: 1, items: []api.Item{insert(1, 1, 0).Item}})
	run(t, m, deed{end, why(api.OK)})
	for _, c := range wrong {
		run(t, m, deed{c, why(api.ErrClosed)})
	}
	bad := New(0)
	run(t, bad,
		deed{insert(1, 1, 0), why(api.ErrInvalid)},
		deed{search(1, 0, 1), why(api.ErrInvalid)},
		deed{count, why(api.OK)},
		deed{end, why(api.OK)},
		deed{count, why(api.ErrClosed)},
	)
}

// 25.2: of a nil map nothing is there, and it is closed.
func TestNil(t *testing.T) {
	var m *Map
	for _, c := range []api.Call{insert(1, 1, 0), drop(1), get(1), search(1, 0, 1), count, end, {}, {Kind: -1, K: -1}} {
		run(t, m, deed{c, why(api.ErrClosed)})
	}
	if it, is := m.Get(0); is || fmt.Sprint(it) != "{0 [] 0}" || len(m.Items()) != 0 || !m.Closed() {
		t.Errorf("of a nil map: %v, %v, %v, %v", it, is, m.Items(), m.Closed())
	}
}

// 25.1, 25.2: a map shares no memory with what it is given or tells.
func TestApart(t *testing.T) {
	c := insert(1, 5, 0)
	m := New(1)
	told := []api.Told{m.Do(c), m.Do(get(1)), m.Do(search(5, 0, 1))}
	again := insert(2, 7, 0)
	told = append(told, m.Do(again))
	again.Item.Vec[0] = 99
	c.Item.Vec[0] = 99
	it, _ := m.Get(1)
	it.Vec[0] = 99
	for _, it := range m.Items() {
		it.Vec[0] = 99
	}
	if told[0].Call.Item.Vec[0] != 5 || told[3].Call.Item.Vec[0] != 7 || told[1].Item.Vec[0] != 5 {
		t.Errorf("ends share what was handed in, or what is kept: %v", told)
	}
	for _, e := range told {
		for _, v := range [][]int32{e.Call.Item.Vec, e.Item.Vec} {
			if len(v) > 0 {
				v[0] = 98
			}
		}
		for i := range e.Hits {
			e.Hits[i].Id = 98
		}
	}
	isAs(t, m, &said{dim: 1, items: []api.Item{insert(1, 5, 0).Item, insert(2, 7, 0).Item}})
	other := New(1)
	other.Do(drop(1))
	other.Do(end)
	if m.Closed() || len(New(1).Items()) != 0 {
		t.Errorf("maps share what they have")
	}
}

// 25.2: all lists of four calls on two ids, held against the words.
func TestDoAll(t *testing.T) {
	calls := []api.Call{insert(1, 1, 1), insert(1, 2, 2), insert(2, 1, 3), drop(1), drop(2), get(1), search(2, 1, 1), search(0, 0, 2), count, end}
	n := len(calls)
	for list := range n * n * n * n {
		m, s := New(1), &said{dim: 1}
		at := list
		for range 4 {
			c := calls[at%n]
			at /= n
			if got, want := fmt.Sprint(m.Do(c)), fmt.Sprint(s.do(c)); got != want {
				t.Fatalf("list %d: %v answers %s, want %s", list, c, got, want)
			}
			isAs(t, m, s)
		}
	}
}

// 25.2: many calls, held against the words; what is refused changes nothing.
func TestDoMany(t *testing.T) {
	d := draws(25)
	for range 400 {
		m, s := New(2), &said{dim: 2}
		for range 60 {
			c := d.call()
			before := fmt.Sprint(m.Items(), m.Closed())
			got := m.Do(c)
			if want := s.do(c); fmt.Sprint(got) != fmt.Sprint(want) {
				t.Fatalf("%v answers %v, want %v", c, got, want)
			}
			if got.Err != api.OK && fmt.Sprint(m.Items(), m.Closed()) != before {
				t.Fatalf("%v was refused, and changed the map", c)
			}
			isAs(t, m, s)
		}
	}
}

// 25.3: between two calls on an id the calls on others change nothing of it.
func TestOthers(t *testing.T) {
	d := draws(253)
	for range 2000 {
		m := New(2)
		c := api.Call{Kind: api.CallInsert, Item: api.Item{Id: 9, Vec: []int32{int32(d.below(5)), 0}, Tags: d.next()}}
		is := d.below(2) == 0
		if is {
			m.Do(c)
		}
		for range d.below(30) {
			if other := d.call(); other.Kind != api.CallClose {
				m.Do(other)
			}
		}
		it, has := m.Get(9)
		want := api.Item{}
		if is {
			want = c.Item
		}
		if has != is || fmt.Sprint(it) != fmt.Sprint(want) {
			t.Fatalf("behind calls on others it is %v, %v, want %v, %v", it, has, want, is)
		}
	}
}
