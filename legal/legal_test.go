package legal

import (
	"fmt"
	"math"
	"slices"
	"testing"

	"ganglion/api"
	"ganglion/hist"
	"ganglion/model"
)

const (
	most  = math.MaxInt
	least = math.MinInt
)

// draws tells numbers that look like chance, the same ones each time.
type draws uint64

func (d *draws) next() uint64 {
	*d = *d*6364136223846793005 + 1442695040888963407
	return uint64(*d >> 32)
}

// below has a number from 0 to below n.
func (d *draws) below(n int) int {
	return int(d.next() % uint64(n))
}

// item is one of a vector of one component.
func item(id uint64, at int32, tags uint64) api.Item {
	return api.Item{Id: id, Vec: []int32{at}, Tags: tags}
}

// insert, drop, get, search, count and shut are ends without an error, at no time.
func insert(id uint64, at int32, tags uint64) api.Told {
	return api.Told{Call: api.Call{Kind: api.CallInsert, Item: item(id, at, tags)}}
}

func drop(id uint64) api.Told {
	return api.Told{Call: api.Call{Kind: api.CallDelete, Item: api.Item{Id: id}}}
}

func get(id uint64, found api.Item) api.Told {
	return api.Told{Call: api.Call{Kind: api.CallGet, Item: api.Item{Id: id}}, Item: found}
}

func search(at int32, tags uint64, k int, hits ...api.Hit) api.Told {
	return api.Told{Call: api.Call{Kind: api.CallSearch, Item: item(0, at, tags), K: k}, Hits: hits}
}

func count(n int) api.Told {
	return api.Told{Call: api.Call{Kind: api.CallLen}, Len: n}
}

func shut() api.Told {
	return api.Told{Call: api.Call{Kind: api.CallClose}}
}

// missed is an end of the same call, with an error, and without answers.
func missed(e api.Told, why api.Errno) api.Told {
	return api.Told{Call: e.Call, Err: why, From: e.From, Marks: e.Marks, To: e.To}
}

// at is the same end, with these marks, and a beginning and an end just where they are.
func at(e api.Told, marks ...int) api.Told {
	e.Marks = marks
	if len(marks) > 0 {
		e.From, e.To = marks[0], marks[len(marks)-1]
	}
	return e
}

// during is the same end, from one time to another one.
func during(e api.Told, from, to int) api.Told {
	e.From, e.To, e.Marks = from, to, []int{from}
	return e
}

// places has the numbers below n.
func places(n int) []int {
	l := make([]int, n)
	for i := range l {
		l[i] = i
	}
	return l
}

// orders has all orders of the numbers below n.
func orders(n int) [][]int {
	if n == 0 {
		return [][]int{{}}
	}
	var all [][]int
	for _, o := range orders(n - 1) {
		for place := range n {
			all = append(all, slices.Insert(slices.Clone(o), place, n-1))
		}
	}
	return all
}

// said is a map by the words of the document.
type said struct {
	dim    int
	items  map[uint64]api.Item
	closed bool
}

// fits does the call of an end, and tells whether the end fits.
func (s *said) fits(e api.Told) bool {
	c := e.Call
	want := api.Told{}
	it, is := s.items[c.Item.Id]
	switch {
	case s.closed:
		want.Err = api.ErrClosed
	case model.Valid(c, s.dim) != api.OK:
		want.Err = api.ErrInvalid
	case c.Kind == api.CallInsert && is:
		want.Err = api.ErrExists
	case c.Kind == api.CallInsert && e.Err == api.ErrFull:
		want.Err = api.ErrFull
	case c.Kind == api.CallInsert:
		s.items[c.Item.Id] = c.Item
	case (c.Kind == api.CallDelete || c.Kind == api.CallGet) && !is:
		want.Err = api.ErrNotFound
	case c.Kind == api.CallDelete:
		delete(s.items, c.Item.Id)
	case c.Kind == api.CallGet:
		want.Item = it
	case c.Kind == api.CallLen:
		want.Len = len(s.items)
	case c.Kind == api.CallClose:
		s.closed = true
	}
	return e.Err == want.Err && e.Len == want.Len && fmt.Sprint(e.Item) == fmt.Sprint(want.Item)
}

// runs tells whether all fit, in that order of all places.
func runs(dim int, l []api.Told, order []int) bool {
	s := &said{dim: dim, items: map[uint64]api.Item{}}
	for _, place := range order {
		if !s.fits(l[place]) {
			return false
		}
	}
	return true
}

// time is that of an end, as the document says it.
func time(e api.Told) int {
	if len(e.Marks) > 0 {
		return e.Marks[0]
	}
	return e.From
}

// there has the items at a time, as the document says it, each put where it belongs.
func there(l []api.Told, now int) []api.Item {
	var items []api.Item
	var times []int
	for _, e := range l {
		if e.Call.Kind != api.CallInsert || e.Err != api.OK || time(e) >= now {
			continue
		}
		gone := false
		for _, d := range l {
			if d.Call.Kind == api.CallDelete && d.Err == api.OK && d.Call.Item.Id == e.Call.Item.Id {
				gone = gone || time(d) >= time(e) && time(d) < now
			}
		}
		if gone {
			continue
		}
		place := 0
		for place < len(times) && times[place] <= time(e) {
			place++
		}
		items = slices.Insert(items, place, e.Call.Item)
		times = slices.Insert(times, place, time(e))
	}
	return items
}

// found tells whether all searches are as they should, as the document says it, for vectors of one component.
func found(l []api.Told) bool {
	for _, e := range l {
		if e.Call.Kind != api.CallSearch || e.Err != api.OK {
			continue
		}
		if len(e.Marks) != len(e.Hits) || e.Call.K < len(e.Hits) {
			return false
		}
		for i, h := range e.Hits {
			for _, other := range e.Hits[:i] {
				if other.Id == h.Id || other.Dist > h.Dist || other.Dist == h.Dist && other.Id > h.Id {
					return false
				}
			}
			is := false
			for _, it := range there(l, e.Marks[i]) {
				far := int64(it.Vec[0]) - int64(e.Call.Item.Vec[0])
				is = is || it.Id == h.Id && it.Tags&e.Call.Item.Tags == e.Call.Item.Tags && uint64(far*far) == h.Dist
			}
			if !is {
				return false
			}
		}
	}
	return true
}

// end is the end of a call on few ids, that may fit a map with few items.
func (d *draws) end() api.Told {
	id := uint64(d.below(3))
	var e api.Told
	switch d.below(12) {
	case 0, 1, 2:
		e = insert(id, int32(d.below(3)), id)
	case 3, 4:
		e = drop(id)
	case 5, 6:
		e = get(id, item(id, int32(d.below(3)), id))
	case 7:
		e = search(int32(d.below(3)), 0, d.below(3))
	case 8, 9:
		e = count(d.below(3))
	case 10:
		e = shut()
	case 11:
		e = api.Told{Call: api.Call{Kind: d.below(3) * 4}}
	}
	return e
}

// ends are those of n calls that came one behind the other; now and then one of them is another one.
func (d *draws) ends(n int) []api.Told {
	m := model.New(1)
	var l []api.Told
	for range n {
		c := d.end().Call
		if c.Kind == api.CallClose && d.below(2) == 0 {
			c.Kind = api.CallLen
		}
		e := m.Do(c)
		if c.Kind == api.CallInsert && e.Err == api.OK && d.below(4) == 0 {
			m.Do(api.Call{Kind: api.CallDelete, Item: c.Item})
			e.Err = api.ErrFull
		}
		switch d.below(30) {
		case 0:
			e.Err = api.Errno(d.below(6))
		case 1:
			e.Len++
		case 2:
			e.Item = item(c.Item.Id, int32(d.below(3)), c.Item.Id)
		case 3:
			e = d.end()
		}
		l = append(l, e)
	}
	return l
}

// 27.1: an order has each place once.
func TestRunPlaces(t *testing.T) {
	l := []api.Told{count(0), count(0), count(0)}
	for _, o := range orders(3) {
		if !Run(1, l, o) {
			t.Errorf("Run of %v = false, where all fit", o)
		}
	}
	for _, o := range [][]int{nil, {}, {0}, {0, 1}, {1, 2}, {0, 1, 1}, {0, 0, 0}, {0, 1, 3}, {1, 2, 3}, {0, 1, -1}, {-1, 0, 1, 2}, {0, 1, 2, 2}, {0, 1, 2, 3}, {0, 1, most}, {least, 1, 2}, {0, 1, 1 << 32}} {
		if Run(1, l, o) {
			t.Errorf("Run of %v = true", o)
		}
	}
	if !Run(1, nil, nil) || !Run(0, []api.Told{}, []int{}) || Run(1, nil, []int{0}) {
		t.Errorf("of no ends: %v, %v", Run(1, nil, nil), Run(1, nil, []int{0}))
	}
}

// 27.1: whether the last end of each list fits, behind those ahead of it, which do.
func TestRunFits(t *testing.T) {
	five, wrong := insert(5, 1, 3), insert(6, 1, 0)
	wrong.Call.Item.Vec = []int32{1, 2}
	full := missed(five, api.ErrFull)
	for _, c := range []struct {
		last  api.Told
		ahead []api.Told
		want  bool
	}{
		{five, nil, true},
		{five, []api.Told{five, drop(5)}, true},
		{five, []api.Told{five}, false},
		{missed(insert(5, 9, 9), api.ErrExists), []api.Told{five}, true},
		{missed(five, api.ErrExists), nil, false},
		{missed(five, api.ErrClosed), nil, false},
		{missed(five, api.ErrClosed), []api.Told{shut()}, true},
		{five, []api.Told{shut()}, false},
		{wrong, nil, false},
		{missed(wrong, api.ErrInvalid), nil, true},
		{missed(wrong, api.ErrFull), nil, false},
		{missed(five, api.ErrNotFound), nil, false},
		{missed(five, -1), nil, false},
		{full, nil, true},
		{full, []api.Told{full, full}, true},
		{full, []api.Told{five}, false},
		{full, []api.Told{shut()}, false},
		{five, []api.Told{full}, true},
		{get(5, api.Item{}), []api.Told{full}, false},
		{missed(get(5, api.Item{}), api.ErrNotFound), []api.Told{full}, true},
		{count(0), []api.Told{full}, true},
		{count(1), []api.Told{insert(6, 1, 3), full}, true},
		{missed(drop(5), api.ErrFull), []api.Told{five}, false},
		{missed(drop(5), api.ErrFull), nil, false},
		{missed(count(0), api.ErrFull), nil, false},
		{missed(search(0, 0, 1), api.ErrFull), nil, false},
		{missed(shut(), api.ErrFull), nil, false},
		{drop(5), []api.Told{five}, true},
		{drop(5), nil, false},
		{missed(drop(5), api.ErrNotFound), nil, true},
		{missed(drop(5), api.ErrNotFound), []api.Told{five}, false},
		{get(5, item(5, 1, 3)), []api.Told{five}, true},
		{get(5, item(5, 1, 2)), []api.Told{five}, false},
		{get(5, item(5, 2, 3)), []api.Told{five}, false},
		{get(5, item(6, 1, 3)), []api.Told{five}, false},
		{get(5, api.Item{Id: 5, Tags: 3}), []api.Told{five}, false},
		{get(5, api.Item{Id: 5, Vec: []int32{1, 0}, Tags: 3}), []api.Told{five}, false},
		{get(5, api.Item{}), []api.Told{five}, false},
		{get(5, api.Item{}), nil, false},
		{get(5, item(5, 1, 3)), []api.Told{five, drop(5)}, false},
		{missed(get(5, api.Item{}), api.ErrNotFound), nil, true},
		{missed(get(5, api.Item{}), api.ErrNotFound), []api.Told{five}, false},
		{count(0), nil, true},
		{count(1), nil, false},
		{count(1), []api.Told{five}, true},
		{count(-1), nil, false},
		{count(1), []api.Told{five, insert(6, 1, 3), drop(5)}, true},
		{shut(), []api.Told{five}, true},
		{shut(), []api.Told{shut()}, false},
		{missed(shut(), api.ErrClosed), []api.Told{shut()}, true},
		{missed(shut(), api.ErrClosed), nil, false},
		{search(1, 0, 1), []api.Told{five}, true},
		{search(1, 0, 0, api.Hit{Dist: 7, Id: 7}), nil, true},
		{search(1, 0, -1), nil, false},
		{missed(search(1, 0, -1), api.ErrInvalid), nil, true},
		{missed(search(1, 0, 1), api.ErrClosed), []api.Told{shut()}, true},
		{search(1, 0, 1), []api.Told{shut()}, false},
		{api.Told{}, nil, false},
		{api.Told{Err: api.ErrInvalid}, nil, true},
		{api.Told{Err: api.ErrClosed}, []api.Told{shut()}, true},
	} {
		l := append(slices.Clone(c.ahead), c.last)
		if len(c.ahead) > 0 && !Run(1, c.ahead, places(len(c.ahead))) {
			t.Errorf("Run of %v = false", c.ahead)
		}
		if got := Run(1, l, places(len(l))); got != c.want {
			t.Errorf("Run of %v = %v, want %v", l, got, c.want)
		}
	}
}

// 27.1: an end has just what its call answers: an item or a count beside that does not fit, whatever the error.
func TestRunAnswers(t *testing.T) {
	five := insert(5, 1, 3)
	for _, l := range [][]api.Told{
		{five},
		{missed(five, api.ErrFull)},
		{five, missed(five, api.ErrExists)},
		{five, drop(5)},
		{missed(drop(5), api.ErrNotFound)},
		{missed(get(5, api.Item{}), api.ErrNotFound)},
		{five, get(5, item(5, 1, 3))},
		{search(1, 0, 1)},
		{count(0)},
		{shut()},
		{shut(), missed(five, api.ErrClosed)},
	} {
		if !Run(1, l, places(len(l))) {
			t.Errorf("Run of %v = false", l)
		}
		for _, change := range []func(e *api.Told){
			func(e *api.Told) { e.Item.Id++ },
			func(e *api.Told) { e.Item.Tags++ },
			func(e *api.Told) { e.Item.Vec = append(slices.Clone(e.Item.Vec), 0) },
			func(e *api.Told) { e.Len++ },
			func(e *api.Told) { e.Len-- },
			func(e *api.Told) { e.Err = api.ErrState },
		} {
			wrong := slices.Clone(l)
			change(&wrong[len(l)-1])
			if Run(1, wrong, places(len(l))) {
				t.Errorf("Run of %v = true", wrong)
			}
		}
	}
}

// 27.1: the dim is that of the vectors; the worker, the times and the marks are not asked.
func TestRunDim(t *testing.T) {
	l := []api.Told{insert(5, 1, 3), get(5, item(5, 1, 3))}
	l[1].Worker, l[1].From, l[1].To, l[1].Marks = -9, 8, 3, []int{7, 1}
	for _, c := range []struct {
		dim  int
		want bool
	}{{1, true}, {0, false}, {-1, false}, {2, false}, {least, false}, {most, false}} {
		if got := Run(c.dim, l, []int{0, 1}); got != c.want || Any(c.dim, l[:1]) != c.want {
			t.Errorf("of dim %d: %v, %v", c.dim, got, Any(c.dim, l[:1]))
		}
	}
	if Run(1, l, []int{1, 0}) {
		t.Errorf("a get found what came behind it")
	}
}

// 27.1: many lists in many orders, held against the words.
func TestRunMany(t *testing.T) {
	d := draws(271)
	seen := [2]int{}
	for range 20000 {
		l := d.ends(d.below(9))
		order := places(len(l))
		for range d.below(3) {
			if len(l) > 0 {
				a, b := d.below(len(l)), d.below(len(l))
				order[a], order[b] = order[b], order[a]
			}
		}
		before := fmt.Sprint(l, order)
		want := runs(1, l, order)
		if got := Run(1, l, order); got != want || fmt.Sprint(l, order) != before {
			t.Fatalf("Run of %s = %v, want %v; it is %v", before, got, want, fmt.Sprint(l, order))
		}
		if want {
			seen[1]++
		} else {
			seen[0]++
		}
	}
	if seen[0] < 4000 || seen[1] < 4000 {
		t.Errorf("of too few: %v", seen)
	}
}

// 27.1: whether there is an order. It begins with example 1.
func TestAny(t *testing.T) {
	five, none := insert(5, 1, 3), missed(get(5, api.Item{}), api.ErrNotFound)
	found := get(5, item(5, 1, 3))
	for _, c := range []struct {
		l    []api.Told
		want bool
	}{
		{[]api.Told{during(five, 1, 4), during(none, 1, 4)}, true},
		{nil, true},
		{[]api.Told{}, true},
		{[]api.Told{five}, true},
		{[]api.Told{drop(5)}, false},
		{[]api.Told{during(five, 1, 4), during(none, 5, 6)}, false},
		{[]api.Told{during(none, 5, 6), during(five, 1, 4)}, false},
		{[]api.Told{during(five, 1, 4), during(none, 4, 6)}, true},
		{[]api.Told{during(five, 5, 6), during(none, 1, 4)}, true},
		{[]api.Told{during(found, 5, 6), during(five, 1, 4)}, true},
		{[]api.Told{during(found, 1, 5), during(five, 5, 6)}, true},
		{[]api.Told{during(found, 1, 4), during(five, 5, 6)}, false},
		{[]api.Told{during(five, 1, 9), during(found, 2, 3), during(none, 4, 5)}, false},
		{[]api.Told{during(five, 1, 9), during(none, 2, 3), during(found, 4, 5)}, true},
		{[]api.Told{during(five, 1, 9), during(none, 2, 4), during(found, 4, 5)}, true},
		{[]api.Told{during(five, 1, 9), during(five, 1, 9)}, false},
		{[]api.Told{during(five, 1, 9), during(missed(five, api.ErrExists), 1, 9)}, true},
		{[]api.Told{during(missed(five, api.ErrExists), 1, 9), during(five, 1, 9)}, true},
		{[]api.Told{during(five, 1, 9), during(five, 1, 9), during(drop(5), 1, 9)}, true},
		{[]api.Told{during(five, 1, 9), during(five, 1, 3), during(drop(5), 4, 9)}, true},
		{[]api.Told{during(five, 1, 9), during(five, 5, 9), during(drop(5), 1, 4)}, true},
		{[]api.Told{during(five, 5, 9), during(five, 5, 9), during(drop(5), 1, 4)}, false},
		{[]api.Told{during(shut(), 1, 9), during(count(1), 1, 9), during(five, 1, 9)}, true},
		{[]api.Told{during(shut(), 1, 2), during(count(1), 1, 9), during(five, 3, 9)}, false},
	} {
		if got := Any(1, c.l); got != c.want {
			t.Errorf("Any of %v = %v, want %v", c.l, got, c.want)
		}
	}
}

// 27.1: of seven ends all orders are tried, of eight none is.
func TestAnyMost(t *testing.T) {
	for n := range 10 {
		var l []api.Told
		for i := range n {
			// Each of them was done in truth behind all that are ahead of it in the list, if one goes by the counts.
			l = append(l, during(count(n-1-i), 1, 9), during(insert(uint64(i), 1, 0), 1, 9))
		}
		if got := Any(1, l); got != (len(l) <= 7) {
			t.Errorf("Any of %d ends = %v", len(l), got)
		}
		l = append(l, during(count(n), 1, 9))
		if got := Any(1, l); got != (len(l) <= 7) {
			t.Errorf("Any of %d ends = %v", len(l), got)
		}
		l[0].Len = -1
		if Any(1, l) {
			t.Errorf("Any of %d ends, one of them wrong = true", len(l))
		}
	}
}

// 27.1: many lists, held against all orders of them.
func TestAnyMany(t *testing.T) {
	d := draws(2711)
	seen := [2]int{}
	for range 4000 {
		l := d.ends(d.below(6))
		for i := range l {
			// Some begin sooner than what is ahead of them in truth, some later.
			from := i*2 + d.below(7) - 3
			l[i] = during(l[i], from, from+d.below(5))
		}
		for i := range l {
			j := d.below(len(l))
			l[i], l[j] = l[j], l[i]
		}
		want := slices.ContainsFunc(orders(len(l)), func(o []int) bool {
			return hist.Respects(l, o) && runs(1, l, o)
		})
		before := fmt.Sprint(l)
		if got := Any(1, l); got != want || fmt.Sprint(l) != before {
			t.Fatalf("Any of %s = %v, want %v; it is %v", before, got, want, l)
		}
		if want {
			seen[1]++
		} else {
			seen[0]++
		}
	}
	if seen[0] < 500 || seen[1] < 500 {
		t.Errorf("of too few: %v", seen)
	}
}

// 27.2: what is there at a time.
func TestAt(t *testing.T) {
	five, other := insert(5, 1, 3), insert(5, 2, 4)
	six := insert(6, 7, 0)
	for _, c := range []struct {
		l    []api.Told
		time int
		want []api.Item
	}{
		{nil, 5, nil},
		{[]api.Told{at(five, 3)}, 4, []api.Item{five.Call.Item}},
		{[]api.Told{at(five, 3)}, 3, nil},
		{[]api.Told{at(five, 3)}, 2, nil},
		{[]api.Told{at(five, 3)}, most, []api.Item{five.Call.Item}},
		{[]api.Told{at(five, 3)}, least, nil},
		{[]api.Told{at(five, least)}, least + 1, []api.Item{five.Call.Item}},
		{[]api.Told{at(five, most)}, most, nil},
		{[]api.Told{at(five, 3, 9)}, 4, []api.Item{five.Call.Item}},
		{[]api.Told{{Call: five.Call, From: 3, To: 9}}, 4, []api.Item{five.Call.Item}},
		{[]api.Told{{Call: five.Call, From: 3, To: 9}}, 3, nil},
		{[]api.Told{{Call: five.Call, From: 1, Marks: []int{3}, To: 9}}, 3, nil},
		{[]api.Told{{Call: five.Call, From: 5, Marks: []int{3}, To: 9}}, 4, []api.Item{five.Call.Item}},
		{[]api.Told{at(missed(five, api.ErrExists), 3)}, 4, nil},
		{[]api.Told{at(missed(five, api.ErrFull), 3)}, 4, nil},
		{[]api.Told{at(get(5, five.Call.Item), 3), at(search(1, 3, 1), 3), at(drop(5), 3)}, 4, nil},
		{[]api.Told{at(five, 3), at(drop(5), 6)}, 6, []api.Item{five.Call.Item}},
		{[]api.Told{at(five, 3), at(drop(5), 6)}, 7, nil},
		{[]api.Told{at(five, 3), at(drop(5), 3)}, 4, nil},
		{[]api.Told{at(five, 3), at(drop(5), 2)}, 4, []api.Item{five.Call.Item}},
		{[]api.Told{at(five, 3), at(drop(6), 4)}, 7, []api.Item{five.Call.Item}},
		{[]api.Told{at(five, 3), at(missed(drop(5), api.ErrNotFound), 4)}, 7, []api.Item{five.Call.Item}},
		{[]api.Told{at(five, 3), {Call: drop(5).Call, From: 4, To: 9}}, 5, nil},
		{[]api.Told{at(five, 3), {Call: drop(5).Call, From: 4, Marks: []int{6}, To: 9}}, 5, []api.Item{five.Call.Item}},
		{[]api.Told{at(drop(5), 6), at(five, 3), at(other, 8)}, 9, []api.Item{other.Call.Item}},
		{[]api.Told{at(drop(5), 6), at(other, 8), at(five, 3)}, 5, []api.Item{five.Call.Item}},
		{[]api.Told{at(five, 3), at(other, 2)}, 9, []api.Item{other.Call.Item, five.Call.Item}},
		{[]api.Told{at(five, 3), at(other, 2), at(drop(5), 4)}, 9, nil},
		{[]api.Told{at(five, 3), at(other, 2), at(drop(5), 2)}, 9, []api.Item{five.Call.Item}},
		{[]api.Told{at(six, 5), at(five, 3)}, 9, []api.Item{five.Call.Item, six.Call.Item}},
		{[]api.Told{at(six, 5), at(five, 5), at(other, 5)}, 9, []api.Item{six.Call.Item, five.Call.Item, other.Call.Item}},
		{[]api.Told{at(six, most-1), at(five, least)}, most, []api.Item{five.Call.Item, six.Call.Item}},
		{[]api.Told{at(five, 1<<32), at(six, 4)}, 1<<32 + 1, []api.Item{six.Call.Item, five.Call.Item}},
	} {
		if got := At(c.l, c.time); fmt.Sprint(got) != fmt.Sprint(c.want) {
			t.Errorf("At(%v, %d) = %v, want %v", c.l, c.time, got, c.want)
		}
	}
}

// 27.2: what is told is new memory.
func TestAtApart(t *testing.T) {
	l := []api.Told{at(insert(5, 1, 3), 1), at(insert(6, 1, 3), 2)}
	first, second := At(l, 9), At(l, 9)
	first[0].Vec[0], first[1].Id = 99, 99
	if l[0].Call.Item.Vec[0] != 1 || second[0].Vec[0] != 1 || second[1].Id != 6 {
		t.Errorf("it is %v, and was told as %v", l, second)
	}
}

// times has the same ends, at few times, with one mark or none.
func (d *draws) times(l []api.Told) []api.Told {
	for i := range l {
		l[i] = during(l[i], d.below(8), 9)
		if d.below(4) == 0 {
			l[i].Marks = nil
		} else if d.below(4) == 0 {
			l[i].Marks = []int{d.below(8), d.below(8)}
		}
	}
	return l
}

// 27.2: many lists, held against the words.
func TestAtMany(t *testing.T) {
	d := draws(272)
	for i := range 20000 {
		l := d.ends(d.below(12))
		if i%20 == 0 {
			// Of many more there are more that came at one time.
			for range 10 {
				l = append(l, d.ends(5)...)
			}
		}
		for i := range l {
			if d.below(3) == 0 {
				l[i].Err = api.OK
			}
		}
		l = d.times(l)
		before := fmt.Sprint(l)
		now := d.below(10)
		if got, want := At(l, now), there(l, now); fmt.Sprint(got) != fmt.Sprint(want) || fmt.Sprint(l) != before {
			t.Fatalf("At(%s, %d) = %v, want %v; it is %v", before, now, got, want, l)
		}
	}
}

// 27.2: what a search has to be, beside ends that put 5 there at 2, take it away at 6, and put 6 and 7 there at 3.
func TestHits(t *testing.T) {
	beside := []api.Told{at(insert(5, 1, 3), 2), at(drop(5), 6), at(insert(6, 4, 1), 3), at(insert(7, -2, 2), 3)}
	five, six, seven := api.Hit{Dist: 0, Id: 5}, api.Hit{Dist: 9, Id: 6}, api.Hit{Dist: 9, Id: 7}
	for _, c := range []struct {
		e    api.Told
		want bool
	}{
		{search(1, 0, 0), true},
		{search(1, 0, 9), true},
		{search(1, 0, -1), false},
		{search(1, 0, least), false},
		{at(search(1, 0, 9, five), 3), true},
		{at(search(1, 0, 1, five), 6), true},
		{at(search(1, 0, 1, five), 7), false},
		{at(search(1, 0, 1, five), 2), false},
		{at(search(1, 0, 0, five), 3), false},
		{at(search(1, 0, -1, five), 3), false},
		{at(search(1, 0, 9), 3), false},
		{at(search(1, 0, 9, five), 3, 4), false},
		{search(1, 0, 9, five), false},
		{at(search(1, 0, 9, five, six), 3), false},
		{at(search(1, 0, 2, five, six), 3, 4), true},
		{at(search(1, 0, 3, five, six, seven), 3, 4, 5), true},
		{at(search(1, 0, 2, five, six, seven), 3, 4, 5), false},
		{at(search(1, 0, most, five, six, seven), 6, 8, 9), true},
		{at(search(1, 0, 9, five, six, seven), 7, 8, 9), false},
		{at(search(1, 0, 9, six, seven), 4, 4), true},
		{at(search(1, 0, 9, six, seven), 9, 4), true},
		{at(search(1, 0, 9, six, seven), 3, 4), false},
		{at(search(1, 0, 9, six, seven), 4, 3), false},
		{at(search(1, 0, 9, seven, six), 4, 5), false},
		{at(search(1, 0, 9, five, seven, six), 4, 5, 6), false},
		{at(search(1, 0, 9, six, five), 4, 5), false},
		{at(search(1, 0, 9, five, five), 4, 5), false},
		{at(search(1, 0, 9, api.Hit{Dist: 0, Id: 6}), 4), false},
		{at(search(1, 0, 9, api.Hit{Dist: 9, Id: 5}), 4), false},
		{at(search(1, 0, 9, api.Hit{Dist: 0, Id: 8}), 4), false},
		{at(search(1, 0, 9, api.Hit{}), 4), false},
		{at(search(2, 0, 9, api.Hit{Dist: 1, Id: 5}, api.Hit{Dist: 4, Id: 6}), 4, 5), true},
		{at(search(1, 1, 9, five, six), 4, 5), true},
		{at(search(1, 3, 9, five), 4), true},
		{at(search(1, 3, 9, five, six), 4, 5), false},
		{at(search(1, 2, 9, seven), 4), true},
		{at(search(1, 2, 9, six), 4), false},
		{at(search(1, 4, 9, five), 4), false},
		{at(missed(search(1, 0, -1), api.ErrInvalid), 4), true},
		{at(missed(search(1, 0, 1), api.ErrClosed), 4), true},
		{api.Told{Call: api.Call{Kind: api.CallGet}, Hits: []api.Hit{six, five}}, true},
		{api.Told{Call: search(1, 0, -1).Call, Err: api.ErrInvalid, Hits: []api.Hit{six, five}}, true},
	} {
		for place := range beside {
			l := slices.Insert(slices.Clone(beside), place, c.e)
			if got := Hits(l); got != c.want {
				t.Errorf("Hits of %v, at %d, = %v, want %v", c.e, place, got, c.want)
			}
			l = slices.Insert(l, 2, search(1, 0, 3))
			if got := Hits(append(l, at(search(1, 2, 1, seven), 9))); got != c.want {
				t.Errorf("Hits of %v, at %d, beside other searches, = %v, want %v", c.e, place, got, c.want)
			}
		}
	}
	if !Hits(nil) || !Hits([]api.Told{}) || !Hits(beside) {
		t.Errorf("where no search is: %v, %v", Hits(nil), Hits(beside))
	}
}

// 27.2: an id that is there twice, in a list that could not be, has the hits of both items, but only once.
func TestHitsTwice(t *testing.T) {
	l := []api.Told{at(insert(5, 1, 1), 1), at(insert(5, 3, 2), 2)}
	for _, c := range []struct {
		e    api.Told
		want bool
	}{
		{at(search(1, 1, 9, api.Hit{Dist: 0, Id: 5}), 5), true},
		{at(search(1, 2, 9, api.Hit{Dist: 4, Id: 5}), 5), true},
		{at(search(1, 0, 9, api.Hit{Dist: 4, Id: 5}), 5), true},
		{at(search(1, 1, 9, api.Hit{Dist: 4, Id: 5}), 5), false},
		{at(search(1, 3, 9, api.Hit{Dist: 4, Id: 5}), 5), false},
		{at(search(1, 0, 9, api.Hit{Dist: 0, Id: 5}, api.Hit{Dist: 4, Id: 5}), 5, 6), false},
	} {
		if got := Hits(append(slices.Clone(l), c.e)); got != c.want {
			t.Errorf("Hits of %v = %v, want %v", c.e, got, c.want)
		}
	}
}

// 27.2: vectors of unlike lengths are held against each other as vec.Dist does; so are very long ways.
func TestHitsDist(t *testing.T) {
	long := at(insert(5, 0, 0), 1)
	long.Call.Item.Vec = []int32{1, 2}
	wide := at(insert(6, math.MinInt32, 0), 1)
	wide.Call.Item.Vec = slices.Repeat(wide.Call.Item.Vec, 3)
	for _, c := range []struct {
		vec  []int32
		hit  api.Hit
		want bool
	}{
		{[]int32{1}, api.Hit{Dist: 4, Id: 5}, true},
		{nil, api.Hit{Dist: 5, Id: 5}, true},
		{[]int32{1, 2, 3}, api.Hit{Dist: 9, Id: 5}, true},
		{[]int32{1, 2}, api.Hit{Dist: 9, Id: 5}, false},
		{slices.Repeat([]int32{math.MaxInt32}, 3), api.Hit{Dist: math.MaxUint64, Id: 6}, true},
		{nil, api.Hit{Dist: 3 << 62, Id: 6}, true},
	} {
		e := at(search(0, 0, 1, c.hit), 2)
		e.Call.Item.Vec = c.vec
		if got := Hits([]api.Told{long, wide, e}); got != c.want {
			t.Errorf("Hits of %v = %v, want %v", e, got, c.want)
		}
	}
}

// 27.2: many lists with searches, held against the words.
func TestHitsMany(t *testing.T) {
	d := draws(2722)
	seen := [2]int{}
	for range 20000 {
		var l []api.Told
		for range 1 + d.below(6) {
			id := uint64(d.below(4))
			e := insert(id, int32(d.below(4)), uint64(d.below(4)))
			if d.below(3) == 0 {
				e = drop(id)
			}
			if d.below(6) == 0 {
				e.Err = api.ErrNotFound
			}
			l = append(l, e)
		}
		l = d.times(l)
		for range 1 + d.below(2) {
			e := search(int32(d.below(4)), uint64(d.below(4)), d.below(5)-1)
			now := 4 + d.below(6)
			m := model.New(1)
			for _, it := range At(l, now) {
				m.Do(api.Call{Kind: api.CallInsert, Item: it})
			}
			e.Hits = m.Do(e.Call).Hits
			e.Marks = slices.Repeat([]int{now}, len(e.Hits))
			e.From = now
			if n := len(e.Hits); n > 0 {
				switch i := d.below(n); d.below(12) {
				case 0:
					e.Marks[i] = d.below(10)
				case 1:
					e.Hits[i].Dist++
				case 2:
					e.Hits[i].Id ^= 1
				case 3:
					e.Hits[i] = e.Hits[0]
				case 4:
					e.Marks = e.Marks[1:]
				case 5:
					e.Call.K = i
				case 6:
					e.Call.Item.Tags ^= 1
				}
			}
			l = slices.Insert(l, d.below(len(l)+1), e)
		}
		before := fmt.Sprint(l)
		want := found(l)
		if got := Hits(l); got != want || fmt.Sprint(l) != before {
			t.Fatalf("Hits of %s = %v, want %v; it is %v", before, got, want, l)
		}
		if want {
			seen[1]++
		} else {
			seen[0]++
		}
	}
	if seen[0] < 4000 || seen[1] < 4000 {
		t.Errorf("of too few: %v", seen)
	}
}

// 27.3: if an order is legal, and goes as time went, there is one.
func TestThereIsOne(t *testing.T) {
	d := draws(273)
	seen := 0
	for range 3000 {
		l := d.ends(d.below(8))
		for i := range l {
			l[i] = during(l[i], i*2+d.below(3)-1, i*2+d.below(4))
		}
		order := places(len(l))
		for i := range l {
			j := d.below(len(l))
			l[i], l[j] = l[j], l[i]
			order[i], order[j] = order[j], order[i]
		}
		// Each place now holds the end that order names there; what is asked for is the way back.
		back := make([]int, len(l))
		for place, was := range order {
			back[was] = place
		}
		if Run(1, l, back) && hist.Respects(l, back) {
			seen++
			if !Any(1, l) {
				t.Fatalf("Any of %v = false, and there is %v", l, back)
			}
		}
	}
	if seen < 1000 {
		t.Errorf("of too few: %d", seen)
	}
}
