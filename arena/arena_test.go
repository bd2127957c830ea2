package arena

import (
	"fmt"
	"math"
	"slices"
	"testing"

	"ganglion/api"
)

const (
	most  = math.MaxInt
	least = math.MinInt
)

// draws tells numbers that look like chance, the same ones each time.
type draws uint64

func (d *draws) next() uint64 {
	*d = *d*6364136223846793005 + 1442695040888963407
	return uint64(*d >> 32)
}

// below has a number from 0 to below n.
func (d *draws) below(n int) int {
	return int(d.next() % uint64(n))
}

// The kinds of things that are done to an arena.
const (
	alloc = iota
	move
	free
	kinds
)

// deed is one of them, with the slot, and the state to which it is to move.
type deed struct{ kind, slot, to int }

// do lets the arena do it, and tells what it answers.
func do(a *Arena, e deed) string {
	switch e.kind {
	case alloc:
		r, is := a.Alloc()
		return fmt.Sprint(r, is)
	case move:
		return fmt.Sprint(a.Move(e.slot, e.to))
	}
	return fmt.Sprint(a.Free(e.slot))
}

// said is an arena by the document's words: what each slot is, and what is told next, first things first.
type said struct {
	states, gens map[int]int
	next         []int
}

func newSaid(slots int) *said {
	s := &said{states: map[int]int{}, gens: map[int]int{}}
	for n := 1; n <= slots; n++ {
		s.states[n], s.gens[n] = api.SlotFree, 0
		s.next = append(s.next, n)
	}
	return s
}

func (s *said) do(e deed) string {
	state, has := s.states[e.slot]
	switch e.kind {
	case alloc:
		if len(s.next) == 0 {
			return "{0 0} false"
		}
		n := s.next[0]
		s.next = s.next[1:]
		s.states[n] = api.SlotHeld
		return fmt.Sprintf("{%d %d} true", n, s.gens[n])
	case move:
		may := state == api.SlotHeld && e.to == api.SlotLive ||
			state == api.SlotLive && e.to == api.SlotDead ||
			state == api.SlotDead && e.to == api.SlotLimbo
		if has && may {
			s.states[e.slot] = e.to
			return "true"
		}
	case free:
		if has && (state == api.SlotHeld || state == api.SlotLimbo) {
			s.states[e.slot] = api.SlotFree
			s.gens[e.slot]++
			s.next = append([]int{e.slot}, s.next...)
			return "true"
		}
	}
	return "false"
}

// newArena is an arena of so many slots; the test fails, if there is none.
func newArena(t *testing.T, slots int) *Arena {
	t.Helper()
	a, why := New(slots)
	if a == nil || why != api.OK {
		t.Fatalf("New(%d) = %v, %v", slots, a, why)
	}
	return a
}

// tells fails unless the arena tells just what is said.
func tells(t *testing.T, a *Arena, s *said) {
	t.Helper()
	counts := map[int]int{}
	for n := -1; n <= len(s.states)+1; n++ {
		state, has := s.states[n]
		gen := s.gens[n]
		if !has {
			state, gen = -1, -1
		} else {
			counts[state]++
		}
		if a.State(n) != state || a.Gen(n) != gen {
			t.Errorf("slot %d: State %d, Gen %d, want %d, %d", n, a.State(n), a.Gen(n), state, gen)
		}
	}
	for state := -2; state <= api.SlotCount+1; state++ {
		if got := a.Count(state); got != counts[state] {
			t.Errorf("Count(%d) = %d, want %d", state, got, counts[state])
		}
	}
}

// sameRun fails unless an arena of so many slots answers, and tells, all of this as it is said.
func sameRun(t *testing.T, slots int, deeds []deed) {
	t.Helper()
	a, s := newArena(t, slots), newSaid(slots)
	for i, e := range deeds {
		if got, want := do(a, e), s.do(e); got != want {
			t.Fatalf("%v: %d answers %s, want %s", deeds, i, got, want)
		}
	}
	tells(t, a, s)
}

// to brings slot 1 of an arena into that state, from which it is free at first.
func to(t *testing.T, a *Arena, state int) {
	t.Helper()
	if state != api.SlotFree {
		a.Alloc()
	}
	for next := api.SlotLive; next <= state; next++ {
		if !a.Move(1, next) {
			t.Fatalf("it does not go to %d", next)
		}
	}
	if a.State(1) != state {
		t.Fatalf("State(1) = %d, want %d", a.State(1), state)
	}
}

// 21.1: there may be from 1 to MaxCap slots, all of them free at first, of generation 0.
func TestNew(t *testing.T) {
	for _, n := range []int{0, -1, api.MaxCap + 1, least, most, 1 << 32, 1<<32 + 1} {
		if a, why := New(n); a != nil || why != api.ErrRange {
			t.Errorf("New(%d) = %v, %v", n, a, why)
		}
	}
	for _, n := range []int{1, 2, api.MaxCap - 1, api.MaxCap} {
		a := newArena(t, n)
		tells(t, a, newSaid(n))
		if a.Count(api.SlotFree) != n || a.State(n) != api.SlotFree || a.State(n+1) != -1 {
			t.Errorf("of %d there are not so many", n)
		}
	}
}

// 21.1: at first 1 is told first, then 2, and so on, each of generation 0; zero and false, if none is free.
func TestAlloc(t *testing.T) {
	for _, n := range []int{1, 2, 5, api.MaxCap} {
		a := newArena(t, n)
		for want := 1; want <= n; want++ {
			r, is := a.Alloc()
			if !is || r != (api.Ref{Slot: want}) || a.State(want) != api.SlotHeld || a.Count(api.SlotHeld) != want || a.Count(api.SlotFree) != n-want {
				t.Fatalf("of %d: Alloc() = %v, %v, want slot %d", n, r, is, want)
			}
		}
		for range 2 {
			if r, is := a.Alloc(); is || r != (api.Ref{}) || a.Count(api.SlotHeld) != n {
				t.Errorf("of %d: Alloc() = %v, %v, but none is free", n, r, is)
			}
		}
	}
}

// 21.1: one that becomes free is told ahead of all others, in its next generation; the first row is example 1.
func TestUsedAgain(t *testing.T) {
	a, f := deed{kind: alloc}, func(slot int) deed { return deed{kind: free, slot: slot} }
	for _, c := range []struct {
		deeds []deed
		want  []string
	}{
		{[]deed{a, f(1), a}, []string{"{1 0} true", "true", "{1 1} true"}},
		{[]deed{a, f(1), a, f(1), a, a}, []string{"{1 0} true", "true", "{1 1} true", "true", "{1 2} true", "{2 0} true"}},
		{[]deed{a, a, f(1), a, a}, []string{"{1 0} true", "{2 0} true", "true", "{1 1} true", "{3 0} true"}},
		{[]deed{a, a, f(1), f(2), a, a, a}, []string{"{1 0} true", "{2 0} true", "true", "true", "{2 1} true", "{1 1} true", "{3 0} true"}},
		{[]deed{a, a, f(2), f(1), a, a, a}, []string{"{1 0} true", "{2 0} true", "true", "true", "{1 1} true", "{2 1} true", "{3 0} true"}},
		{[]deed{a, a, a, a, f(3), a, a}, []string{"{1 0} true", "{2 0} true", "{3 0} true", "{0 0} false", "true", "{3 1} true", "{0 0} false"}},
		{[]deed{a, f(1), f(1), f(2), a, a}, []string{"{1 0} true", "true", "false", "false", "{1 1} true", "{2 0} true"}},
	} {
		arena := newArena(t, 3)
		for i, e := range c.deeds {
			if got := do(arena, e); got != c.want[i] {
				t.Errorf("%v: %d answers %s, want %s", c.deeds, i, got, c.want[i])
			}
		}
	}
}

// 21.1: a slot goes from held to live, from there to dead, and from there to limbo, and no other way.
func TestMove(t *testing.T) {
	for from := range api.SlotCount {
		for _, next := range []int{least, -1, 0, 1, 2, 3, 4, 5, most, 1 << 32, 1<<32 + api.SlotLive, 1<<32 + api.SlotDead} {
			a := newArena(t, 2)
			to(t, a, from)
			may := next == from+1 && next >= api.SlotLive && next <= api.SlotLimbo
			want := from
			if may {
				want = next
			}
			if got := a.Move(1, next); got != may || a.State(1) != want || a.Gen(1) != 0 || a.State(2) != api.SlotFree {
				t.Errorf("from %d Move(1, %d) = %v: state %d, generation %d", from, next, got, a.State(1), a.Gen(1))
			}
			if a.Count(want)+a.Count(api.SlotFree) < 2 {
				t.Errorf("from %d to %d: it is not counted", from, next)
			}
		}
	}
}

// 21.1: a slot is freed if it is held, or in limbo; its generation is one more then, and it is told next.
func TestFree(t *testing.T) {
	for from := range api.SlotCount {
		a := newArena(t, 2)
		to(t, a, from)
		may := from == api.SlotHeld || from == api.SlotLimbo
		if got := a.Free(1); got != may {
			t.Errorf("from %d Free(1) = %v", from, got)
		}
		if !may && (a.State(1) != from || a.Gen(1) != 0 || a.Count(from) == 0) {
			t.Errorf("from %d it is in state %d, of generation %d", from, a.State(1), a.Gen(1))
		}
		if may && (a.State(1) != api.SlotFree || a.Gen(1) != 1 || a.Count(api.SlotFree) != 2 || a.Count(from) != 0) {
			t.Errorf("from %d it is in state %d, of generation %d", from, a.State(1), a.Gen(1))
		}
		want := api.Ref{Slot: 2}
		if may {
			want = api.Ref{Slot: 1, Gen: 1}
		} else if from == api.SlotFree {
			want = api.Ref{Slot: 1}
		}
		if r, is := a.Alloc(); !is || r != want {
			t.Errorf("freed from %d: Alloc() = %v, %v, want %v", from, r, is, want)
		}
	}
}

// 21.1, 21.2: of a slot that there is not nothing can be done; it has no state, and no generation.
func TestNoSuchSlot(t *testing.T) {
	for _, none := range []int{0, -1, 4, api.MaxCap, api.MaxCap + 1, least, most, 1 << 32, 1<<32 + 1} {
		a, s := newArena(t, 3), newSaid(3)
		for _, e := range []deed{{kind: alloc}, {kind: alloc}, {move, 1, api.SlotLive}, {kind: alloc}, {move, 2, api.SlotLive}, {move, 2, api.SlotDead}, {move, 2, api.SlotLimbo}} {
			do(a, e)
			s.do(e)
		}
		if a.State(none) != -1 || a.Gen(none) != -1 || a.Free(none) {
			t.Errorf("there is a slot %d", none)
		}
		for state := -1; state <= api.SlotCount; state++ {
			if a.Move(none, state) {
				t.Errorf("slot %d moves to %d", none, state)
			}
		}
		tells(t, a, s)
		if r, is := a.Alloc(); is || r != (api.Ref{}) {
			t.Errorf("slot %d is free: %v", none, r)
		}
	}
}

// 21.2: how many slots have each state is counted; of a state that there is not none has it.
func TestCount(t *testing.T) {
	a := newArena(t, 9)
	for range 8 {
		a.Alloc()
	}
	// Slot 9 is free, 1 to 3 are held, 4 and 5 live, 6 dead, 7 and 8 in limbo.
	for slot, end := range map[int]int{4: api.SlotLive, 5: api.SlotLive, 6: api.SlotDead, 7: api.SlotLimbo, 8: api.SlotLimbo} {
		for next := api.SlotLive; next <= end; next++ {
			a.Move(slot, next)
		}
	}
	for state, want := range []int{1, 3, 2, 1, 2} {
		if got := a.Count(state); got != want {
			t.Errorf("Count(%d) = %d, want %d", state, got, want)
		}
	}
	for _, none := range []int{-1, api.SlotCount, least, most, 1 << 32, 1<<32 + 1} {
		if got := a.Count(none); got != 0 {
			t.Errorf("Count(%d) = %d", none, got)
		}
	}
	a.Free(7)
	a.Free(2)
	if a.Count(api.SlotFree) != 3 || a.Count(api.SlotHeld) != 2 || a.Count(api.SlotLimbo) != 1 {
		t.Errorf("it counts %d, %d and %d", a.Count(api.SlotFree), a.Count(api.SlotHeld), a.Count(api.SlotLimbo))
	}
}

// 21.2: of a nil arena: no slot, false.
func TestNilArena(t *testing.T) {
	var a *Arena
	if r, is := a.Alloc(); is || r != (api.Ref{}) {
		t.Errorf("Alloc() = %v, %v", r, is)
	}
	for _, n := range []int{0, 1, 2, -1, api.MaxCap, least, most} {
		if a.State(n) != -1 || a.Gen(n) != -1 || a.Free(n) || a.Count(n) != 0 {
			t.Errorf("a nil arena has a slot %d", n)
		}
		for state := range api.SlotCount {
			if a.Move(n, state) || a.Count(state) != 0 {
				t.Errorf("a nil arena has a slot %d", n)
			}
		}
	}
}

// Two arenas have nothing in common.
func TestApart(t *testing.T) {
	a, b := newArena(t, 2), newArena(t, 2)
	for _, e := range []deed{{kind: alloc}, {kind: free, slot: 1}, {kind: alloc}, {move, 1, api.SlotLive}} {
		do(a, e)
	}
	tells(t, b, newSaid(2))
	if r, is := b.Alloc(); !is || r != (api.Ref{Slot: 1}) {
		t.Errorf("Alloc() = %v, %v", r, is)
	}
}

// 21.1, 21.2: whatever few deeds are done, all is as it is said.
func TestFewDeeds(t *testing.T) {
	var all []deed
	for slot := 0; slot <= 3; slot++ {
		all = append(all, deed{kind: free, slot: slot})
	}
	for slot := 1; slot <= 2; slot++ {
		for _, state := range []int{api.SlotLive, api.SlotDead, api.SlotLimbo} {
			all = append(all, deed{move, slot, state})
		}
	}
	all = append(all, deed{kind: alloc})
	var each func(deeds []deed, left int)
	each = func(deeds []deed, left int) {
		if left == 0 {
			sameRun(t, 2, deeds)
			return
		}
		for _, e := range all {
			each(append(slices.Clip(deeds), e), left-1)
		}
	}
	each([]deed{{kind: alloc}}, 4)
}

// 21.1, 21.2: so it is of many deeds, in arenas of some slots.
func TestManyDeeds(t *testing.T) {
	d := draws(21)
	for range 300 {
		slots := 1 + d.below(12)
		var deeds []deed
		for range 200 {
			// Most moves are such as may be, so that all states are come to.
			e := deed{kind: d.below(kinds), slot: 1 + d.below(slots), to: api.SlotLive + d.below(3)}
			if d.below(20) == 0 {
				e = deed{kind: d.below(kinds), slot: d.below(slots+4) - 1, to: d.below(api.SlotCount+3) - 1}
			}
			deeds = append(deeds, e)
		}
		sameRun(t, slots, deeds)
	}
}

// 21.3: a slot in one of its generations is told once at most, and each slot has one state: so many of them are counted as there are.
func TestOnce(t *testing.T) {
	d := draws(3)
	for range 100 {
		slots := 1 + d.below(6)
		a, told := newArena(t, slots), map[api.Ref]bool{}
		for range 400 {
			e := deed{kind: d.below(kinds), slot: d.below(slots + 2), to: d.below(api.SlotCount)}
			if e.kind == alloc {
				r, is := a.Alloc()
				if is && (told[r] || r.Gen != a.Gen(r.Slot)) {
					t.Fatalf("%v is told again", r)
				}
				told[r] = is
			} else {
				do(a, e)
			}
			sum := 0
			for state := range api.SlotCount {
				sum += a.Count(state)
			}
			if sum != slots {
				t.Fatalf("of %d slots %d are counted", slots, sum)
			}
		}
	}
}
