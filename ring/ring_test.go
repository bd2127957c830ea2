package ring

import (
	"fmt"
	"math"
	"slices"
	"testing"

	"ganglion/api"
	"ganglion/pack"
)

const (
	most  = math.MaxInt
	least = math.MinInt
	end   = api.MaxCap
)

// draws tells numbers that look like chance, the same ones each time.
type draws uint64

func (d *draws) next() uint64 {
	*d = *d*6364136223846793005 + 1442695040888963407
	return uint64(*d >> 32)
}

// below has a number from 0 to below n.
func (d *draws) below(n int) int {
	return int(d.next() % uint64(n))
}

// pair is a Next and a Prev.
type pair struct{ next, prev int }

// out is that of a slot that is in no ring.
var out = pair{-1, -1}

// word is the word of a pair; the test fails, if there is none.
func word(t *testing.T, p pair) uint64 {
	t.Helper()
	w, why := pack.PutRing(p.next, p.prev)
	if why != api.OK {
		t.Fatalf("there is no word of %v", p)
	}
	return w
}

// wordsOf is the ring of these pairs.
func wordsOf(t *testing.T, pairs ...pair) []uint64 {
	t.Helper()
	var words []uint64
	for _, p := range pairs {
		words = append(words, word(t, p))
	}
	return words
}

// pairsOf has what At tells of each slot.
func pairsOf(words []uint64) []pair {
	var l []pair
	for slot := range words {
		next, prev := At(words, slot)
		l = append(l, pair{next, prev})
	}
	return l
}

// around has the pairs of the right ring that has these slots, in order, of so many words.
func around(words int, order ...int) []pair {
	l := slices.Repeat([]pair{out}, words)
	at := 0
	for _, slot := range append(slices.Clone(order), 0) {
		l[at].next, l[slot].prev = slot, at
		at = slot
	}
	return l
}

// orders has all orders of any of the slots from 1 to most.
func orders(most int) [][]int {
	all := [][]int{nil}
	for i := 0; i < len(all); i++ {
		for slot := 1; slot <= most; slot++ {
			if !slices.Contains(all[i], slot) {
				all = append(all, append(slices.Clip(all[i]), slot))
			}
		}
	}
	return all
}

// setOp is the operation that gives slot this Next and Prev.
func setOp(slot, next, prev int) api.Op {
	return api.Op{Kind: api.OpSetRing, A: slot, N: next, M: prev}
}

// foreign has words that are none of a Next and a Prev.
var foreign = []uint64{1 << 26, 1 << 63, math.MaxUint64, end + 2, (end + 2) << 13, 1<<13 - 1, (1<<13 - 1) << 13}

// sameOps fails unless both have the same operations.
func sameOps(t *testing.T, what string, got, want []api.Op) {
	t.Helper()
	if fmt.Sprint(got) != fmt.Sprint(want) && len(got)+len(want) > 0 {
		t.Errorf("%s = %v, want %v", what, got, want)
	}
}

// 23.1: a new ring is the head alone, with room for as many slots as there may be.
func TestNew(t *testing.T) {
	for _, c := range []struct{ slots, want int }{{0, 1}, {1, 2}, {3, 4}, {-1, 1}, {least, 1}, {end, end + 1}, {end - 1, end}, {end + 1, end + 1}, {most, end + 1}, {1 << 32, end + 1}} {
		words := New(c.slots)
		if len(words) != c.want || !slices.Equal(pairsOf(words), around(c.want)) || Check(words) != api.OK || len(List(words)) != 0 {
			t.Errorf("New(%d) has %d words, %v", c.slots, len(words), words[:min(len(words), 3)])
		}
	}
	if words := New(2); !slices.Equal(words, []uint64{0x2001, 0, 0}) {
		t.Errorf("New(2) = %x", words)
	}
	a, b := New(1), New(1)
	a[0], a[1] = 7, 7
	if Check(b) != api.OK || Check(New(1)) != api.OK {
		t.Error("two rings have memory in common")
	}
}

// 23.1: a slot has what its word tells; one that has no word, or one that is none such, has -1 and -1.
func TestAt(t *testing.T) {
	words := wordsOf(t, pair{0, 5}, pair{end, -1}, pair{-1, end}, out, pair{3, 0})
	for slot, want := range []pair{{0, 5}, {end, -1}, {-1, end}, out, {3, 0}} {
		if next, prev := At(words, slot); next != want.next || prev != want.prev {
			t.Errorf("At(%d) = %d, %d, want %v", slot, next, prev, want)
		}
	}
	for _, slot := range []int{-1, 5, end, least, most, 1 << 32, 1<<32 + 1} {
		if next, prev := At(words, slot); next != -1 || prev != -1 {
			t.Errorf("At(%d) = %d, %d", slot, next, prev)
		}
	}
	if next, prev := At(nil, 0); next != -1 || prev != -1 {
		t.Errorf("of no words: %d, %d", next, prev)
	}
	for _, w := range foreign {
		if next, prev := At([]uint64{w, w}, 1); next != -1 || prev != -1 {
			t.Errorf("At of %x = %d, %d", w, next, prev)
		}
	}
	// There may be more words than slots.
	long := make([]uint64, end+3)
	long[end+2] = word(t, pair{1, 2})
	if next, prev := At(long, end+2); next != 1 || prev != 2 {
		t.Errorf("At(%d) = %d, %d", end+2, next, prev)
	}
}

// 23.1: the slots from the head on, up to the head, one below 0, or one that was met.
func TestList(t *testing.T) {
	for _, c := range []struct {
		words []uint64
		want  []int
	}{
		{nil, nil},
		{New(3), nil},
		{wordsOf(t, out), nil},
		{wordsOf(t, around(4, 2, 1, 3)...), []int{2, 1, 3}},
		{wordsOf(t, around(4, 3)...), []int{3}},
		// Prev says nothing here.
		{wordsOf(t, pair{1, -1}, pair{2, 2}, pair{0, -1}), []int{1, 2}},
		{wordsOf(t, pair{1, 2}, pair{2, 0}, pair{-1, 1}), []int{1, 2}},
		{wordsOf(t, pair{1, 2}, pair{2, 0}, pair{1, 1}), []int{1, 2}},
		{wordsOf(t, pair{2, 2}, pair{0, 0}, pair{2, 2}), []int{2}},
		// A slot that has no word has no Next.
		{wordsOf(t, pair{1, 1}, pair{7, 0}), []int{1, 7}},
		{wordsOf(t, pair{end, end}), []int{end}},
		{[]uint64{word(t, pair{1, 1}), math.MaxUint64}, []int{1}},
		{[]uint64{math.MaxUint64, word(t, pair{0, 0})}, nil},
	} {
		if got := List(c.words); !slices.Equal(got, c.want) {
			t.Errorf("List(%x) = %v, want %v", c.words, got, c.want)
		}
	}
	var all []int
	for slot := end; slot > 0; slot-- {
		all = append(all, slot)
	}
	if got := List(wordsOf(t, around(end+1, all...)...)); !slices.Equal(got, all) {
		t.Errorf("the longest ring has %d slots", len(got))
	}
}

// 23.1: of all rings of few words just those are right that go around some slots, in some order.
func TestCheckAll(t *testing.T) {
	for words := 1; words <= 3; words++ {
		right := map[string]int{}
		for _, order := range orders(words - 1) {
			right[fmt.Sprint(around(words, order...))]++
		}
		found := 0
		var each func(pairs []pair)
		each = func(pairs []pair) {
			if len(pairs) < words {
				for next := -1; next <= words; next++ {
					for prev := -1; prev <= words; prev++ {
						each(append(slices.Clip(pairs), pair{next, prev}))
					}
				}
				return
			}
			want := api.ErrForm
			if right[fmt.Sprint(pairs)] > 0 {
				want = api.OK
				found++
			}
			if got := Check(wordsOf(t, pairs...)); got != want {
				t.Fatalf("Check of %v = %v, want %v", pairs, got, want)
			}
		}
		each(nil)
		if found != len(right) {
			t.Errorf("of %d words %d are right, want %d", words, found, len(right))
		}
	}
}

// 23.1: a right ring is right no more, if one number in it is another one, or a word is none such.
func TestCheckNear(t *testing.T) {
	for _, order := range [][]int{nil, {3}, {1, 2}, {4, 2, 3}, {2, 4, 1, 3}} {
		pairs := around(5, order...)
		words := wordsOf(t, pairs...)
		if Check(words) != api.OK || !slices.Equal(List(words), order) {
			t.Errorf("Check of %v = %v", pairs, Check(words))
		}
		for slot := range pairs {
			for other := -1; other <= 6; other++ {
				for _, p := range []pair{{other, pairs[slot].prev}, {pairs[slot].next, other}} {
					changed := slices.Clone(words)
					changed[slot] = word(t, p)
					if why := Check(changed); (why == api.OK) != (p == pairs[slot]) {
						t.Errorf("Check of %v, with %v at %d, = %v", pairs, p, slot, why)
					}
				}
			}
			for _, w := range append(foreign, words[slot]|1<<26, words[slot]|1<<63) {
				changed := slices.Clone(words)
				changed[slot] = w
				if why := Check(changed); why != api.ErrForm {
					t.Errorf("Check of %v, with the word %x at %d, = %v", pairs, w, slot, why)
				}
			}
		}
	}
}

// 23.1: two rings are none, whichever has the head; there are from 1 to MaxCap + 1 words.
func TestCheckEnds(t *testing.T) {
	for _, c := range []struct {
		words []uint64
		want  api.Errno
	}{
		{nil, api.ErrForm},
		{[]uint64{}, api.ErrForm},
		{New(0), api.OK},
		{New(end), api.OK},
		{append(New(end), 0), api.ErrForm},
		{wordsOf(t, pair{0, 0}, pair{2, 2}, pair{1, 1}), api.ErrForm},
		{wordsOf(t, pair{3, 3}, pair{2, 2}, pair{1, 1}, pair{0, 0}), api.ErrForm},
		{wordsOf(t, pair{0, 0}, pair{1, 1}), api.ErrForm},
		{wordsOf(t, out, pair{1, 1}), api.ErrForm},
		{wordsOf(t, out, out), api.ErrForm},
		{wordsOf(t, pair{0, 0}, pair{-1, 0}), api.ErrForm},
		{wordsOf(t, pair{0, 0}, pair{0, -1}), api.ErrForm},
	} {
		if got := Check(c.words); got != c.want {
			t.Errorf("Check of %v = %v, want %v", pairsOf(c.words), got, c.want)
		}
	}
	var all []int
	for slot := 1; slot <= end; slot++ {
		all = append(all, slot)
	}
	whole := wordsOf(t, around(end+1, all...)...)
	if why := Check(whole); why != api.OK {
		t.Errorf("the longest ring: %v", why)
	}
	whole[end] = word(t, pair{1, end - 1})
	if why := Check(whole); why != api.ErrForm {
		t.Errorf("the longest ring, torn: %v", why)
	}
}

// 23.2: OpSetRing gives a slot its Next and Prev, one behind the other; all else does nothing.
func TestDo(t *testing.T) {
	three := wordsOf(t, pair{0, 0}, out, pair{1, 2})
	for _, c := range []struct {
		l    []api.Op
		want []pair
	}{
		{nil, []pair{{0, 0}, out, {1, 2}}},
		{[]api.Op{setOp(1, 2, 0)}, []pair{{0, 0}, {2, 0}, {1, 2}}},
		{[]api.Op{setOp(0, -1, end), setOp(2, end, -1)}, []pair{{-1, end}, out, {end, -1}}},
		{[]api.Op{setOp(1, 2, 0), setOp(1, -1, -1), setOp(1, 0, 1)}, []pair{{0, 0}, {0, 1}, {1, 2}}},
		{[]api.Op{setOp(3, 1, 1), setOp(-1, 1, 1), setOp(most, 1, 1), setOp(least, 1, 1), setOp(1<<32, 1, 1)}, []pair{{0, 0}, out, {1, 2}}},
		{[]api.Op{setOp(0, end+1, 1), setOp(0, 1, end+1), setOp(1, -2, 0), setOp(1, 0, -2), setOp(2, most, 0), setOp(2, 0, least), setOp(2, 1<<13, 1)}, []pair{{0, 0}, out, {1, 2}}},
		{[]api.Op{{Kind: api.OpRing, A: 1, N: 2, M: 2}, {A: 1, N: 2, M: 2}, {Kind: api.OpSetList, A: 1, N: 2, M: 2}, {Kind: api.OpKinds, A: 1, N: 2}, {Kind: -1, A: 1}}, []pair{{0, 0}, out, {1, 2}}},
		{[]api.Op{setOp(3, 1, 1), setOp(1, 2, 2)}, []pair{{0, 0}, {2, 2}, {1, 2}}},
		{[]api.Op{{Kind: api.OpSetRing, A: 1, B: 7, N: 2, M: 2, Id: 9, List: []int{1}}}, []pair{{0, 0}, {2, 2}, {1, 2}}},
	} {
		was := slices.Clone(three)
		got := Do(three, c.l)
		if !slices.Equal(pairsOf(got), c.want) {
			t.Errorf("Do of %v: %v, want %v", c.l, pairsOf(got), c.want)
		}
		got[0], got[1], got[2] = 9, 9, 9
		if !slices.Equal(three, was) {
			t.Fatalf("Do of %v changed what it was given", c.l)
		}
	}
	if got := Do(nil, []api.Op{setOp(0, 0, 0)}); len(got) != 0 {
		t.Errorf("Do of no words has %v", got)
	}
	// A word that is none such stays as it is, till one is set there.
	odd := []uint64{math.MaxUint64, 1 << 40}
	if got := Do(odd, []api.Op{setOp(1, 0, 0)}); !slices.Equal(got, []uint64{math.MaxUint64, 0x2001}) {
		t.Errorf("Do of odd words: %x", got)
	}
}

// 23.3: the slot comes to stand just behind the head. The first row is example 1.
func TestJoins(t *testing.T) {
	for _, c := range []struct {
		pairs []pair
		slot  int
		want  []api.Op
	}{
		{around(3), 2, []api.Op{setOp(2, 0, 0), setOp(0, 2, 2)}},
		{around(4, 1), 3, []api.Op{setOp(3, 1, 0), setOp(1, 0, 3), setOp(0, 3, 1)}},
		{around(4, 3, 1), 2, []api.Op{setOp(2, 3, 0), setOp(3, 1, 2), setOp(0, 2, 1)}},
		// Whatever stands there, its own Next is told, and the head's Prev.
		{[]pair{{0, 2}, out, out}, 1, []api.Op{setOp(1, 0, 0), setOp(0, 1, 1)}},
		{[]pair{{2, -1}, out, out}, 1, []api.Op{setOp(1, 2, 0), setOp(2, -1, 1), setOp(0, 1, -1)}},
		{[]pair{{7, 2}, out, out}, 1, []api.Op{setOp(1, 7, 0), setOp(7, -1, 1), setOp(0, 1, 2)}},
		{[]pair{{1, 2}, {-1, 2}, out}, 1, []api.Op{setOp(1, 1, 0), setOp(1, -1, 1), setOp(0, 1, 2)}},
		// None, if it is in the ring, or no slot, or has no word, or there is no head.
		{around(4, 3, 1), 3, nil},
		{around(4, 3, 1), 0, nil},
		{around(4, 3, 1), -1, nil},
		{around(4, 3, 1), 4, nil},
		{around(4, 3, 1), most, nil},
		{around(4, 3, 1), least, nil},
		{[]pair{{0, 0}, {0, -1}}, 1, nil},
		{[]pair{{-1, 0}, out}, 1, nil},
		{nil, 1, nil},
		{nil, 0, nil},
	} {
		sameOps(t, fmt.Sprintf("Joins(%v, %d)", c.pairs, c.slot), Joins(wordsOf(t, c.pairs...), c.slot), c.want)
	}
	// A word that is none such is as one of -1 and -1.
	sameOps(t, "Joins", Joins([]uint64{word(t, pair{0, 0}), math.MaxUint64}, 1), []api.Op{setOp(1, 0, 0), setOp(0, 1, 1)})
	sameOps(t, "Joins", Joins([]uint64{math.MaxUint64, 0}, 1), nil)
}

// 23.4: the slot goes.
func TestCuts(t *testing.T) {
	for _, c := range []struct {
		pairs []pair
		slot  int
		want  []api.Op
	}{
		{around(3, 2), 2, []api.Op{setOp(0, 0, 0), setOp(2, -1, -1)}},
		{around(4, 1, 3), 1, []api.Op{setOp(0, 3, 3), setOp(3, 0, 0), setOp(1, -1, -1)}},
		{around(4, 1, 3), 3, []api.Op{setOp(1, 0, 0), setOp(0, 1, 1), setOp(3, -1, -1)}},
		{around(4, 3, 1, 2), 1, []api.Op{setOp(3, 2, 0), setOp(2, 0, 3), setOp(1, -1, -1)}},
		// Whatever stands there.
		{[]pair{{0, 0}, {2, 2}, {1, 0}}, 1, []api.Op{setOp(2, 2, 2), setOp(1, -1, -1)}},
		{[]pair{{5, 6}, {0, 7}}, 1, []api.Op{setOp(7, 0, -1), setOp(0, 5, 7), setOp(1, -1, -1)}},
		{[]pair{{5, 6}, {1, 0}}, 1, []api.Op{setOp(0, 1, 6), setOp(1, 1, 0), setOp(1, -1, -1)}},
		// None, if it is not in the ring, or no slot, or has no word.
		{around(4, 1, 3), 2, nil},
		{around(4, 1, 3), 0, nil},
		{around(4, 1, 3), -1, nil},
		{around(4, 1, 3), 4, nil},
		{around(4, 1, 3), most, nil},
		{around(4, 1, 3), least, nil},
		{[]pair{{1, 1}, {-1, 0}}, 1, nil},
		{[]pair{{1, 1}, {0, -1}}, 1, nil},
		{nil, 1, nil},
	} {
		sameOps(t, fmt.Sprintf("Cuts(%v, %d)", c.pairs, c.slot), Cuts(wordsOf(t, c.pairs...), c.slot), c.want)
	}
	sameOps(t, "Cuts", Cuts([]uint64{word(t, pair{1, 1}), math.MaxUint64}, 1), nil)
}

// 23.5: what must be locked is told rising, each once.
func TestLocks(t *testing.T) {
	for _, c := range []struct {
		pairs []pair
		slot  int
		want  []int
	}{
		{around(4), 2, []int{0, 2}},
		{around(4, 1), 2, []int{0, 1, 2}},
		{around(4, 3), 2, []int{0, 2, 3}},
		{around(5, 4, 2, 3), 1, []int{0, 1, 4}},
		{around(5, 4, 2, 3), 2, []int{0, 2, 3, 4}},
		{around(5, 4, 2, 3), 4, []int{0, 2, 4}},
		{around(5, 4, 2, 3), 3, []int{0, 2, 3}},
		{around(5, 3), 3, []int{0, 3}},
		// Whatever stands there: Next alone tells whether it is in the ring.
		{[]pair{{2, 2}, {1, -1}}, 1, []int{0, 1}},
		{[]pair{{2, 3}, {-1, 7}}, 1, []int{0, 1, 2}},
		{[]pair{{2, 3}, {9, -1}}, 1, []int{0, 1, 9}},
		{[]pair{{2, 3}, {9, 8}}, 1, []int{0, 1, 8, 9}},
		{[]pair{{-1, 3}, out}, 1, []int{0, 1}},
		// None, if it is no slot, or has no word.
		{around(4, 1), 0, nil},
		{around(4, 1), -1, nil},
		{around(4, 1), 4, nil},
		{around(4, 1), least, nil},
		{around(4, 1), most, nil},
		{nil, 1, nil},
	} {
		if got := Locks(wordsOf(t, c.pairs...), c.slot); !slices.Equal(got, c.want) {
			t.Errorf("Locks(%v, %d) = %v, want %v", c.pairs, c.slot, got, c.want)
		}
	}
	if got := Locks([]uint64{math.MaxUint64, 1 << 40}, 1); !slices.Equal(got, []int{0, 1}) {
		t.Errorf("Locks of odd words = %v", got)
	}
}

// What is handed in is not changed, and lists that were told have nothing in common with it.
func TestApart(t *testing.T) {
	words := wordsOf(t, around(5, 4, 2)...)
	was := slices.Clone(words)
	for range 2 {
		l, joins, cuts, locks := List(words), Joins(words, 1), Cuts(words, 2), Locks(words, 2)
		sameOps(t, "Joins", joins, []api.Op{setOp(1, 4, 0), setOp(4, 2, 1), setOp(0, 1, 2)})
		sameOps(t, "Cuts", cuts, []api.Op{setOp(4, 0, 0), setOp(0, 4, 4), setOp(2, -1, -1)})
		if !slices.Equal(l, []int{4, 2}) || !slices.Equal(locks, []int{0, 2, 4}) || !slices.Equal(words, was) {
			t.Errorf("List %v, Locks %v, words %x", l, locks, words)
		}
		l[0], joins[0], cuts[0], locks[0] = 9, api.Op{}, api.Op{}, 9
	}
}

// 23.6: a right ring is right behind all Joins, or Cuts, and behind any first few of these nothing is lost but the slot itself.
func TestNeverLost(t *testing.T) {
	const words = 5
	for _, order := range orders(words - 1) {
		for slot := 1; slot < words; slot++ {
			ring := wordsOf(t, around(words, order...)...)
			others := slices.DeleteFunc(slices.Clone(order), func(n int) bool { return n == slot })
			in := len(others) < len(order)
			l, want := Joins(ring, slot), append([]int{slot}, order...)
			if in {
				l, want = Cuts(ring, slot), others
			}
			for few := range len(l) + 1 {
				told := List(Do(ring, l[:few]))
				if kept := slices.DeleteFunc(slices.Clone(told), func(n int) bool { return n == slot }); !slices.Equal(kept, others) {
					t.Fatalf("of %v, behind %v: %v", order, l[:few], told)
				}
			}
			done := Do(ring, l)
			if Check(done) != api.OK || !slices.Equal(pairsOf(done), around(words, want...)) {
				t.Fatalf("of %v, behind %v: %v", order, l, pairsOf(done))
			}
			// All that changes is locked.
			for _, op := range l {
				if !slices.Contains(Locks(ring, slot), op.A) {
					t.Fatalf("of %v: %v changes what Locks %v has not", order, op, Locks(ring, slot))
				}
			}
		}
	}
}

// 23.3, 23.4, 23.6: so it is when slots join, and go, again and again.
func TestManyJoinsAndCuts(t *testing.T) {
	d := draws(23)
	for range 40 {
		words, order := New(1+d.below(40)), []int(nil)
		for range 200 {
			slot := d.below(len(words)+2) - 1
			i := slices.Index(order, slot)
			if i >= 0 {
				words, order = Do(words, Cuts(words, slot)), slices.Delete(order, i, i+1)
			} else if l := Joins(words, slot); len(l) > 0 {
				words, order = Do(words, l), slices.Insert(order, 0, slot)
			} else if slot >= 1 && slot < len(words) {
				t.Fatalf("%d does not join %v", slot, order)
			}
			if Check(words) != api.OK || !slices.Equal(List(words), order) {
				t.Fatalf("%v, want %v", List(words), order)
			}
		}
	}
}
