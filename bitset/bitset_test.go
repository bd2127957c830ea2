package bitset

import (
	"math"
	"slices"
	"testing"

	"ganglion/api"
)

// draws tells numbers that look like chance, the same ones each time.
type draws uint64

func (d *draws) next() uint64 {
	*d = *d*6364136223846793005 + 1442695040888963407
	return uint64(*d >> 32)
}

// someWords has up to most words, some of them empty and some of them full.
func someWords(d *draws, most int) []uint64 {
	s := make([]uint64, d.next()%uint64(most+1))
	for i := range s {
		switch d.next() % 4 {
		case 0:
		case 1:
			s[i] = math.MaxUint64
		case 2:
			s[i] = 1 << (d.next() % 64)
		default:
			s[i] = d.next()<<32 ^ d.next()
		}
	}
	return s
}

// inSet tells by the document's words alone whether n is in s.
func inSet(s []uint64, n int) bool {
	if n < 0 || n >= 4096 {
		return false
	}
	return n/64 < len(s) && s[n/64]&(1<<(n%64)) != 0
}

// numbers has all n that are in a set, as is says.
func numbers(is func(n int) bool) []int {
	var l []int
	for n := -70; n < 4096+140; n++ {
		if is(n) {
			l = append(l, n)
		}
	}
	return l
}

// checkShort fails unless s has no word too many.
func checkShort(t *testing.T, s []uint64) {
	t.Helper()
	if len(s) > 64 || len(s) > 0 && s[len(s)-1] == 0 {
		t.Fatalf("a set of %d words is not short", len(s))
	}
}

// checkSet fails unless s is the short set of just the numbers of l.
func checkSet(t *testing.T, s []uint64, l []int) {
	t.Helper()
	checkShort(t, s)
	if got := numbers(func(n int) bool { return inSet(s, n) }); !slices.Equal(got, l) {
		t.Fatalf("the set has %v, not %v", got, l)
	}
}

// 1.1: the numbers that may be in a set are in it, in any order and however often; others are not.
func TestOf(t *testing.T) {
	for _, c := range []struct {
		l    []int
		want []uint64
	}{
		{nil, nil},
		{[]int{}, nil},
		{[]int{0, 65, -1}, []uint64{1, 2}},
		{[]int{65, 0, 65, 0}, []uint64{1, 2}},
		{[]int{63}, []uint64{1 << 63}},
		{[]int{64}, []uint64{0, 1}},
		{[]int{63, 64}, []uint64{1 << 63, 1}},
		{[]int{-1, -64, math.MinInt, 4096, 4097, 8192, math.MaxInt}, nil},
		{[]int{4096, 3}, []uint64{8}},
	} {
		if got := Of(c.l...); !slices.Equal(got, c.want) {
			t.Errorf("Of(%v) = %v, want %v", c.l, got, c.want)
		}
	}
	last := Of(api.MaxBits - 1)
	if len(last) != 64 || last[63] != 1<<63 {
		t.Errorf("the greatest number: %v", last)
	}
	checkSet(t, last, []int{4095})
}

// 1.1: each of the numbers that there may be, alone.
func TestOfEach(t *testing.T) {
	for n := 0; n < api.MaxBits; n++ {
		s := Of(n)
		if len(s) != n/64+1 || s[n/64] != 1<<(n%64) || Count(s) != 1 || !Has(s, n) {
			t.Fatalf("Of(%d) = %v", n, s)
		}
	}
}

// 1.1: what is handed in stays as it is.
func TestOfKeepsItsNumbers(t *testing.T) {
	l := []int{70, -1, 3, 70}
	Of(l...)
	if !slices.Equal(l, []int{70, -1, 3, 70}) {
		t.Errorf("the numbers became %v", l)
	}
}

// 1.1: what is not in the set, or may not be in one, is not.
func TestHas(t *testing.T) {
	full := slices.Repeat([]uint64{math.MaxUint64}, 70)
	for _, c := range []struct {
		s    []uint64
		n    int
		want bool
	}{
		{nil, 0, false},
		{[]uint64{1}, 0, true},
		{[]uint64{1}, 1, false},
		{[]uint64{1}, 64, false},
		{[]uint64{0, 2}, 65, true},
		{[]uint64{0, 2}, 1, false},
		{[]uint64{0, 2}, 129, false},
		{[]uint64{1 << 63}, 63, true},
		{[]uint64{math.MaxUint64}, -1, false},
		{[]uint64{math.MaxUint64}, -64, false},
		{[]uint64{math.MaxUint64}, math.MinInt, false},
		{full, 4095, true},
		{full, 4096, false},
		{full, 4100, false},
		{full, math.MaxInt, false},
	} {
		if got := Has(c.s, c.n); got != c.want {
			t.Errorf("Has(%d words, %d) = %v", len(c.s), c.n, got)
		}
	}
}

// 1.1: the numbers of a set rise, and words that say nothing count for nothing.
func TestListAndCount(t *testing.T) {
	long := make([]uint64, 66)
	long[1], long[63], long[64], long[65] = 5, 1<<63, 7, math.MaxUint64
	for _, c := range []struct {
		s    []uint64
		want []int
	}{
		{nil, nil},
		{[]uint64{}, nil},
		{[]uint64{0, 0}, nil},
		{[]uint64{1, 2}, []int{0, 65}},
		{[]uint64{1<<63 | 1, 0, 1}, []int{0, 63, 128}},
		{[]uint64{6, 0, 0}, []int{1, 2}},
		{long, []int{64, 66, 4095}},
	} {
		if got := List(c.s); !slices.Equal(got, c.want) {
			t.Errorf("List(%v) = %v, want %v", c.s, got, c.want)
		}
		if got := Count(c.s); got != len(c.want) {
			t.Errorf("Count(%v) = %d, want %d", c.s, got, len(c.want))
		}
	}
	if got := Count(slices.Repeat([]uint64{math.MaxUint64}, 65)); got != 4096 {
		t.Errorf("a full set counts %d", got)
	}
}

// 1.1: the least number from n on; 0 and false, if there is none.
func TestNext(t *testing.T) {
	beyond := make([]uint64, 65)
	beyond[0], beyond[64] = 2, 1
	for _, c := range []struct {
		s    []uint64
		n    int
		want int
		is   bool
	}{
		{nil, 0, 0, false},
		{nil, math.MinInt, 0, false},
		{[]uint64{1, 2}, math.MinInt, 0, true},
		{[]uint64{1, 2}, -1, 0, true},
		{[]uint64{1, 2}, 0, 0, true},
		{[]uint64{1, 2}, 1, 65, true},
		{[]uint64{1, 2}, 64, 65, true},
		{[]uint64{1, 2}, 65, 65, true},
		{[]uint64{1, 2}, 66, 0, false},
		{[]uint64{1, 2}, 128, 0, false},
		{[]uint64{1, 2}, math.MaxInt, 0, false},
		{[]uint64{1 << 63}, 63, 63, true},
		{[]uint64{1 << 63, 1}, 64, 64, true},
		{[]uint64{8, 0, 0, 8}, 4, 195, true},
		{beyond, 1, 1, true},
		{beyond, 2, 0, false},
		{beyond, 4096, 0, false},
	} {
		if got, is := Next(c.s, c.n); got != c.want || is != c.is {
			t.Errorf("Next(%v, %d) = %d, %v", c.s, c.n, got, is)
		}
	}
}

// 1.1: of many sets, each call tells what the words of the document do.
func TestAsks(t *testing.T) {
	d := draws(1)
	for range 60 {
		s := someWords(&d, 68)
		was := slices.Clone(s)
		want := numbers(func(n int) bool { return inSet(s, n) })
		if !slices.Equal(List(s), want) || Count(s) != len(want) {
			t.Fatalf("List or Count of %v", s)
		}
		for n := -70; n < 4096+140; n++ {
			if Has(s, n) != inSet(s, n) {
				t.Fatalf("Has(%v, %d)", s, n)
			}
			place, _ := slices.BinarySearch(want, n)
			least, is := 0, place < len(want)
			if is {
				least = want[place]
			}
			if got, found := Next(s, n); got != least || found != is {
				t.Fatalf("Next(%v, %d) = %d, %v", s, n, got, found)
			}
		}
		if !slices.Equal(s, was) {
			t.Fatal("a set that was handed in has changed")
		}
	}
}

// 1.2: what is in either, in both, or in the first alone, each told by a short set.
func TestTogether(t *testing.T) {
	for _, c := range []struct {
		a, b, union, meet, less []uint64
	}{
		{nil, nil, nil, nil, nil},
		{[]uint64{0, 0}, []uint64{0}, nil, nil, nil},
		{[]uint64{3}, nil, []uint64{3}, nil, []uint64{3}},
		{nil, []uint64{3}, []uint64{3}, nil, nil},
		{[]uint64{1, 2}, []uint64{1}, []uint64{1, 2}, []uint64{1}, []uint64{0, 2}},
		{[]uint64{1}, []uint64{1, 2}, []uint64{1, 2}, []uint64{1}, nil},
		{[]uint64{1, 2}, []uint64{2, 2}, []uint64{3, 2}, []uint64{0, 2}, []uint64{1}},
		{[]uint64{5, 6, 7}, []uint64{5, 6, 7}, []uint64{5, 6, 7}, []uint64{5, 6, 7}, nil},
		{[]uint64{6, 0}, []uint64{3, 0, 0}, []uint64{7}, []uint64{2}, []uint64{4}},
	} {
		if got := Union(c.a, c.b); !slices.Equal(got, c.union) {
			t.Errorf("Union(%v, %v) = %v", c.a, c.b, got)
		}
		if got := Meet(c.a, c.b); !slices.Equal(got, c.meet) {
			t.Errorf("Meet(%v, %v) = %v", c.a, c.b, got)
		}
		if got := Less(c.a, c.b); !slices.Equal(got, c.less) {
			t.Errorf("Less(%v, %v) = %v", c.a, c.b, got)
		}
	}
}

// 1.2: words behind the first MaxBits / 64 are in no set that is told.
func TestTogetherBeyond(t *testing.T) {
	full := slices.Repeat([]uint64{math.MaxUint64}, 66)
	end := make([]uint64, 66)
	end[64], end[65] = 1, 1
	for _, got := range [][]uint64{Union(full, nil), Union(nil, full), Meet(full, full), Less(full, end)} {
		if !slices.Equal(got, full[:64]) {
			t.Errorf("%d words are told", len(got))
		}
	}
	for _, got := range [][]uint64{Union(end, end), Meet(end, full), Less(end, nil)} {
		if len(got) != 0 {
			t.Errorf("%d words are told of an empty set", len(got))
		}
	}
}

// 1.2: of many sets, each of the three tells what the words of the document do.
func TestTogetherAsks(t *testing.T) {
	d := draws(2)
	for range 80 {
		a, b := someWords(&d, 68), someWords(&d, 68)
		wasA, wasB := slices.Clone(a), slices.Clone(b)
		checkSet(t, Union(a, b), numbers(func(n int) bool { return inSet(a, n) || inSet(b, n) }))
		checkSet(t, Meet(a, b), numbers(func(n int) bool { return inSet(a, n) && inSet(b, n) }))
		checkSet(t, Less(a, b), numbers(func(n int) bool { return inSet(a, n) && !inSet(b, n) }))
		if !slices.Equal(a, wasA) || !slices.Equal(b, wasB) {
			t.Fatal("a set that was handed in has changed")
		}
	}
}

// 1.2: who writes into a set that was told changes none of those that were handed in.
func TestTogetherIsNewMemory(t *testing.T) {
	for _, c := range [][2][]uint64{{{1, 2}, nil}, {nil, {1, 2}}, {{1, 2}, {1, 2}}, {{3, 2, 4}, {1}}} {
		a, b := slices.Clone(c[0]), slices.Clone(c[1])
		for _, told := range [][]uint64{Union(a, b), Meet(a, b), Less(a, b)} {
			told = told[:cap(told)]
			for i := range told {
				told[i] = 77
			}
		}
		if !slices.Equal(a, c[0]) || !slices.Equal(b, c[1]) {
			t.Errorf("%v and %v became %v and %v", c[0], c[1], a, b)
		}
	}
}

// 1.3: a set that is told is that of its list.
func TestByItsNumbers(t *testing.T) {
	d := draws(3)
	for range 200 {
		a, b := someWords(&d, 68), someWords(&d, 68)
		for _, s := range [][]uint64{Of(List(a)...), Union(a, b), Meet(a, b), Less(a, b)} {
			checkShort(t, s)
			if !slices.Equal(Of(List(s)...), s) {
				t.Fatalf("%v is not the set of its list", s)
			}
		}
		if !slices.Equal(List(Of(List(a)...)), List(a)) {
			t.Fatalf("the list of %v has another set", a)
		}
	}
}

// 1.4: Next, again and again, goes through the list.
func TestThereAndBack(t *testing.T) {
	d := draws(4)
	for range 200 {
		s := someWords(&d, 68)
		var met []int
		for n, is := Next(s, 0); is; n, is = Next(s, n+1) {
			met = append(met, n)
		}
		if !slices.Equal(met, List(s)) {
			t.Fatalf("Next goes through %v, not %v", met, List(s))
		}
	}
}
