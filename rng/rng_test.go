package rng

import (
	"math"
	"math/big"
	"slices"
	"testing"

	"ganglion/api"
)

const allBits = math.MaxUint64

// draws tells numbers that look like chance, the same ones each time, by a rule that is not the package's own.
type draws uint64

func (d *draws) next() uint64 {
	*d = *d*6364136223846793005 + 1442695040888963407
	return uint64(*d >> 32)
}

// word has numbers of all sizes.
func (d *draws) word() uint64 {
	return (d.next()<<32 ^ d.next()) >> (d.next() % 64)
}

// edges has the numbers at which bits are carried, or lost.
func edges() []uint64 {
	l := []uint64{0, allBits, 0x9e3779b97f4a7c15, 0x61c8864680b583eb}
	for place := range 64 {
		one := uint64(1) << place
		l = append(l, one, one-1, one+1, ^one)
	}
	return l
}

// mixed is a Mix by the document's words, with quotients.
func mixed(x uint64) uint64 {
	z := x + 0x9e3779b97f4a7c15
	z = (z ^ z/(1<<30)) * 0xbf58476d1ce4e5b9
	z = (z ^ z/(1<<27)) * 0x94d049bb133111eb
	return z ^ z/(1<<31)
}

// share is a Below by the document's words, with numbers of any size.
func share(x, n uint64) uint64 {
	p := new(big.Int).Mul(new(big.Int).SetUint64(x), new(big.Int).SetUint64(n))
	return p.Rsh(p, 64).Uint64()
}

// height is a Level by the document's words.
func height(draw uint64, m uint64) int {
	for l := range api.MaxLevel {
		if share(mixed(draw+uint64(l)*0x9e3779b97f4a7c15), m) != 0 {
			return l
		}
	}
	return api.MaxLevel
}

// 3.1: mixes that were reckoned elsewhere.
func TestMix(t *testing.T) {
	for _, c := range [][2]uint64{
		{0, 0xe220a8397b1dcdaf},
		{1, 0x910a2dec89025cc1},
		{0x9e3779b97f4a7c15, 0x6e789e6aa1b965f4},
		{1 << 63, 0x481ec0a212a9f3db},
		{allBits, 0xe4d971771b652c20},
		{0x61c8864680b583eb, 0},
	} {
		if got := Mix(c[0]); got != c[1] {
			t.Errorf("Mix(%#x) = %#x, want %#x", c[0], got, c[1])
		}
		if got := Unmix(c[1]); got != c[0] {
			t.Errorf("Unmix(%#x) = %#x, want %#x", c[1], got, c[0])
		}
	}
	d := draws(1)
	for range 20000 {
		if x := d.word(); Mix(x) != mixed(x) {
			t.Fatalf("Mix(%#x) = %#x, want %#x", x, Mix(x), mixed(x))
		}
	}
}

// 3.1: the numbers of a seed, those whose place goes round, too.
func TestAt(t *testing.T) {
	for _, c := range [][3]uint64{
		{0, 0, 0xe220a8397b1dcdaf},
		{0, 1, 0x6e789e6aa1b965f4},
		{0, 2, 0x06c45d188009454f},
		{1234567, 0, 6457827717110365317},
		{1234567, 1, 3203168211198807973},
		{1234567, 2, 9817491932198370423},
		{1234567, 3, 4593380528125082431},
		{1234567, 4, 16408922859458223821},
		{allBits, allBits, 0xb4d055fcf2cbbd7b},
		{7, 1 << 63, 0x63dc0bbbddd40fa8},
	} {
		if got := At(c[0], c[1]); got != c[2] {
			t.Errorf("At(%#x, %#x) = %#x, want %#x", c[0], c[1], got, c[2])
		}
	}
	d := draws(2)
	for range 20000 {
		seed, n := d.word(), d.word()
		if got, want := At(seed, n), mixed(seed+n*0x9e3779b97f4a7c15); got != want {
			t.Fatalf("At(%#x, %#x) = %#x, want %#x", seed, n, got, want)
		}
	}
}

// 3.1: a number's share of others, rounded down.
func TestBelow(t *testing.T) {
	for _, c := range [][3]uint64{
		{1 << 63, 10, 5},
		{0, 0, 0}, {0, allBits, 0}, {allBits, 0, 0},
		{allBits, 1, 0}, {allBits, 2, 1}, {allBits, allBits, allBits - 1},
		{1<<63 - 1, 2, 0}, {1 << 63, 2, 1}, {1<<63 - 1, 10, 4},
		{1 << 32, 1 << 32, 1}, {1<<32 - 1, 1 << 32, 0}, {1 << 63, allBits, 1<<63 - 1},
	} {
		if got := Below(c[0], c[1]); got != c[2] {
			t.Errorf("Below(%#x, %#x) = %#x, want %#x", c[0], c[1], got, c[2])
		}
	}
	d := draws(3)
	for range 20000 {
		x, n := d.word(), d.word()
		got := Below(x, n)
		if want := share(x, n); got != want || n > 0 && got >= n {
			t.Fatalf("Below(%#x, %#x) = %#x, want %#x", x, n, got, want)
		}
	}
}

// 3.2: the least draws that lead to each level.
func TestLevel(t *testing.T) {
	for _, c := range []struct {
		links int
		first []uint64
	}{
		{2, []uint64{0, 3, 7, 14, 33, 119, 20, 47}},
		{3, []uint64{0, 3, 11, 20, 33, 119, 1073, 2266}},
		{16, []uint64{0, 10, 120, 2151, 17542}},
		{32, []uint64{0, 21, 320, 30957, 209696}},
	} {
		for level, draw := range c.first {
			if got := Level(draw, c.links); got != level {
				t.Errorf("Level(%d, %d) = %d, want %d", draw, c.links, got, level)
			}
		}
	}
	d := draws(4)
	for range 5000 {
		draw := d.word()
		for links := 2; links <= api.MaxLinks; links++ {
			if got, want := Level(draw, links), height(draw, uint64(links)); got != want {
				t.Fatalf("Level(%#x, %d) = %d, want %d", draw, links, got, want)
			}
		}
	}
}

// 3.2: no draw leads beyond the top, even where the next numbers are as low.
func TestLevelsEndAtTheTop(t *testing.T) {
	const deep = 698 // its first twelve numbers are all in the lower half
	for n := range uint64(12) {
		if Below(At(deep, n), 2) != 0 {
			t.Fatalf("number %d of %d is not low", n, deep)
		}
	}
	if got := Level(deep, 2); got != api.MaxLevel {
		t.Errorf("Level(%d, 2) = %d", deep, got)
	}
}

// 3.2: links that are too few count as 2, and those that are too many as MaxLinks.
func TestLevelOfOtherLinks(t *testing.T) {
	d := draws(5)
	for range 3000 {
		draw := d.word()
		for _, links := range []int{1, 0, -1, -2, -32, math.MinInt} {
			if got, want := Level(draw, links), height(draw, 2); got != want {
				t.Fatalf("Level(%#x, %d) = %d, want %d", draw, links, got, want)
			}
		}
		for _, links := range []int{33, 34, 64, 4096, 1 << 32, math.MaxInt} {
			if got, want := Level(draw, links), height(draw, 32); got != want {
				t.Fatalf("Level(%#x, %d) = %d, want %d", draw, links, got, want)
			}
		}
	}
}

// 3.2: a draw whose first number is just low enough leads up, and the next one does not.
func TestLevelAtTheBrink(t *testing.T) {
	for _, c := range []struct {
		links int
		brink uint64
	}{
		{math.MinInt, 1 << 63}, {1, 1 << 63}, {2, 1 << 63},
		{3, 1<<64/3 + 1}, {16, 1 << 60}, {31, 1<<64/31 + 1},
		{32, 1 << 59}, {33, 1 << 59}, {math.MaxInt, 1 << 59},
	} {
		if got := Level(Unmix(c.brink), c.links); got != 0 {
			t.Errorf("links %d: the first number %#x leads to %d", c.links, c.brink, got)
		}
		if got := Level(Unmix(c.brink-1), c.links); got == 0 {
			t.Errorf("links %d: the first number %#x leads to 0", c.links, c.brink-1)
		}
	}
}

// 3.3: orders that were reckoned elsewhere.
func TestPerm(t *testing.T) {
	for _, c := range []struct {
		seed uint64
		n    int
		want []int
	}{
		{0, 0, nil},
		{9, 1, []int{0}},
		{0, 2, []int{1, 0}},
		{0, 5, []int{1, 2, 4, 3, 0}},
		{1, 10, []int{0, 3, 5, 1, 8, 9, 6, 4, 2, 7}},
		{allBits, 7, []int{2, 5, 0, 1, 3, 4, 6}},
		{2026, 16, []int{5, 0, 14, 1, 8, 12, 7, 6, 11, 15, 13, 10, 4, 3, 9, 2}},
	} {
		if got := Perm(c.seed, c.n); !slices.Equal(got, c.want) {
			t.Errorf("Perm(%d, %d) = %v, want %v", c.seed, c.n, got, c.want)
		}
	}
	sign := uint64(0)
	for _, n := range Perm(5, api.MaxBits) {
		sign = sign*31 + uint64(n)
	}
	if sign != 17937428439281547786 {
		t.Errorf("Perm(5, MaxBits) has the sign %d", sign)
	}
}

// 3.3: numbers that may not be count as the nearest that may.
func TestPermOfOtherNumbers(t *testing.T) {
	for _, seed := range []uint64{0, 5, allBits} {
		for _, n := range []int{-1, -4096, math.MinInt} {
			if got := Perm(seed, n); len(got) != 0 {
				t.Errorf("Perm(%d, %d) has %d numbers", seed, n, len(got))
			}
		}
		most := Perm(seed, api.MaxBits)
		if len(most) != 4096 {
			t.Errorf("Perm(%d, MaxBits) has %d numbers", seed, len(most))
		}
		for _, n := range []int{4097, 8192, 1 << 32, math.MaxInt} {
			if got := Perm(seed, n); !slices.Equal(got, most) {
				t.Errorf("Perm(%d, %d) is not that of MaxBits", seed, n)
			}
		}
	}
}

// 3.3: what is told is new memory.
func TestPermKeepsNothing(t *testing.T) {
	a := Perm(1, 10)
	clear(a)
	if got := Perm(1, 10); !slices.Equal(got, []int{0, 3, 5, 1, 8, 9, 6, 4, 2, 7}) {
		t.Errorf("an answer is kept: %v", got)
	}
}

// 3.4: each number is that of its mix, and the mix of its unmix: so no two have one.
func TestOneMixEach(t *testing.T) {
	d := draws(6)
	l := edges()
	for range 20000 {
		l = append(l, d.word())
	}
	from := map[uint64]uint64{}
	for _, x := range l {
		z := Mix(x)
		if Unmix(z) != x || Mix(Unmix(x)) != x {
			t.Fatalf("the way of %#x is not there and back", x)
		}
		if other, is := from[z]; is && other != x {
			t.Fatalf("%#x and %#x have one mix", x, other)
		}
		from[z] = x
	}
}

// 3.4: an order has each number once.
func TestOneNumberEach(t *testing.T) {
	d := draws(7)
	counts := []int{api.MaxBits - 1, api.MaxBits, api.MaxBits + 1}
	for n := range 300 {
		counts = append(counts, n)
	}
	for _, n := range counts {
		got := Perm(d.word(), n)
		slices.Sort(got)
		if len(got) != min(n, api.MaxBits) {
			t.Fatalf("of %d there are %d numbers", n, len(got))
		}
		for i, m := range got {
			if m != i {
				t.Fatalf("of %d numbers %d is not there once", n, i)
			}
		}
	}
}
