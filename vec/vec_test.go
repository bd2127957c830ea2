package vec

import (
	"fmt"
	"math"
	"math/big"
	"slices"
	"testing"

	"ganglion/api"
)

const (
	least = math.MinInt32
	most  = math.MaxInt32
)

// draws tells numbers that look like chance, the same ones each time.
type draws uint64

func (d *draws) next() uint64 {
	*d = *d*6364136223846793005 + 1442695040888963407
	return uint64(*d >> 32)
}

// comp has components of all sizes, those that no right vector has, too.
func (d *draws) comp() int32 {
	switch d.next() % 8 {
	case 0:
		return least
	case 1:
		return most
	default:
		return int32(uint32(d.next())) >> (d.next() % 32)
	}
}

// vector has up to so many components of all sizes.
func (d *draws) vector(most int) []int32 {
	v := make([]int32, d.next()%uint64(most+1))
	for i := range v {
		v[i] = d.comp()
	}
	return v
}

// rightVector is right for dim.
func (d *draws) rightVector(dim int) []int32 {
	v := make([]int32, dim)
	for i := range v {
		v[i] = max(min(d.comp(), api.MaxComp), -api.MaxComp)
	}
	return v
}

// comps tells the components of v as numbers of any size, with 0 behind up to dim.
func comps(v []int32, dim int) []*big.Int {
	l := make([]*big.Int, dim)
	for i := range l {
		l[i] = new(big.Int)
		if i < len(v) {
			l[i].SetInt64(int64(v[i]))
		}
	}
	return l
}

// farOff is a Dist by the document's words.
func farOff(a, b []int32) uint64 {
	dim := max(len(a), len(b))
	x, y, sum := comps(a, dim), comps(b, dim), new(big.Int)
	for i := range x {
		d := new(big.Int).Sub(x[i], y[i])
		sum.Add(sum, d.Mul(d, d))
	}
	if !sum.IsUint64() {
		return math.MaxUint64
	}
	return sum.Uint64()
}

// product is a Dot by the document's words.
func product(a, b []int32) int64 {
	dim := max(len(a), len(b))
	x, y, sum := comps(a, dim), comps(b, dim), new(big.Int)
	for i := range x {
		sum.Add(sum, new(big.Int).Mul(x[i], y[i]))
	}
	// The remainder of And is from 0 to below 2^64, whatever the sign.
	low := new(big.Int).And(sum, new(big.Int).SetUint64(math.MaxUint64))
	return int64(low.Uint64())
}

// middle is a Mean by the document's words; all vectors have dim components.
func middle(l [][]int32, dim int) []int32 {
	mean := make([]int32, dim)
	for i := range mean {
		sum := new(big.Int)
		for _, v := range l {
			sum.Add(sum, big.NewInt(int64(v[i])))
		}
		// Div rounds down, where what it divides by is above 0.
		mean[i] = int32(sum.Div(sum, big.NewInt(int64(len(l)))).Int64())
	}
	return mean
}

// 5.1: dims, and lengths.
func TestCheckDim(t *testing.T) {
	for _, c := range []struct {
		n, dim int
		want   api.Errno
	}{
		{1, 1, api.OK}, {2, 2, api.OK}, {4095, 4095, api.OK}, {4096, 4096, api.OK},
		{0, 0, api.ErrInvalid}, {4097, 4097, api.ErrInvalid},
		{0, 1, api.ErrInvalid}, {1, 0, api.ErrInvalid}, {2, 1, api.ErrInvalid}, {1, 2, api.ErrInvalid},
		{4096, 4097, api.ErrInvalid}, {4097, 4096, api.ErrInvalid},
		{0, -1, api.ErrInvalid}, {1, -1, api.ErrInvalid}, {0, math.MinInt, api.ErrInvalid}, {1, math.MaxInt, api.ErrInvalid},
		{1, 1<<32 + 1, api.ErrInvalid},
	} {
		if got := Check(make([]int32, c.n), c.dim); got != c.want {
			t.Errorf("Check of %d components, dim %d: %v, want %v", c.n, c.dim, got, c.want)
		}
	}
	if Check(nil, 0) != api.ErrInvalid || Check(nil, 1) != api.ErrInvalid {
		t.Error("no vector is right")
	}
}

// 5.1: the least and the greatest component, at each place.
func TestCheckComponents(t *testing.T) {
	const dim = 5
	for place := range dim {
		for _, c := range []struct {
			comp int32
			want api.Errno
		}{
			{0, api.OK}, {1, api.OK}, {-1, api.OK}, {1 << 24, api.OK}, {-1 << 24, api.OK}, {1<<24 - 1, api.OK},
			{1<<24 + 1, api.ErrInvalid}, {-1<<24 - 1, api.ErrInvalid},
			{most, api.ErrInvalid}, {least, api.ErrInvalid}, {least + 1, api.ErrInvalid},
		} {
			v := []int32{7, -7, api.MaxComp, -api.MaxComp, 0}
			v[place] = c.comp
			if got := Check(v, dim); got != c.want {
				t.Errorf("Check(%v, %d) = %v, want %v", v, dim, got, c.want)
			}
		}
	}
	long := make([]int32, api.MaxDim)
	long[api.MaxDim-1] = api.MaxComp + 1
	if got := Check(long, api.MaxDim); got != api.ErrInvalid {
		t.Errorf("the last of %d components is too great: %v", api.MaxDim, got)
	}
}

// ordered has unlike vectors, each less than those behind it.
var ordered = [][]int32{
	{}, {least}, {least, most}, {-2, 9, 9}, {-1}, {-1, 0}, {0}, {0, -1}, {0, -1, most}, {0, 0}, {0, 0, 0}, {0, 1},
	{1, least}, {1, 2, 3}, {1, 2, 4}, {1, 3}, {1, 3, least}, {2}, {most}, {most, least}, {most, most},
}

// 5.1: which of two vectors is less, and whether they are the same.
func TestSameAndLess(t *testing.T) {
	for i, a := range ordered {
		for k, b := range ordered {
			if got := Same(a, slices.Clone(b)); got != (i == k) {
				t.Errorf("Same(%v, %v) = %v", a, b, got)
			}
			if got := Less(a, slices.Clone(b)); got != (i < k) {
				t.Errorf("Less(%v, %v) = %v", a, b, got)
			}
		}
	}
}

// 5.1: a list that is nil and one without elements are one.
func TestSameAndLessOfNone(t *testing.T) {
	none := []int32{}
	if !Same(nil, none) || !Same(none, nil) || !Same(nil, nil) || Same(nil, []int32{0}) || Same([]int32{0}, nil) {
		t.Error("Same of none")
	}
	if Less(nil, none) || Less(none, nil) || Less(nil, nil) || !Less(nil, []int32{least}) || Less([]int32{least}, nil) {
		t.Error("Less of none")
	}
}

// 5.1: long vectors that are unlike at one place alone.
func TestSameAndLessAtOnePlace(t *testing.T) {
	for place := range api.MaxDim {
		a, b := make([]int32, api.MaxDim), make([]int32, api.MaxDim)
		a[place] = -1
		if Same(a, b) || !Less(a, b) || Less(b, a) {
			t.Fatalf("vectors that are unlike at %d", place)
		}
	}
}

// 5.2: distances of small vectors, and of those that are not as long as each other.
func TestDist(t *testing.T) {
	for _, c := range []struct {
		a, b []int32
		want uint64
	}{
		{[]int32{1, 2}, []int32{4, 6}, 25},
		{nil, nil, 0}, {nil, []int32{}, 0},
		{[]int32{3}, []int32{3}, 0},
		{[]int32{3}, []int32{-4}, 49},
		{nil, []int32{3, -4}, 25},
		{[]int32{1}, []int32{1, 2, -3}, 13},
		{[]int32{0, 0, 5}, []int32{0}, 25},
		{[]int32{1, 1}, []int32{1, 1, 0, 0}, 0},
		{[]int32{most}, []int32{least}, 18446744065119617025},
		{[]int32{most}, nil, 4611686014132420609},
		{[]int32{least}, nil, 1 << 62},
		{[]int32{api.MaxComp}, []int32{-api.MaxComp}, 1 << 50},
	} {
		if got := Dist(c.a, c.b); got != c.want {
			t.Errorf("Dist(%v, %v) = %d, want %d", c.a, c.b, got, c.want)
		}
		if got := Dist(c.b, c.a); got != c.want {
			t.Errorf("Dist(%v, %v) = %d, want %d", c.b, c.a, got, c.want)
		}
	}
}

// 5.2: sums that are just as great as they may be, and those that are held there.
func TestDistIsHeld(t *testing.T) {
	full := []int32{least, least, least, most, 65535, 362, 5}
	for _, c := range []struct {
		v    []int32
		want uint64
	}{
		{full[:3], 3 << 62},
		{full[:4], 18446744069414584321},
		{full[:6], math.MaxUint64 - 25},
		{full, math.MaxUint64},
		{append(slices.Clone(full[:6]), -4, 3), math.MaxUint64},
		{append(slices.Clone(full[:6]), 4, -2, 2), math.MaxUint64 - 1},
		{append(slices.Clone(full), 1), math.MaxUint64},
		{append(slices.Clone(full), 0, -1, 0), math.MaxUint64},
		{append(slices.Clone(full), least, 7), math.MaxUint64},
		{slices.Repeat([]int32{least}, 4), math.MaxUint64},
		{slices.Repeat([]int32{least}, 5), math.MaxUint64},
		{slices.Repeat([]int32{least}, 8), math.MaxUint64},
	} {
		for _, v := range [][]int32{c.v, slices.Insert(slices.Clone(c.v), 2, 0, 0)} {
			if got := Dist(v, nil); got != c.want || got != farOff(v, nil) {
				t.Errorf("Dist(%v, nil) = %d, want %d", v, got, c.want)
			}
			if got := Dist([]int32{0}, v); got != c.want {
				t.Errorf("Dist(0, %v) = %d, want %d", v, got, c.want)
			}
		}
	}
	a, b := slices.Repeat([]int32{most}, 2), slices.Repeat([]int32{least}, 2)
	if got := Dist(a, b); got != math.MaxUint64 {
		t.Errorf("Dist(%v, %v) = %d", a, b, got)
	}
}

// 5.2: products of small vectors, and sums that go round.
func TestDot(t *testing.T) {
	for _, c := range []struct {
		a, b []int32
		want int64
	}{
		{[]int32{1, 2}, []int32{4, 6}, 16},
		{[]int32{1, 2}, []int32{4, -6}, -8},
		{nil, nil, 0}, {nil, []int32{5}, 0},
		{[]int32{3, 9, 9}, []int32{2}, 6},
		{[]int32{most}, []int32{most}, 4611686014132420609},
		{[]int32{least}, []int32{most}, -4611686016279904256},
		{[]int32{least}, []int32{least}, 1 << 62},
		{[]int32{least, least}, []int32{least, least}, math.MinInt64},
		{[]int32{least, least, 1}, []int32{least, least, -1}, math.MaxInt64},
		{[]int32{least, least, least}, []int32{least, least, least}, -1 << 62},
		{slices.Repeat([]int32{least}, 4), slices.Repeat([]int32{least}, 5), 0},
		{slices.Repeat([]int32{most}, 3), slices.Repeat([]int32{least}, 3), 4611686024869838848},
		{slices.Repeat([]int32{most}, 3), slices.Repeat([]int32{most}, 3), -4611686031312289789},
	} {
		if got := Dot(c.a, c.b); got != c.want {
			t.Errorf("Dot(%v, %v) = %d, want %d", c.a, c.b, got, c.want)
		}
		if got := Dot(c.b, c.a); got != c.want {
			t.Errorf("Dot(%v, %v) = %d, want %d", c.b, c.a, got, c.want)
		}
	}
}

// 5.2: vectors of all kinds.
func TestDistAndDotOfMany(t *testing.T) {
	d := draws(1)
	for range 20000 {
		a, b := d.vector(8), d.vector(8)
		if got, want := Dist(a, b), farOff(a, b); got != want {
			t.Fatalf("Dist(%v, %v) = %d, want %d", a, b, got, want)
		}
		if got, want := Dot(a, b), product(a, b); got != want {
			t.Fatalf("Dot(%v, %v) = %d, want %d", a, b, got, want)
		}
	}
}

// 5.3: means of few vectors, rounded down on both sides of 0.
func TestMean(t *testing.T) {
	for _, c := range []struct {
		l    [][]int32
		want []int32
	}{
		{[][]int32{{1}, {-2}}, []int32{-1}},
		{[][]int32{{-1}, {2}}, []int32{0}},
		{[][]int32{{-1}, {0}, {0}}, []int32{-1}},
		{[][]int32{{-3}, {0}, {0}}, []int32{-1}},
		{[][]int32{{-4}, {0}, {0}}, []int32{-2}},
		{[][]int32{{2}, {0}, {0}}, []int32{0}},
		{[][]int32{{5, -5, 0}}, []int32{5, -5, 0}},
		{[][]int32{{1, 2, -7}, {4, 6, 2}}, []int32{2, 4, -3}},
		{[][]int32{{}}, nil},
		{[][]int32{nil, {}, nil}, nil},
		{[][]int32{{most}, {most}, {most}}, []int32{most}},
		{[][]int32{{least}, {least}, {least}}, []int32{least}},
		{[][]int32{{most}, {least}}, []int32{-1}},
		{[][]int32{{least, most}, {least, most}, {least + 1, most - 1}}, []int32{least, most - 1}},
	} {
		got, why := Mean(c.l)
		if why != api.OK || !slices.Equal(got, c.want) {
			t.Errorf("Mean(%v) = %v, %v; want %v", c.l, got, why, c.want)
		}
	}
}

// 5.3: no vectors, and those that are not all as long as the first.
func TestMeanOfWrongVectors(t *testing.T) {
	for _, l := range [][][]int32{
		nil, {},
		{{1}, {1, 2}}, {{1, 2}, {1}}, {{1}, {}}, {{}, {1}}, {nil, {0}}, {{0}, nil},
		{{1, 2}, {3, 4}, {5}}, {{1, 2}, {3, 4}, {5, 6, 7}}, {{1, 2}, {3}, {4, 5}}, {{1, 2}, {3, 4, 5}, {6}},
	} {
		if got, why := Mean(l); len(got) != 0 || why != api.ErrForm {
			t.Errorf("Mean(%v) = %v, %v", l, got, why)
		}
	}
}

// 5.3: vectors of all kinds, few and many.
func TestMeanOfMany(t *testing.T) {
	d := draws(2)
	for range 2000 {
		dim := int(d.next() % 6)
		l := make([][]int32, 1+d.next()%40)
		for i := range l {
			l[i] = make([]int32, dim)
			for k := range l[i] {
				l[i][k] = d.comp()
			}
		}
		got, why := Mean(l)
		if want := middle(l, dim); why != api.OK || !slices.Equal(got, want) {
			t.Fatalf("Mean(%v) = %v, %v; want %v", l, got, why, want)
		}
	}
	// So many that their sum is beyond 32 bits many times over.
	for _, comp := range []int32{least, most} {
		l := slices.Repeat([][]int32{{comp, -1, 0}}, 1<<16)
		if got, why := Mean(l); why != api.OK || !slices.Equal(got, []int32{comp, -1, 0}) {
			t.Errorf("Mean of %d vectors %v: %v, %v", len(l), l[0], got, why)
		}
	}
}

// 5.1 to 5.3: what is handed in stays as it is, and a mean is new.
func TestVectorsStay(t *testing.T) {
	l := [][]int32{{1, 2, 3}, {4, -5, 6}}
	before := fmt.Sprint(l)
	Check(l[0], 3)
	Same(l[0], l[1])
	Less(l[0], l[1])
	Dist(l[0], l[1][:1])
	Dot(l[0], l[1][:1])
	Mean(l)
	alone, _ := Mean(l[:1])
	clear(alone)
	if fmt.Sprint(l) != before {
		t.Errorf("%s became %v", before, l)
	}
	if again, _ := Mean(l[:1]); !slices.Equal(again, []int32{1, 2, 3}) {
		t.Errorf("an answer is kept: %v", again)
	}
}

// checkExact fails unless the distance of two right vectors is told by those to the empty one and their product.
func checkExact(t *testing.T, a, b []int32) {
	t.Helper()
	if Check(a, len(a)) != api.OK || Check(b, len(b)) != api.OK {
		t.Fatal("the vectors are not right")
	}
	own, other, twice := Dist(a, nil), Dist(b, nil), 2*Dot(a, b)
	if int64(Dist(a, b)) != int64(own)+int64(other)-twice {
		t.Fatalf("Dist is %d, those to the empty one are %d and %d, twice Dot is %d", Dist(a, b), own, other, twice)
	}
	if Dist(a, b) != farOff(a, b) || Dot(a, b) != product(a, b) || Dist(a, b) > 1<<62 {
		t.Fatalf("Dist is %d, Dot is %d", Dist(a, b), Dot(a, b))
	}
}

// 5.4: for right vectors no sum goes beyond 64 bits.
func TestRightVectorsAreExact(t *testing.T) {
	d := draws(3)
	for range 3000 {
		checkExact(t, d.rightVector(1+int(d.next()%20)), d.rightVector(1+int(d.next()%20)))
	}
	for range 20 {
		checkExact(t, d.rightVector(api.MaxDim), d.rightVector(1+int(d.next()%api.MaxDim)))
	}
	up, down := slices.Repeat([]int32{api.MaxComp}, api.MaxDim), slices.Repeat([]int32{-api.MaxComp}, api.MaxDim)
	for _, c := range [][2][]int32{{up, up}, {up, down}, {down, up}, {down, down}, {up, down[:1]}, {up[:4095], down}} {
		checkExact(t, c[0], c[1])
	}
	if Dist(up, down) != 1<<62 || Dist(up, nil) != 1<<60 || Dot(up, down) != -1<<60 || Dot(up, up) != 1<<60 {
		t.Error("the greatest sums of right vectors")
	}
}
