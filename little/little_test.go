package little

import (
	"hash/fnv"
	"math"
	"strings"
	"testing"

	"ganglion/api"
)

const allBits = math.MaxUint64

// draws tells numbers that look like chance, the same ones each time.
type draws uint64

func (d *draws) next() uint64 {
	*d = *d*6364136223846793005 + 1442695040888963407
	return uint64(*d >> 32)
}

// word has numbers of all sizes.
func (d *draws) word() uint64 {
	return (d.next()<<32 ^ d.next()) >> (d.next() % 64)
}

// text has up to most bytes of all kinds.
func (d *draws) text(most uint64) string {
	l := make([]byte, d.next()%(most+1))
	for i := range l {
		l[i] = byte(d.next())
	}
	return string(l)
}

// numbers are some, and the bytes of each.
var numbers = []struct {
	n     uint64
	bytes string
}{
	{0, "\x00"},
	{1, "\x01"},
	{127, "\x7f"},
	{128, "\x80\x01"},
	{129, "\x81\x01"},
	{255, "\xff\x01"},
	{256, "\x80\x02"},
	{300, "\xac\x02"},
	{1<<14 - 1, "\xff\x7f"},
	{1 << 14, "\x80\x80\x01"},
	{1<<32 - 1, "\xff\xff\xff\xff\x0f"},
	{1<<56 - 1, "\xff\xff\xff\xff\xff\xff\xff\x7f"},
	{1 << 56, "\x80\x80\x80\x80\x80\x80\x80\x80\x01"},
	{1<<63 - 1, "\xff\xff\xff\xff\xff\xff\xff\xff\x7f"},
	{1 << 63, "\x80\x80\x80\x80\x80\x80\x80\x80\x80\x01"},
	{1<<63 + 1, "\x81\x80\x80\x80\x80\x80\x80\x80\x80\x01"},
	{allBits, "\xff\xff\xff\xff\xff\xff\xff\xff\xff\x01"},
}

// noNumbers are bytes that no number begins with, and why.
func noNumbers() map[string]api.Errno {
	nine := strings.Repeat("\x80", 9)
	full := strings.Repeat("\xff", 9)
	return map[string]api.Errno{
		"":         api.ErrShort,
		"\x80":     api.ErrShort,
		"\xff":     api.ErrShort,
		"\xff\x80": api.ErrShort,
		full:       api.ErrShort,
		nine:       api.ErrShort,
		// The last byte is 0, and not the first.
		"\x80\x00":     api.ErrForm,
		"\xff\x00":     api.ErrForm,
		"\x80\x80\x00": api.ErrForm,
		"\x80\x00\x01": api.ErrForm,
		nine + "\x00":  api.ErrForm,
		full + "\x00":  api.ErrForm,
		// A tenth byte that has more than the one bit that is left, whatever comes behind.
		nine + "\x02":         api.ErrForm,
		full + "\x02":         api.ErrForm,
		full + "\x7f":         api.ErrForm,
		full + "\x03\x00":     api.ErrForm,
		nine + "\x82":         api.ErrForm,
		full + "\x83":         api.ErrForm,
		full + "\xff":         api.ErrForm,
		full + "\xff\x01":     api.ErrForm,
		full + "\xc0\x00\x00": api.ErrForm,
		// A tenth byte that is not the last one.
		nine + "\x80":     api.ErrShort,
		nine + "\x81":     api.ErrShort,
		full + "\x81":     api.ErrShort,
		nine + "\x80\x00": api.ErrForm,
		nine + "\x80\x01": api.ErrForm,
		nine + "\x81\x80": api.ErrForm,
		full + "\x81\x01": api.ErrForm,
		full + full:       api.ErrForm,
	}
}

// checkEnded fails unless the reader has this error, and reads nothing more.
func checkEnded(t *testing.T, r *Reader, why api.Errno, left int) {
	t.Helper()
	for range 2 {
		if r.Why() != why || r.Left() != left {
			t.Fatalf("error %v, and %d left; want %v, and %d", r.Why(), r.Left(), why, left)
		}
		if n := r.Num(); n != 0 {
			t.Fatalf("with an error the number %d is read", n)
		}
		if s := r.Text(); s != "" {
			t.Fatalf("with an error the text %q is read", s)
		}
	}
}

// 4.1: the bytes of numbers, as few as can be, and one at least.
func TestNum(t *testing.T) {
	for _, c := range numbers {
		if got := Num(c.n); got != c.bytes {
			t.Errorf("Num(%d) = %q, want %q", c.n, got, c.bytes)
		}
	}
	for size := 1; size <= 10; size++ {
		least := uint64(1) << (7 * (size - 1))
		if got := Num(least); len(got) != size {
			t.Errorf("Num(%d) has %d bytes", least, len(got))
		}
		if got := Num(least - 1); size > 1 && len(got) != size-1 {
			t.Errorf("Num(%d) has %d bytes", least-1, len(got))
		}
	}
}

// 4.1: the bytes of texts: the number of their bytes, and these.
func TestText(t *testing.T) {
	long := strings.Repeat("x", 300)
	for _, c := range [][2]string{
		{"", "\x00"},
		{"a", "\x01a"},
		{"\x00", "\x01\x00"},
		{"\xff\x80", "\x02\xff\x80"},
		{"\u00e9", "\x02\xc3\xa9"},
		{long[:127], "\x7f" + long[:127]},
		{long[:128], "\x80\x01" + long[:128]},
		{long, "\xac\x02" + long},
	} {
		if got := Text(c[0]); got != c[1] {
			t.Errorf("Text(%q) = %q, want %q", c[0], got, c[1])
		}
	}
	for _, size := range []int{api.MaxText, api.MaxText + 1} {
		s := strings.Repeat("y", size)
		if got := Text(s); got != Num(uint64(size))+s {
			t.Errorf("of %d bytes there are %d", size, len(got))
		}
	}
}

// 4.1: sums that were reckoned elsewhere.
func TestSum(t *testing.T) {
	for s, want := range map[string]uint32{
		"":       2166136261,
		"a":      0xe40c292c,
		"foobar": 0xbf9cf968,
		"\x00":   0x050c5d1f,
	} {
		if got := Sum(s); got != want {
			t.Errorf("Sum(%q) = %#x, want %#x", s, got, want)
		}
	}
	d := draws(1)
	for range 2000 {
		s := d.text(60)
		h := fnv.New32a()
		h.Write([]byte(s))
		if got := Sum(s); got != h.Sum32() {
			t.Fatalf("Sum(%q) = %#x, want %#x", s, got, h.Sum32())
		}
	}
}

// 4.2: a number is read, whatever stands behind, and that is left.
func TestReadNum(t *testing.T) {
	for _, c := range numbers {
		for _, behind := range []string{"", "\x00", "\x01", "\x80", "\xff\xff"} {
			r := New(c.bytes + behind)
			if got := r.Left(); got != len(c.bytes)+len(behind) {
				t.Errorf("at the beginning %d are left", got)
			}
			if got := r.Num(); got != c.n || r.Why() != api.OK || r.Left() != len(behind) {
				t.Errorf("%q is read as %d, error %v, and %d left", c.bytes+behind, got, r.Why(), r.Left())
			}
		}
	}
}

// 4.2: what is no number has its error, at the beginning and behind others, also as the number of a text.
func TestReadNoNum(t *testing.T) {
	for s, why := range noNumbers() {
		for _, ahead := range []string{"", "\x00", "\xac\x02"} {
			r := New(ahead + s)
			if ahead != "" {
				r.Num()
			}
			if n := r.Num(); n != 0 {
				t.Errorf("%q is read as %d", s, n)
			}
			checkEnded(t, r, why, len(s))
			r = New(ahead + s)
			if ahead != "" {
				r.Num()
			}
			if text := r.Text(); text != "" {
				t.Errorf("%q is read as %q", s, text)
			}
			checkEnded(t, r, why, len(s))
		}
	}
}

// 4.2: of all short runs of such bytes just those are read that a number has.
func TestReadAllShortRuns(t *testing.T) {
	bytes := "\x00\x01\x02\x7f\x80\x81\x82\xff"
	for _, ahead := range []string{"", strings.Repeat("\x80", 7), strings.Repeat("\xff", 8)} {
		runs := []string{ahead}
		for range 4 {
			var longer []string
			for _, s := range runs {
				for i := range len(bytes) {
					longer = append(longer, s+bytes[i:i+1])
				}
			}
			for _, s := range longer {
				checkRun(t, s)
			}
			runs = longer
		}
	}
}

// checkRun fails unless s is read as the document says, place by place.
func checkRun(t *testing.T, s string) {
	t.Helper()
	n, why, size := uint64(0), api.ErrShort, 0
	for i := 0; i < len(s); i++ {
		if i == 10 || i == 9 && s[i]&0x7f > 1 {
			why = api.ErrForm
			break
		}
		n += uint64(s[i]&0x7f) << (7 * i)
		if s[i] < 0x80 {
			why, size = api.OK, i+1
			if i > 0 && s[i] == 0 {
				why, size = api.ErrForm, 0
			}
			break
		}
	}
	r := New(s)
	if why != api.OK {
		n = 0
	}
	if got := r.Num(); got != n || r.Why() != why || r.Left() != len(s)-size {
		t.Fatalf("%q is read as %d, error %v, and %d left; want %d, %v, and %d", s, got, r.Why(), r.Left(), n, why, len(s)-size)
	}
	if why == api.OK && Num(n) != s[:size] {
		t.Fatalf("%d is read from %q, but has %q", n, s[:size], Num(n))
	}
}

// 4.2: a text is read, up to MaxText bytes of it, and what stands behind is left.
func TestReadText(t *testing.T) {
	for _, s := range []string{
		"", "a", "\x00", "\x80\xff", "\u00e9", strings.Repeat("x", 127), strings.Repeat("x", 128),
		strings.Repeat("z", api.MaxText-1), strings.Repeat("z", api.MaxText),
	} {
		for _, behind := range []string{"", "b", "\x80"} {
			r := New(Text(s) + behind)
			if got := r.Text(); got != s || r.Why() != api.OK || r.Left() != len(behind) {
				t.Errorf("a text of %d bytes is read as one of %d, error %v, and %d left", len(s), len(got), r.Why(), r.Left())
			}
		}
	}
}

// 4.2: a text that is too long, or too short, has its error, and stands there from its number on.
func TestReadNoText(t *testing.T) {
	for _, c := range []struct {
		s   string
		why api.Errno
	}{
		{Text(strings.Repeat("z", api.MaxText+1)), api.ErrLong},
		{Num(api.MaxText + 1), api.ErrLong},
		{Num(1<<31) + "a", api.ErrLong},
		{Num(1<<32) + "a", api.ErrLong},
		{Num(1<<32 + 1), api.ErrLong},
		{Num(1<<63) + "a", api.ErrLong},
		{Num(1<<63 - 1), api.ErrLong},
		{Num(allBits) + "a", api.ErrLong},
		{Num(api.MaxText), api.ErrShort},
		{Num(api.MaxText) + strings.Repeat("z", api.MaxText-1), api.ErrShort},
		{"\x01", api.ErrShort},
		{"\x05\x04abc", api.ErrShort},
		{"\x02a", api.ErrShort},
		{"\x80\x01" + strings.Repeat("a", 127), api.ErrShort},
	} {
		for _, ahead := range []string{"", "\x02ab"} {
			r := New(ahead + c.s)
			if ahead != "" && r.Text() != "ab" {
				t.Error("the text ahead is not read")
			}
			if got := r.Text(); got != "" {
				t.Errorf("a text of %d bytes is read", len(got))
			}
			checkEnded(t, r, c.why, len(c.s))
		}
	}
}

// 4.2: the first error stays, even if another thing could be read there.
func TestFirstErrorStays(t *testing.T) {
	r := New("\x05abc")
	r.Text()
	checkEnded(t, r, api.ErrShort, 4)
	r = New("\x80\x00\x01a")
	r.Num()
	checkEnded(t, r, api.ErrForm, 4)
	r = New("\x07")
	if n := r.Num(); n != 7 || r.Why() != api.OK || r.Left() != 0 {
		t.Fatalf("7 is read as %d, error %v", n, r.Why())
	}
	r.Text()
	checkEnded(t, r, api.ErrShort, 0)
}

// 4.2: a nil reader has nothing, and is no error's place.
func TestNilReader(t *testing.T) {
	var r *Reader
	checkEnded(t, r, api.ErrForm, 0)
}

// 4.2: readers of one text know nothing of each other.
func TestReadersApart(t *testing.T) {
	s := Num(1) + Num(2)
	a, b := New(s), New(s)
	a.Num()
	a.Num()
	a.Num()
	if n := b.Num(); n != 1 || b.Why() != api.OK || b.Left() != 1 || a.Why() != api.ErrShort {
		t.Errorf("the other reader reads %d, error %v, and %d left", n, b.Why(), b.Left())
	}
}

// 4.3: things of both kinds, one behind the other, are read as they were written.
func TestThereAndBack(t *testing.T) {
	d := draws(2)
	for range 300 {
		var s strings.Builder
		var nums []uint64
		var texts []string
		var sizes []int
		for range d.next() % 40 {
			nums, texts = append(nums, d.word()), append(texts, d.text(300))
			s.WriteString(Num(nums[len(nums)-1]))
			sizes = append(sizes, s.Len())
			s.WriteString(Text(texts[len(texts)-1]))
			sizes = append(sizes, s.Len())
		}
		r := New(s.String())
		for i := range nums {
			if n := r.Num(); n != nums[i] || r.Why() != api.OK || r.Left() != s.Len()-sizes[2*i] {
				t.Fatalf("%d is read as %d, error %v, and %d left", nums[i], n, r.Why(), r.Left())
			}
			if text := r.Text(); text != texts[i] || r.Why() != api.OK || r.Left() != s.Len()-sizes[2*i+1] {
				t.Fatalf("%q is read as %q, error %v, and %d left", texts[i], text, r.Why(), r.Left())
			}
		}
		checkAllRead(t, r)
	}
}

// checkAllRead fails unless there is nothing left, and no error till one reads on.
func checkAllRead(t *testing.T, r *Reader) {
	t.Helper()
	if r.Left() != 0 || r.Why() != api.OK {
		t.Fatalf("at the end %d are left, error %v", r.Left(), r.Why())
	}
	r.Num()
	checkEnded(t, r, api.ErrShort, 0)
}
