package tag

import (
	"math"
	"slices"
	"strconv"
	"strings"
	"testing"

	"ganglion/api"
)

const allBits = math.MaxUint64

// draws tells numbers that look like chance, the same ones each time.
type draws uint64

func (d *draws) next() uint64 {
	*d = *d*6364136223846793005 + 1442695040888963407
	return uint64(*d >> 32)
}

// mask has bits of all kinds below n, few and many.
func (d *draws) mask(n int) uint64 {
	w := d.next()<<32 ^ d.next()
	for range d.next() % 5 {
		w &= d.next()<<32 ^ d.next()
	}
	return w & below(n)
}

// below has all bits from 0 to below n.
func below(n int) uint64 {
	return 1<<n - 1
}

// namesUpTo is a right table of n names, whose order is not that of the alphabet.
func namesUpTo(n int) []string {
	l := make([]string, n)
	for i := range l {
		l[i] = "n" + strconv.Itoa(n-i)
	}
	return l
}

// placesOf tells by the document's words the places of the bits of mask.
func placesOf(mask uint64) []int {
	var l []int
	for i := range 64 {
		if mask&(1<<i) != 0 {
			l = append(l, i)
		}
	}
	return l
}

// checkParse fails unless s is told as that mask or error.
func checkParse(t *testing.T, table []string, s string, mask uint64, want api.Errno) {
	t.Helper()
	if got, why := Parse(table, s); got != mask || why != want {
		t.Errorf("Parse(%q, %q) = %d, %v; want %d, %v", table, s, got, why, mask, want)
	}
}

// wrongTables are tables that may not be, and why.
var wrongTables = []struct {
	table []string
	why   api.Errno
}{
	{namesUpTo(65), api.ErrLong},
	{namesUpTo(1000), api.ErrLong},
	{make([]string, 65), api.ErrLong},
	{slices.Repeat([]string{"a"}, 65), api.ErrLong},
	{append(namesUpTo(64), "_"), api.ErrLong},
	{make([]string, 64), api.ErrForm},
	{[]string{""}, api.ErrForm},
	{[]string{"a", "b", ""}, api.ErrForm},
	{[]string{"", ""}, api.ErrForm},
	{[]string{"a", "a", "B"}, api.ErrForm},
	{[]string{"B", "a", "a"}, api.ErrForm},
	{[]string{"a", "B", "a"}, api.ErrForm},
	{append(namesUpTo(62), "n1", "+"), api.ErrForm},
	{[]string{"a", "a"}, api.ErrTwice},
	{[]string{"a", "b", "a"}, api.ErrTwice},
	{[]string{"a", "b", "c", "c"}, api.ErrTwice},
	{[]string{"a", "b", "b", "c"}, api.ErrTwice},
	{append(namesUpTo(63), "n63"), api.ErrTwice},
	{append(namesUpTo(63), "n1"), api.ErrTwice},
	{slices.Repeat([]string{"-"}, 64), api.ErrTwice},
}

// 6.1: tables that are right.
func TestCheckRight(t *testing.T) {
	for _, table := range [][]string{
		nil, {}, {"a"}, {"z"}, {"0"}, {"9"}, {"-"}, {"--"}, {"a-0"}, {"abcdefghijklmnopqrstuvwxyz"}, {"-0123456789"},
		{strings.Repeat("m", 32)}, {strings.Repeat("-", 31), strings.Repeat("-", 32)},
		{"a", "b", "c"}, {"c", "b", "a"}, {"a", "aa", "aaa"}, {"ab", "ba"}, {"a-", "-a"},
		namesUpTo(63), namesUpTo(64),
	} {
		if got := Check(table); got != api.OK {
			t.Errorf("Check(%q) = %v", table, got)
		}
	}
}

// 6.1: tables that are not.
func TestCheckWrong(t *testing.T) {
	for _, c := range wrongTables {
		if got := Check(c.table); got != c.why {
			t.Errorf("Check(%q) = %v, want %v", c.table, got, c.why)
		}
	}
}

// 6.1: names by each byte that may stand in one, and by each other one.
func TestCheckLetters(t *testing.T) {
	const right = "abcdefghijklmnopqrstuvwxyz0123456789-"
	for c := range 256 {
		want := api.ErrForm
		if strings.IndexByte(right, byte(c)) >= 0 {
			want = api.OK
		}
		one := string([]byte{byte(c)})
		for _, name := range []string{one, one + "a", "a" + one, "a" + one + "a"} {
			if got := Check([]string{"other", name}); got != want {
				t.Errorf("Check of the name %q: %v, want %v", name, got, want)
			}
		}
	}
	for _, name := range []string{
		"é", "ä", "ａ", "а", "\u0661", "\u2212", "\u2013", "\ufffd", "\xc3", "a\xc3", "a ", " a", "a+b", "A", "a_b", "a\n", "\U0001f600",
		strings.Repeat("a", 33), strings.Repeat("-", 33), strings.Repeat("a", 1000), strings.Repeat("é", 16), strings.Repeat("a", 32) + "\x00",
	} {
		if got := Check([]string{name}); got != api.ErrForm {
			t.Errorf("Check of the name %q: %v", name, got)
		}
	}
}

// 6.1: whether tags have all that is asked for.
func TestHas(t *testing.T) {
	for _, c := range []struct {
		tags, mask uint64
		want       bool
	}{
		{0, 0, true}, {5, 0, true}, {allBits, 0, true}, {0, 1, false}, {0, allBits, false},
		{5, 5, true}, {5, 4, true}, {5, 1, true}, {5, 2, false}, {5, 3, false}, {5, 7, false}, {7, 5, true},
		{1 << 63, 1 << 63, true}, {1<<63 - 1, 1 << 63, false}, {1 << 31, 1 << 63, false}, {1 << 32, 1, false},
		{allBits, allBits, true}, {allBits - 1, allBits, false}, {allBits, allBits - 1, true}, {1 << 63, 1<<63 + 1, false},
	} {
		if got := Has(c.tags, c.mask); got != c.want {
			t.Errorf("Has(%#x, %#x) = %v", c.tags, c.mask, got)
		}
	}
	d := draws(1)
	for range 20000 {
		tags, mask := d.mask(6), d.mask(6)
		want := true
		for _, place := range placesOf(mask) {
			want = want && slices.Contains(placesOf(tags), place)
		}
		if got := Has(tags, mask); got != want {
			t.Fatalf("Has(%#x, %#x) = %v", tags, mask, got)
		}
	}
}

// 6.1: the places of a mask's bits.
func TestBits(t *testing.T) {
	for _, c := range []struct {
		mask uint64
		want []int
	}{
		{0, nil}, {1, []int{0}}, {5, []int{0, 2}}, {6, []int{1, 2}}, {1 << 63, []int{63}},
		{1<<63 + 1<<32 + 1<<31 + 1, []int{0, 31, 32, 63}}, {allBits, placesOf(allBits)},
	} {
		if got := Bits(c.mask); !slices.Equal(got, c.want) {
			t.Errorf("Bits(%#x) = %v, want %v", c.mask, got, c.want)
		}
	}
	d := draws(2)
	for range 5000 {
		mask := d.mask(64)
		if got := Bits(mask); !slices.Equal(got, placesOf(mask)) {
			t.Fatalf("Bits(%#x) = %v", mask, got)
		}
	}
}

// 6.2: the names of a mask, and its text; they stand as the bits do, not as the alphabet does.
func TestNamesAndText(t *testing.T) {
	for _, c := range []struct {
		table []string
		mask  uint64
		names []string
		text  string
	}{
		{[]string{"a", "b", "c"}, 5, []string{"a", "c"}, "a+c"},
		{[]string{"a", "b", "c"}, 7, []string{"a", "b", "c"}, "a+b+c"},
		{[]string{"c", "-", "a"}, 7, []string{"c", "-", "a"}, "c+-+a"},
		{[]string{"c", "b", "a"}, 6, []string{"b", "a"}, "b+a"},
		{[]string{"a", "b", "c"}, 2, []string{"b"}, "b"},
		{[]string{"a", "b", "c"}, 0, nil, ""},
		{nil, 0, nil, ""},
		{[]string{}, 0, nil, ""},
		{namesUpTo(64), 1<<63 + 1, []string{"n64", "n1"}, "n64+n1"},
		{namesUpTo(64), allBits, namesUpTo(64), strings.Join(namesUpTo(64), "+")},
		{namesUpTo(63), 1<<63 - 1, namesUpTo(63), strings.Join(namesUpTo(63), "+")},
	} {
		names, why := Names(c.table, c.mask)
		if why != api.OK || !slices.Equal(names, c.names) {
			t.Errorf("Names(%q, %#x) = %q, %v; want %q", c.table, c.mask, names, why, c.names)
		}
		text, why := Text(c.table, c.mask)
		if why != api.OK || text != c.text {
			t.Errorf("Text(%q, %#x) = %q, %v; want %q", c.table, c.mask, text, why, c.text)
		}
	}
}

// checkNoNames fails unless a table has neither names nor a text for a mask, for that reason.
func checkNoNames(t *testing.T, table []string, mask uint64, want api.Errno) {
	t.Helper()
	if names, why := Names(table, mask); len(names) != 0 || why != want {
		t.Errorf("Names(%q, %#x) = %q, %v; want %v", table, mask, names, why, want)
	}
	if text, why := Text(table, mask); text != "" || why != want {
		t.Errorf("Text(%q, %#x) = %q, %v; want %v", table, mask, text, why, want)
	}
}

// 6.2: bits without a name.
func TestBitsWithoutNames(t *testing.T) {
	for n := range 64 {
		table := namesUpTo(n)
		for _, mask := range []uint64{1 << n, 1 << 63, allBits, 1<<63 + below(n), below(n + 1)} {
			checkNoNames(t, table, mask, api.ErrRange)
		}
		if names, why := Names(table, below(n)); why != api.OK || !slices.Equal(names, table) {
			t.Errorf("Names(%q, %#x) = %q, %v", table, below(n), names, why)
		}
	}
}

// 6.2 and 6.3: a table's own error comes first.
func TestWrongTables(t *testing.T) {
	for _, c := range wrongTables {
		for _, mask := range []uint64{0, 1, allBits} {
			checkNoNames(t, c.table, mask, c.why)
		}
		for _, s := range []string{"", "a", "n1", "no-name", "a+a", "b+a", "+"} {
			checkParse(t, c.table, s, 0, c.why)
		}
	}
}

// 6.3: texts, and what is none.
func TestParse(t *testing.T) {
	table := []string{"b", "a", "c", "aa", "-"}
	for _, c := range []struct {
		s    string
		mask uint64
		why  api.Errno
	}{
		{"", 0, api.OK}, {"b", 1, api.OK}, {"a", 2, api.OK}, {"aa", 8, api.OK}, {"-", 16, api.OK},
		{"b+a", 3, api.OK}, {"b+-", 17, api.OK}, {"a+aa", 10, api.OK}, {"b+a+c+aa+-", 31, api.OK},
		{"x", 0, api.ErrNotFound}, {"A", 0, api.ErrNotFound}, {"aaa", 0, api.ErrNotFound}, {"b,a", 0, api.ErrNotFound},
		{"+", 0, api.ErrNotFound}, {"++", 0, api.ErrNotFound}, {"b+", 0, api.ErrNotFound}, {"+b", 0, api.ErrNotFound},
		{"b++a", 0, api.ErrNotFound}, {"b +a", 0, api.ErrNotFound}, {" ", 0, api.ErrNotFound}, {"b+a\n", 0, api.ErrNotFound},
		{"b+a+x", 0, api.ErrNotFound}, {"x+b+a", 0, api.ErrNotFound}, {"\xff", 0, api.ErrNotFound}, {"b\x00", 0, api.ErrNotFound},
		{"b+b", 0, api.ErrTwice}, {"b+a+b", 0, api.ErrTwice}, {"-+-", 0, api.ErrTwice}, {"b+a+c+c", 0, api.ErrTwice},
		{"a+b", 0, api.ErrOrder}, {"c+b", 0, api.ErrOrder}, {"b+c+a", 0, api.ErrOrder}, {"c+b+a", 0, api.ErrOrder},
		{"a+b+c", 0, api.ErrOrder}, {"b+-+aa", 0, api.ErrOrder}, {"-+b+a+c+aa", 0, api.ErrOrder},
	} {
		checkParse(t, table, c.s, c.mask, c.why)
	}
	checkParse(t, nil, "", 0, api.OK)
	checkParse(t, nil, "a", 0, api.ErrNotFound)
	checkParse(t, []string{}, "+", 0, api.ErrNotFound)
	checkParse(t, namesUpTo(64), "n64+n1", 1<<63+1, api.OK)
	checkParse(t, namesUpTo(64), "n1+n64", 0, api.ErrOrder)
	checkParse(t, namesUpTo(64), "n1+n1", 0, api.ErrTwice)
	checkParse(t, namesUpTo(64), strings.Join(namesUpTo(64), "+"), allBits, api.OK)
}

// 6.3: of all parts first whether they are names, then whether one is there twice, then whether they rise.
func TestWhichErrorOfAText(t *testing.T) {
	table := []string{"a", "b", "c"}
	for _, s := range []string{"a+a+x", "b+a+x", "b+a+b+", "c+c+c+c+d", "x+a+a", "b+x+b+a", "+a+a"} {
		checkParse(t, table, s, 0, api.ErrNotFound)
	}
	for _, s := range []string{"b+a+a", "b+a+b", "c+b+a+a", "c+a+b+c", "b+b+a", "a+a+c+b", "c+b+b"} {
		checkParse(t, table, s, 0, api.ErrTwice)
	}
	long := strings.Repeat("c+b+a+", 1000)
	checkParse(t, table, long+"x", 0, api.ErrNotFound)
	checkParse(t, table, long+"a", 0, api.ErrTwice)
}

// readText is a Parse by the document's words, for tables that are right.
func readText(table []string, s string) (uint64, api.Errno) {
	var parts []string
	if s != "" {
		parts = strings.Split(s, "+")
	}
	var places []int
	for _, name := range parts {
		places = append(places, slices.Index(table, name))
	}
	if slices.Contains(places, -1) {
		return 0, api.ErrNotFound
	}
	sorted := slices.Sorted(slices.Values(places))
	if len(slices.Compact(slices.Clone(sorted))) < len(places) {
		return 0, api.ErrTwice
	}
	if !slices.Equal(sorted, places) {
		return 0, api.ErrOrder
	}
	mask := uint64(0)
	for _, place := range places {
		mask += 1 << place
	}
	return mask, api.OK
}

// 6.3 and 6.4: texts of all kinds; those that are right are the texts of what is read.
func TestParseOfMany(t *testing.T) {
	d := draws(3)
	table := []string{"b", "a", "ab", "c", "ba"}
	met := map[api.Errno]int{}
	for range 20000 {
		parts := make([]string, d.next()%5)
		for i := range parts {
			parts[i] = table[d.next()%5]
			if d.next()%16 == 0 {
				parts[i] = "abc"[:d.next()%4]
			}
		}
		s := strings.Join(parts, "+")
		mask, why := readText(table, s)
		checkParse(t, table, s, mask, why)
		if text, _ := Text(table, mask); why == api.OK && text != s {
			t.Fatalf("%q is read as %#x, whose text is %q", s, mask, text)
		}
		met[why]++
	}
	for _, why := range []api.Errno{api.OK, api.ErrNotFound, api.ErrTwice, api.ErrOrder} {
		if met[why] < 500 {
			t.Errorf("only %d texts have the error %v", met[why], why)
		}
	}
}

// 6.1 to 6.3: what is handed in stays as it is, and what is told is new.
func TestTablesStay(t *testing.T) {
	table := []string{"c", "b", "a"}
	Check(table)
	Text(table, 7)
	Parse(table, "c+a")
	names, _ := Names(table, 7)
	places := Bits(7)
	clear(names)
	clear(places)
	if !slices.Equal(table, []string{"c", "b", "a"}) {
		t.Errorf("the table became %q", table)
	}
	if again, _ := Names(table, 7); !slices.Equal(again, table) {
		t.Errorf("an answer is kept: %q", again)
	}
	if again := Bits(7); !slices.Equal(again, []int{0, 1, 2}) {
		t.Errorf("an answer is kept: %v", again)
	}
}

// 6.4: a mask is read from its text.
func TestThereAndBack(t *testing.T) {
	d := draws(4)
	for range 5000 {
		n := int(d.next() % 65)
		table, mask := namesUpTo(n), d.mask(n)
		text, why := Text(table, mask)
		if why != api.OK {
			t.Fatalf("Text(%q, %#x) has the error %v", table, mask, why)
		}
		checkParse(t, table, text, mask, api.OK)
		names, _ := Names(table, mask)
		if strings.Join(names, "+") != text || len(names) != len(Bits(mask)) {
			t.Fatalf("the names of %#x are %q, its text is %q", mask, names, text)
		}
	}
	for mask := range uint64(256) {
		table := []string{"h", "-", "0", "aa", "a", "z9", "9z", strings.Repeat("x", 32)}
		text, _ := Text(table, mask)
		checkParse(t, table, text, mask, api.OK)
	}
}
