package slots_test

import (
	"math"
	"regexp"
	"slices"
	"strconv"
	"strings"
	"testing"

	"grapevine/api"
	"grapevine/slots"
)

// noSlots are numbers that are no slots.
var noSlots = []int{-1, 64, -64, 65, 127, 128, 256, -1 << 32, 1 << 32, 1<<32 + 5, math.MinInt, math.MaxInt}

// sets are many sets, the same ones in each run: small ones, full ones, single stretches, and mixed ones.
func sets() []slots.Set {
	list := []slots.Set{0, 1, 1 << 63, 1<<64 - 1, 0x5555555555555555, 0xaaaaaaaaaaaaaaaa}
	for low := slots.Set(0); low < 1<<10; low++ {
		list = append(list, low, low<<27, low<<54, ^low, ^(low << 54))
	}
	for first := range 64 {
		for last := first; last < 64; last++ {
			list = append(list, stretch(first, last), ^stretch(first, last))
		}
	}
	next := uint64(7)
	for range 2000 {
		next = next*6364136223846793005 + 1442695040888963407
		mixed := next ^ next>>29
		list = append(list, slots.Set(mixed), slots.Set(mixed&(mixed<<1)), slots.Set(mixed|mixed<<1|mixed<<2))
	}
	return list
}

// stretch is a set of slots in a row, made one by one.
func stretch(first, last int) slots.Set {
	var s slots.Set
	for i := first; i <= last; i++ {
		s += 1 << i
	}
	return s
}

// members are a set's slots, as the chapter words it: those whose bits are 1.
func members(s slots.Set) []int {
	var list []int
	for i := 0; s > 0; i, s = i+1, s/2 {
		if s%2 == 1 {
			list = append(list, i)
		}
	}
	return list
}

// worded is a set's text as the chapter words it, grown slot by slot.
func worded(s slots.Set) string {
	text, start, last := "", -2, -2
	for _, i := range members(s) {
		switch {
		case i != last+1:
			start = i
			if text != "" {
				text += " "
			}
			text += strconv.Itoa(i)
		case last == start:
			text += "-" + strconv.Itoa(i)
		default:
			text = strings.TrimSuffix(text, strconv.Itoa(last)) + strconv.Itoa(i)
		}
		last = i
	}
	return text
}

var (
	slotDigits = `(?:0|[1-9]|[1-5][0-9]|6[0-3])`
	form       = regexp.MustCompile(`\A` + slotDigits + `(?:-` + slotDigits + `)?(?: ` + slotDigits + `(?:-` + slotDigits + `)?)*\z`)
)

// read is the set whose text it is, by another way than by writing texts: the form first, then which numbers may follow which.
func read(text string) (s slots.Set, ok bool) {
	if text == "" {
		return 0, true
	}
	if !form.MatchString(text) {
		return 0, false
	}
	ahead := -2
	for _, part := range strings.Split(text, " ") {
		low, high, more := strings.Cut(part, "-")
		first, _ := strconv.Atoi(low)
		last := first
		if more {
			last, _ = strconv.Atoi(high)
		}
		if first <= ahead+1 || more && last <= first {
			return 0, false
		}
		s, ahead = s|stretch(first, last), last
	}
	return s, true
}

// check holds Parse of a text against read.
func check(t *testing.T, text string) {
	t.Helper()
	want, ok := read(text)
	wantErr := api.OK
	if !ok {
		wantErr = api.ErrSyntax
	}
	if got, e := slots.Parse(text); got != want || e != wantErr {
		t.Errorf("Parse(%.80q) = %x, %d, want %x, %d", text, uint64(got), e, uint64(want), wantErr)
	}
}

// P2.1: the set of slots in any order, of which some may be there twice.
func TestOf(t *testing.T) {
	every := make([]int, 64)
	for i := range every {
		every[i] = 63 - i
	}
	for _, c := range []struct {
		list []int
		want slots.Set
	}{
		{nil, 0},
		{[]int{}, 0},
		{[]int{0}, 1},
		{[]int{63}, 1 << 63},
		{[]int{0, 63}, 1<<63 + 1},
		{[]int{63, 0}, 1<<63 + 1},
		{[]int{5, 5, 5}, 32},
		{[]int{5, 0, 2, 1, 5, 0}, 1 + 2 + 4 + 32},
		{every, 1<<64 - 1},
	} {
		was := slices.Clone(c.list)
		if got, e := slots.Of(c.list...); got != c.want || e != api.OK {
			t.Errorf("Of(%v) = %x, %d, want %x", c.list, uint64(got), e, uint64(c.want))
		}
		if !slices.Equal(was, c.list) {
			t.Errorf("Of changed %v to %v", was, c.list)
		}
	}
	if got, e := slots.Of(); got != 0 || e != api.OK {
		t.Errorf("Of() = %x, %d", uint64(got), e)
	}
}

// P2.1: one that is no slot is refused, wherever it stands, and nothing is told beside the error.
func TestOfNoSlot(t *testing.T) {
	for _, bad := range noSlots {
		for _, list := range [][]int{{bad}, {bad, 1, 2}, {1, bad, 2}, {1, 2, bad}, {bad, bad}} {
			if got, e := slots.Of(list...); got != 0 || e != api.ErrSlot {
				t.Errorf("Of(%v) = %x, %d, want 0, %d", list, uint64(got), e, api.ErrSlot)
			}
		}
	}
}

// P2.1: a set is made of its own slots again.
func TestOfList(t *testing.T) {
	for _, s := range sets() {
		if got, e := slots.Of(s.List()...); got != s || e != api.OK {
			t.Fatalf("Of(%v) = %x, %d", s.List(), uint64(got), e)
		}
	}
}

// P2.1: each set has those slots whose bits are 1, and lists them, rising.
func TestHasAndList(t *testing.T) {
	for _, s := range sets() {
		want := members(s)
		if got := s.List(); !slices.Equal(got, want) {
			t.Fatalf("List of %x = %v, want %v", uint64(s), got, want)
		}
		for i := range 64 {
			if got, want := s.Has(i), slices.Contains(want, i); got != want {
				t.Fatalf("%x has %d: %v, want %v", uint64(s), i, got, want)
			}
		}
	}
}

// P2.1: no set has what is no slot.
func TestHasNoSlot(t *testing.T) {
	for _, s := range []slots.Set{0, 1, 1 << 63, 1<<64 - 1} {
		for _, bad := range noSlots {
			if s.Has(bad) {
				t.Errorf("%x has %d", uint64(s), bad)
			}
		}
	}
}

// What List tells is new memory each time, its spare room too.
func TestListIsNew(t *testing.T) {
	s := stretch(3, 9)
	one, other := s.List(), s.List()
	_ = append(one, 77)
	for i := range one {
		one[i] = 77
	}
	for i, spare := range other[:cap(other)][len(other):] {
		if spare == 77 {
			t.Errorf("two answers share the spare room %d", i)
		}
	}
	if want := []int{3, 4, 5, 6, 7, 8, 9}; !slices.Equal(other, want) || !slices.Equal(s.List(), want) {
		t.Errorf("a list that was told before changed others: %v, %v", other, s.List())
	}
}

// P2.2: the texts that are known, read and written.
func TestTextKnown(t *testing.T) {
	for text, list := range map[string][]int{
		"":             nil,
		"0":            {0},
		"63":           {63},
		"0-1":          {0, 1},
		"0 2":          {0, 2},
		"62-63":        {62, 63},
		"0-2 5":        {0, 1, 2, 5},
		"0 63":         {0, 63},
		"9-11":         {9, 10, 11},
		"1-2 4-5 7":    {1, 2, 4, 5, 7},
		"0-2 5 7-9 11": {0, 1, 2, 5, 7, 8, 9, 11},
	} {
		s, e := slots.Of(list...)
		if e != api.OK {
			t.Fatal(list, e)
		}
		if got := s.Text(); got != text {
			t.Errorf("Text of %v = %q, want %q", list, got, text)
		}
		if got, e := slots.Parse(text); got != s || e != api.OK {
			t.Errorf("Parse(%q) = %x, %d, want %x", text, uint64(got), e, uint64(s))
		}
	}
	if got := slots.Set(1<<64 - 1).Text(); got != "0-63" {
		t.Errorf("Text of all slots = %q", got)
	}
	if got, e := slots.Parse("0-63"); got != 1<<64-1 || e != api.OK {
		t.Errorf("Parse(0-63) = %x, %d", uint64(got), e)
	}
}

// P2.2: each set is written as worded, and read again.
func TestTextAndParse(t *testing.T) {
	for _, s := range sets() {
		text := s.Text()
		if want := worded(s); text != want {
			t.Fatalf("Text of %x = %q, want %q", uint64(s), text, want)
		}
		if got, e := slots.Parse(text); got != s || e != api.OK {
			t.Fatalf("Parse(%q) = %x, %d, want %x", text, uint64(got), e, uint64(s))
		}
		check(t, text)
	}
}

// P2.2: what is no set's text is refused.
func TestParseNoText(t *testing.T) {
	for _, text := range []string{
		" ", "  ", "-", "--", " 1", "1 ", "1  3", "\t1", "1\n", "1\t3", "1\u00a03", "1,3", "\x00", "1\x00", "a", "x1",
		"64", "65", "99", "100", "063", "00", "01", "000", "-1", "+1", "-0", "+0", "1_0", "0x1", "1e1", "1.", "1.0",
		"1-", "-1-2", "1--2", "1-+2", "+1-2", "1-2-3", "1-2-", "0-1-", "1 -", "- 1", "1 - 2", "1- 2", "1 -2",
		"1-1", "0-0", "63-63", "5-3", "63-0", "0-64", "63-64", "64-65", "64-64", "-1-5", "01-2", "1-02", "00-1",
		"2 0", "1 1", "1 2", "0-2 3", "0-2 2-4", "0-2 1", "0-5 1-2", "3 0-2", "10 20 30-31 6", "3 4-5", "0 1-5", "62 63", "1-2 1-2",
		"٣", "１", "²", "–", "1–2", "1−2", "\xff", "1\xff",
		"9999999999999999999999", "18446744073709551616", "18446744073709551617", "4294967296", "4294967297", "-18446744073709551615",
		"0-9999999999999999999999", "256", "320", "0-256", "5-18446744073709551622",
	} {
		if _, ok := read(text); ok {
			t.Errorf("%q is a text", text)
		}
		if got, e := slots.Parse(text); got != 0 || e != api.ErrSyntax {
			t.Errorf("Parse(%q) = %x, %d, want 0, %d", text, uint64(got), e, api.ErrSyntax)
		}
	}
}

// P2.2: all texts of up to six of the letters that matter.
func TestParseOfAllShortTexts(t *testing.T) {
	texts := []string{""}
	for range 7 {
		var longer []string
		for _, text := range texts {
			check(t, text)
			for _, letter := range []string{"0", "1", "2", "6", "-", " "} {
				longer = append(longer, text+letter)
			}
		}
		texts = longer
	}
}

// P2.2: all pairs of two numbers, as a stretch and side by side.
func TestParseOfAllPairs(t *testing.T) {
	for one := range 70 {
		for other := range 70 {
			a, b := strconv.Itoa(one), strconv.Itoa(other)
			check(t, a+"-"+b)
			check(t, a+" "+b)
			check(t, "0-"+a+" "+b)
			check(t, a+" "+b+"-63")
		}
	}
}

// P2.2: texts, of each of which one letter is left out, put in, or made another.
func TestParseOfMistypedTexts(t *testing.T) {
	for _, text := range []string{"0", "63", "0-63", "0-2 5", "0-2 5 7-9 11", "9-11 20 30-39 41 43 45-63"} {
		for i := range len(text) + 1 {
			for _, letter := range []string{"", " ", "-", "+", "0", "1", "5", "9", ",", "\n", "\x00", "a"} {
				check(t, text[:i]+letter+text[i:])
				if i < len(text) {
					check(t, text[:i]+letter+text[i+1:])
				}
			}
		}
	}
}

// P2.2: a long text is no set's, whatever it begins with, and is refused, too.
func TestParseOfLongTexts(t *testing.T) {
	for _, text := range []string{"0", "9", "-", " ", "0 ", "0-1 ", "0 2 ", "\xff"} {
		check(t, strings.Repeat(text, 1<<20))
		check(t, "0-2 5"+strings.Repeat(text, 1<<20))
	}
	odd := make([]string, 0, 32)
	for i := 1; i < 64; i += 2 {
		odd = append(odd, strconv.Itoa(i))
	}
	check(t, strings.Join(odd, " ")) // of all texts that are a set's this has the most parts
}

// P2.3: the shares that are known.
func TestShareKnown(t *testing.T) {
	for _, c := range []struct {
		n, k int
		want string
	}{
		{1, 0, "0-63"},
		{2, 0, "0-31"}, {2, 1, "32-63"},
		{3, 0, "0-20"}, {3, 1, "21-41"}, {3, 2, "42-63"},
		{5, 0, "0-11"}, {5, 1, "12-24"}, {5, 4, "51-63"},
		{15, 0, "0-3"}, {15, 14, "59-63"},
		{16, 0, "0-3"}, {16, 15, "60-63"},
	} {
		if got, e := slots.Share(c.n, c.k); got.Text() != c.want || e != api.OK {
			t.Errorf("Share(%d, %d) = %q, %d, want %q", c.n, c.k, got.Text(), e, c.want)
		}
	}
}

// P2.3: each share is as worded, and those of all k have each slot just once.
func TestShares(t *testing.T) {
	for n := 1; n <= api.MaxNodes; n++ {
		var seen slots.Set
		for k := range n {
			got, e := slots.Share(n, k)
			if want := stretch(k*64/n, (k+1)*64/n-1); got != want || e != api.OK {
				t.Errorf("Share(%d, %d) = %q, %d, want %q", n, k, got.Text(), e, want.Text())
			}
			if seen&got != 0 {
				t.Errorf("Share(%d, %d) has slots of another share", n, k)
			}
			seen |= got
		}
		if seen != 1<<64-1 {
			t.Errorf("the shares of %d have only %q", n, seen.Text())
		}
	}
}

// P2.3: numbers of which there is no share are refused.
func TestNoShare(t *testing.T) {
	for _, c := range [][2]int{
		{0, 0}, {0, -1}, {-1, 0}, {-1, -1}, {17, 0}, {17, 16}, {64, 0}, {-3, -2},
		{1, 1}, {1, -1}, {3, 3}, {3, 4}, {3, -1}, {16, 16}, {16, -1}, {16, 17},
		{math.MaxInt, 0}, {math.MinInt, 0}, {math.MaxInt, math.MaxInt - 1}, {3, math.MaxInt}, {3, math.MinInt}, {1<<32 + 3, 1}, {3, 1 << 32},
		{math.MinInt, math.MinInt}, {0, math.MinInt},
	} {
		if got, e := slots.Share(c[0], c[1]); got != 0 || e != api.ErrForm {
			t.Errorf("Share(%d, %d) = %x, %d, want 0, %d", c[0], c[1], uint64(got), e, api.ErrForm)
		}
	}
}
