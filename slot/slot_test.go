package slot_test

import (
	"bytes"
	"slices"
	"strings"
	"sync"
	"testing"

	"grapevine/api"
	"grapevine/slot"
)

// bitwise is the sum as the chapter words it, bit by bit and without a table, from any sum on.
func bitwise(sum int, b []byte) int {
	for _, c := range b {
		sum ^= int(c) << 8
		for i := 0; i < 8; i++ {
			if sum >= 0x8000 {
				sum = sum*2%0x10000 ^ 0x1021
			} else {
				sum *= 2
			}
		}
	}
	return sum
}

// texts are byte strings of many lengths and values, the same ones in each run.
func texts() [][]byte {
	list := [][]byte{nil, {}, []byte("123456789"), []byte("foo"), []byte("käse"), bytes.Repeat([]byte{0}, 40), bytes.Repeat([]byte{255}, 300)}
	next := uint32(7)
	for n := 1; n < 70; n++ {
		b := make([]byte, n)
		for i := range b {
			next = next*1664525 + 1013904223
			b[i] = byte(next >> 24)
		}
		list = append(list, b)
	}
	return list
}

// P1.1: the sums that are known.
func TestSumKnown(t *testing.T) {
	h := slot.New()
	for text, want := range map[string]int{
		"":                  0,
		"\x00":              0,
		"\x00\x00":          0,
		"\x01":              0x1021,
		"\x10":              0x1231,
		"\x80":              0x9188,
		"\xff":              0x1ef0,
		"A":                 0x58e5,
		"foo":               44950,
		"\x00foo":           44950,
		"123456789":         0x31c3,
		"123456789\x31\xc3": 0,
	} {
		if got := h.Sum([]byte(text)); got != want {
			t.Errorf("Sum(%q) = %x, want %x", text, got, want)
		}
	}
	if h.Sum(nil) != 0 {
		t.Error("Sum of nil is not 0")
	}
}

// P1.1: each single byte, and texts of many lengths, sum up to what the chapter's words come to.
func TestSumAsWorded(t *testing.T) {
	h := slot.New()
	for i := 0; i < 256; i++ {
		if got, want := h.Sum([]byte{byte(i)}), bitwise(0, []byte{byte(i)}); got != want {
			t.Errorf("Sum of the byte %x = %x, want %x", i, got, want)
		}
	}
	for _, b := range texts() {
		if got, want := h.Sum(b), bitwise(0, b); got != want {
			t.Errorf("Sum(%x) = %x, want %x", b, got, want)
		}
	}
}

// P1.1: More goes on from any sum from 0 to 65535, and answers one.
func TestMoreFromEachSum(t *testing.T) {
	h := slot.New()
	for sum := 0; sum <= 65535; sum++ {
		if got := h.More(sum, nil); got != sum {
			t.Fatalf("More(%x, nil) = %x", sum, got)
		}
		if got := h.More(sum, []byte{}); got != sum {
			t.Fatalf("More(%x, empty) = %x", sum, got)
		}
		b := []byte{byte(sum * 31), byte(sum >> 3), byte(sum >> 11)}
		got := h.More(sum, b)
		if want := bitwise(sum, b); got != want {
			t.Fatalf("More(%x, %x) = %x, want %x", sum, b, got, want)
		}
		if got < 0 || got > 65535 {
			t.Fatalf("More(%x, %x) = %d", sum, b, got)
		}
	}
}

// P1.1: a text's sum, and More of what stands behind it, come to the sum of both, wherever it is cut.
func TestMoreAtEachCut(t *testing.T) {
	h := slot.New()
	for _, b := range texts() {
		whole := h.Sum(b)
		for i := 0; i <= len(b); i++ {
			if got := h.More(h.Sum(b[:i]), b[i:]); got != whole {
				t.Errorf("%x cut at %d: %x, want %x", b, i, got, whole)
			}
		}
	}
}

// P1.1: all hashers are alike, and each is one of its own.
func TestNewAlike(t *testing.T) {
	one, other := slot.New(), slot.New()
	if one == nil || other == nil || one == other {
		t.Fatal("New doesn't make hashers")
	}
	for _, b := range texts() {
		if one.Sum(b) != other.Sum(b) || one.More(4711, b) != other.More(4711, b) || one.Slot(string(b)) != other.Slot(string(b)) {
			t.Errorf("two hashers are unlike of %x", b)
		}
	}
}

// P1: of a number that is no sum nothing is promised, but that the call ends and doesn't panic.
func TestMoreOfNoSumEnds(t *testing.T) {
	h := slot.New()
	for _, sum := range []int{-1, -65536, 65536, 1 << 32, -1 << 63, 1<<63 - 1} {
		for _, b := range [][]byte{nil, []byte("foo")} {
			h.More(sum, b)
		}
	}
	if h.Sum([]byte("foo")) != 44950 {
		t.Error("a number that is no sum changed the hasher")
	}
}

// The bytes that are handed in, and the room behind them, stay as they are.
func TestBytesUnchanged(t *testing.T) {
	h := slot.New()
	room := []byte("123456789 and more behind it")
	was := slices.Clone(room)
	h.Sum(room[:9])
	h.More(77, room[:9])
	if !bytes.Equal(room, was) {
		t.Errorf("the bytes were changed to %q", room)
	}
}

// P1.2: what counts of a key, at all the edges of the braces.
func TestTag(t *testing.T) {
	for key, want := range map[string]string{
		"":               "",
		"a":              "a",
		"foo":            "foo",
		"{":              "{",
		"}":              "}",
		"{}":             "{}",
		"}{":             "}{",
		"{a":             "{a",
		"a}":             "a}",
		"a{":             "a{",
		"{a}":            "a",
		"{user1}.x":      "user1",
		"x{foo}":         "foo",
		"x{foo}y":        "foo",
		"{}x":            "{}x",
		"x{}":            "x{}",
		"{}{a}":          "{}{a}",
		"x{}y{a}z":       "x{}y{a}z",
		"a{b{c}d}":       "b{c",
		"{{a}}":          "{a",
		"{{}":            "{",
		"{{}}":           "{",
		"{}}":            "{}}",
		"{a}}":           "a",
		"{a}{b}":         "a",
		"{a}{":           "a",
		"}{a}":           "a",
		"a}b{":           "a}b{",
		"a}b{c":          "a}b{c",
		"a}b{c}":         "c",
		"{ }":            " ",
		"{\x00}":         "\x00",
		"\xff{\xfe}\xfd": "\xfe",
		"ä{ö}ü":          "ö",
	} {
		if got := slot.Tag(key); got != want {
			t.Errorf("Tag(%q) = %q, want %q", key, got, want)
		}
	}
}

// worded is what counts of a key as the chapter words it, byte by byte.
func worded(key string) string {
	for i := 0; i < len(key); i++ {
		if key[i] != '{' {
			continue
		}
		for j := i + 1; j < len(key); j++ {
			if key[j] == '}' && j > i+1 {
				return key[i+1 : j]
			}
			if key[j] == '}' {
				return key
			}
		}
		return key
	}
	return key
}

// P1.2: all keys of up to seven of the letters that matter.
func TestTagOfAllShortKeys(t *testing.T) {
	h := slot.New()
	keys := []string{""}
	for n := 0; n <= 7; n++ {
		var longer []string
		for _, key := range keys {
			want := worded(key)
			if got := slot.Tag(key); got != want {
				t.Errorf("Tag(%q) = %q, want %q", key, got, want)
			}
			if got := h.Slot(key); got != bitwise(0, []byte(want))%64 {
				t.Errorf("Slot(%q) = %d", key, got)
			}
			longer = append(longer, key+"{", key+"}", key+"a")
		}
		keys = longer
	}
}

// P1.2: the slots that are known, of keys with braces and without.
func TestSlotKnown(t *testing.T) {
	h := slot.New()
	for key, want := range map[string]int{
		"":          0,
		"\x00":      0,
		"\x01":      0x21,
		"foo":       22,
		"{foo}":     22,
		"{foo}x":    22,
		"x{foo}y":   22,
		"foo{}":     bitwise(0, []byte("foo{}")) % 64,
		"{}foo":     bitwise(0, []byte("{}foo")) % 64,
		"{foo":      bitwise(0, []byte("{foo")) % 64,
		"123456789": 0x31c3 % 64,
	} {
		if got := h.Slot(key); got != want {
			t.Errorf("Slot(%q) = %d, want %d", key, got, want)
		}
	}
}

// P1.2: a key's slot is one of all slots, each of them is some key's, and a long key has one, too.
func TestSlotInRange(t *testing.T) {
	h := slot.New()
	var hit [api.Slots]bool
	for _, b := range texts() {
		for i := range b {
			n := h.Slot(string(b[i:]))
			if n < 0 || n >= api.Slots {
				t.Fatalf("Slot(%x) = %d", b[i:], n)
			}
			hit[n] = true
		}
	}
	for n, was := range hit {
		if !was {
			t.Errorf("no key has the slot %d", n)
		}
	}
	long := strings.Repeat("k", 1<<20)
	if got, want := h.Slot(long+"{foo}"+long), 22; got != want {
		t.Errorf("Slot of a long key = %d, want %d", got, want)
	}
}

// P1.3: what a hasher answers is the same each time, whatever it was asked meanwhile.
func TestSameEachTime(t *testing.T) {
	h := slot.New()
	for range 3 {
		for _, b := range texts() {
			if h.Sum(b) != bitwise(0, b) || h.More(9, b) != bitwise(9, b) {
				t.Errorf("%x: another sum than before", b)
			}
			if h.Slot(string(b)) != bitwise(0, []byte(worded(string(b))))%64 {
				t.Errorf("%x: another slot than before", b)
			}
		}
	}
}

// P1.3: each call may be the first one of a hasher.
func TestFirstCall(t *testing.T) {
	if got := slot.New().Sum([]byte("123456789")); got != 0x31c3 {
		t.Errorf("Sum first: %x", got)
	}
	if got := slot.New().More(bitwise(0, []byte("1234")), []byte("56789")); got != 0x31c3 {
		t.Errorf("More first: %x", got)
	}
	if got := slot.New().Slot("x{foo}"); got != 22 {
		t.Errorf("Slot first: %d", got)
	}
}

// P1.3: many use a new hasher at once, so that its first use is by many, too.
func TestManyAtOnce(t *testing.T) {
	for range 200 {
		h := slot.New()
		gate := make(chan struct{})
		var all sync.WaitGroup
		for range 16 {
			all.Go(func() {
				<-gate
				if h.Slot("x{foo}y") != 22 || h.Sum([]byte("123456789")) != 0x31c3 || h.More(h.Sum([]byte("1234")), []byte("56789")) != 0x31c3 {
					t.Error("another answer, where many ask at once")
				}
			})
		}
		close(gate)
		all.Wait()
	}
}
