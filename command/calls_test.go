package command_test

import (
	"math"
	"math/rand"
	"regexp"
	"strconv"
	"strings"
	"testing"

	"grapevine/api"
	"grapevine/command"
	"grapevine/slots"
)

// numberForm is a number, as the chapter words it.
var numberForm = regexp.MustCompile(`\A(?:0|[1-9][0-9]{0,14})\z`)

// isWord tells whether a text is a word, letters big or small alike.
func isWord(text, word string) bool {
	if len(text) != len(word) {
		return false
	}
	for i := range len(word) {
		if text[i] != word[i] && text[i] != word[i]+'a'-'A' {
			return false
		}
	}
	return true
}

// kindIn is the kind of whose words a text is one.
func kindIn(kinds map[int]string, text string) (int, bool) {
	for kind, word := range kinds {
		if isWord(text, word) {
			return kind, true
		}
	}
	return 0, false
}

// read is what a text is read as, as the chapter words it.
func read(text string) (command.Line, api.Errno) {
	if len(text) > topText {
		return command.Line{}, api.ErrBig
	}
	word, behind, blank := text, "", false
	if i := strings.IndexByte(text, ' '); i >= 0 {
		word, behind, blank = text[:i], text[i+1:], true
	}
	if kind, is := kindIn(ofNumber, word); is {
		if !blank || !numberForm.MatchString(behind) {
			return command.Line{}, api.ErrArgs
		}
		n, _ := strconv.Atoi(behind)
		return command.Line{Kind: kind, ID: n}, api.OK
	}
	if kind, is := kindIn(ofSlots, word); is {
		s, e := slots.Parse(behind)
		if !blank || e != api.OK || s == 0 {
			return command.Line{}, api.ErrArgs
		}
		return command.Line{Kind: kind, Set: s}, api.OK
	}
	if kind, is := kindIn(alone, word); is {
		if blank {
			return command.Line{}, api.ErrArgs
		}
		return command.Line{Kind: kind}, api.OK
	}
	if kind, is := kindIn(ofKey, word); is {
		if !blank {
			return command.Line{}, api.ErrArgs
		}
		return command.Line{Kind: kind, Key: behind}, api.OK
	}
	return command.Line{}, api.ErrWord
}

// bigger is a line's text with big letters: of its first word, as the others have no letters but a key's own.
func bigger(text string) string {
	word, behind, blank := strings.Cut(text, " ")
	if blank {
		return strings.ToUpper(word) + " " + behind
	}
	return strings.ToUpper(word)
}

// pick is one of some texts.
func pick(r *rand.Rand, texts ...string) string { return texts[r.Intn(len(texts))] }

// mixed is a word with letters big and small.
func mixed(r *rand.Rand, word string) string {
	b := []byte(word)
	for i := range b {
		if r.Intn(2) == 0 {
			b[i] ^= 'a' - 'A'
		}
	}
	return string(b)
}

// behind is something that may stand behind a first word, or not.
func behind(r *rand.Rand) string {
	switch r.Intn(6) {
	case 0:
		return strconv.Itoa(r.Intn(1 << uint(1+r.Intn(40))))
	case 1:
		return pick(r, noNumbers...)
	case 2:
		return slots.Set(r.Uint64() & r.Uint64() & r.Uint64()).Text()
	case 3:
		return pick(r, noSlots...)
	case 4:
		return pick(r, "", "a", "a b", " ", "{x}y")
	}
	return strings.Repeat(pick(r, "9", "a", " "), 1+r.Intn(20))
}

// anyText is a text that is a line's, or nearly so.
func anyText(r *rand.Rand, words []string) string {
	text := mixed(r, words[r.Intn(len(words))])
	if r.Intn(4) > 0 {
		text += " " + behind(r)
	}
	if r.Intn(200) == 0 {
		text += strings.Repeat("x", topText-20+r.Intn(40))
	}
	for r.Intn(3) == 0 && text != "" {
		i := r.Intn(len(text))
		switch r.Intn(3) {
		case 0:
			text = text[:i] + text[i+1:]
		case 1:
			text = text[:i] + pick(r, " ", "0", "7", "-", "S", "\xff", string(rune(r.Intn(256)))) + text[i:]
		case 2:
			text = text[:i] + string([]byte{text[i] ^ 1<<r.Intn(8)}) + text[i+1:]
		}
	}
	return text
}

// P17.1: any texts are read as the chapter words it, and what is read has the text with big letters.
func TestAnyTexts(t *testing.T) {
	r := rand.New(rand.NewSource(17))
	words, seen := words(), map[api.Errno]int{}
	for range 300000 {
		text := anyText(r, words)
		must, e := read(text)
		seen[e]++
		if got, ge := command.Parse(text); got != must || ge != e {
			t.Fatalf("Parse(%.80q) = %.200v, %d, want %.200v, %d", text, got, ge, must, e)
		}
		if e == api.OK {
			wantText(t, must, bigger(text))
		}
	}
	for _, e := range []api.Errno{api.OK, api.ErrBig, api.ErrWord, api.ErrArgs} {
		if seen[e] < 200 {
			t.Errorf("%d was there %d times only", e, seen[e])
		}
	}
}

// anyLine is a line, or what is none.
func anyLine(r *rand.Rand) command.Line {
	l := command.Line{Kind: r.Intn(19) - 1}
	if r.Intn(2) == 0 {
		l.ID = []int{math.MinInt, -1, 0, 7, topNumber, topNumber + 1, math.MaxInt}[r.Intn(7)]
	}
	if r.Intn(2) == 0 {
		l.Set = []slots.Set{0, 1, 39, math.MaxUint64}[r.Intn(4)]
	}
	if r.Intn(2) == 0 {
		l.Key = pick(r, "a", " ", "a b", "\xff", strings.Repeat("k", topText-8), strings.Repeat("k", topText-7))
	}
	return l
}

// hasText tells whether a text is read as a line, as the chapter words it.
func hasText(l command.Line) bool {
	_, number := ofNumber[l.Kind]
	_, set := ofSlots[l.Kind]
	_, bare := alone[l.Kind]
	_, key := ofKey[l.Kind]
	switch {
	case number:
		return l.ID >= 0 && l.ID <= topNumber && l.Set == 0 && l.Key == ""
	case set:
		return l.ID == 0 && l.Set != 0 && l.Key == ""
	case bare:
		return l.ID == 0 && l.Set == 0 && l.Key == ""
	}
	return key && l.ID == 0 && l.Set == 0 && len(l.Key) <= topText-len("KEYSLOT ")
}

// P17.1: any lines have a text just if there is one that is read as them.
func TestAnyLines(t *testing.T) {
	r := rand.New(rand.NewSource(18))
	with := 0
	for range 100000 {
		l := anyLine(r)
		if !hasText(l) {
			wantNoText(t, l)
			continue
		}
		with++
		text, e := command.Text(l)
		if e != api.OK || text != bigger(text) {
			t.Fatalf("Text(%.200v) = %.80q, %d", l, text, e)
		}
		wantLine(t, text, l)
	}
	if with < 1000 || with > 90000 {
		t.Errorf("%d lines have a text", with)
	}
}
