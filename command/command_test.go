package command_test

import (
	"math"
	"slices"
	"strings"
	"testing"

	"grapevine/api"
	"grapevine/command"
	"grapevine/slots"
)

// The kinds of lines, and what stands behind their first words.
var (
	ofNumber = map[int]string{1: "MEET", 2: "FORGET", 5: "REPLICATE", 8: "OFFSET", 16: "COUNT"}
	ofSlots  = map[int]string{3: "ADDSLOTS", 4: "DELSLOTS"}
	alone    = map[int]string{6: "TAKEOVER", 7: "BUMP", 9: "RESET", 12: "MYID", 13: "NODES", 14: "SLOTS", 15: "INFO"}
	ofKey    = map[int]string{11: "KEYSLOT"}
)

// topText and topNumber are the greatest length of a text, and the greatest number, written out so that the limits themselves are held too.
const (
	topText   = 8192
	topNumber = 999999999999999
)

// noKinds are numbers that are no kinds.
var noKinds = []int{math.MinInt, -16, -1, 0, 10, 17, 18, 100, 256 + 1, 1<<32 + 1, math.MaxInt}

// noNumbers are texts that are no numbers of 1 to 15 digits.
var noNumbers = []string{
	"", "00", "01", "07", "007", "000000000000001", "-1", "+1", "-0", "+0", "- 1", "1000000000000000", "9999999999999999",
	"9223372036854775807", "9223372036854775808", "18446744073709551616", "18446744073709551617", strings.Repeat("9", 8000),
	"0000000000000001", " 7", "7 ", " ", "7 8", "7  ", "1 2 3", "7\n", "7\t", "\t7", "\n7", "7\x00", "7,8", "1_0", "1.0", "1e3", "0x1",
	"0b1", "0o7", "a", "7a", "a7", "7-", "7-8", "\u0667", "\uff17", "7\u00a0", "inf", "nan", "\xff",
}

// noSlots are texts that are those of no slots, or of none that are there.
var noSlots = []string{
	"", " ", "64", "0-64", "2 1", "1 2", "1-1", "2-1", "0-1 2", "0,2", "00", "01", "-1", "+1", "1-", "-", "0-2  5", " 0", "0 ", "0-2 5 ",
	"0 x", "x", "0-2\n", "0\t2", "0 - 2", "0 0", "5 0-2", "all", "9999999999999999999999", "\xff",
}

// mixes are ways to write a word with letters big and small.
func mixes(word string) []string {
	list := []string{word, strings.ToLower(word), word[:1] + strings.ToLower(word[1:]), strings.ToLower(word[:1]) + word[1:]}
	for i := range word {
		list = append(list, word[:i]+strings.ToLower(word[i:i+1])+word[i+1:])
		small := strings.ToLower(word)
		list = append(list, small[:i]+word[i:i+1]+small[i+1:])
	}
	return list
}

// wantLine holds what a text is read as, and that a line's text is read as the line.
func wantLine(t *testing.T, text string, must command.Line) {
	t.Helper()
	if got, e := command.Parse(text); e != api.OK || got != must {
		t.Fatalf("Parse(%.80q) = %.200v, %d, want %.200v", text, got, e, must)
	}
}

// wantNoLine holds with which error a text is refused.
func wantNoLine(t *testing.T, text string, must api.Errno) {
	t.Helper()
	if got, e := command.Parse(text); e != must || got != (command.Line{}) {
		t.Fatalf("Parse(%.80q) = %.200v, %d, want %d", text, got, e, must)
	}
}

// wantText holds a line's text, and that it is read as the line.
func wantText(t *testing.T, l command.Line, must string) {
	t.Helper()
	if got, e := command.Text(l); e != api.OK || got != must {
		t.Fatalf("Text(%.200v) = %.80q, %d, want %.80q", l, got, e, must)
	}
	wantLine(t, must, l)
}

// wantNoText holds that a line has no text.
func wantNoText(t *testing.T, l command.Line) {
	t.Helper()
	if got, e := command.Text(l); e != api.ErrArgs || got != "" {
		t.Fatalf("Text(%.200v) = %.80q, %d", l, got, e)
	}
}

// setOf is a set of slots.
func setOf(list ...int) (s slots.Set) {
	for _, i := range list {
		s |= 1 << i
	}
	return s
}

// setTexts are texts of at least one slot, and the sets.
func setTexts() map[string]slots.Set {
	return map[string]slots.Set{
		"0": 1, "63": 1 << 63, "0-63": math.MaxUint64, "0-2 5": setOf(0, 1, 2, 5), "7": setOf(7), "62-63": setOf(62, 63), "0-1": 3,
		"0 2 4 6 63": setOf(0, 2, 4, 6, 63), "1-62": math.MaxUint64 &^ setOf(0, 63), "0-30 32-63": math.MaxUint64 &^ setOf(31), "9-10 12": setOf(9, 10, 12),
	}
}

// The chapter's examples.
func TestExamples(t *testing.T) {
	wantLine(t, "meet 7", command.Line{Kind: 1, ID: 7})
	wantLine(t, "addslots 0-2 5", command.Line{Kind: 3, Set: 39})
	for _, text := range []string{"meet", "meet 07", "reset now"} {
		wantNoLine(t, text, api.ErrArgs)
	}
	for _, text := range []string{"", " meet 7"} {
		wantNoLine(t, text, api.ErrWord)
	}
}

// P17.1: words of a number, both ways.
func TestNumbers(t *testing.T) {
	for kind, word := range ofNumber {
		for n, digits := range map[int]string{
			0: "0", 1: "1", 7: "7", 9: "9", 10: "10", 100: "100", 4294967296: "4294967296", 4294967297: "4294967297", 99999999999999: "99999999999999",
			100000000000000: "100000000000000", 281474976710657: "281474976710657", topNumber - 1: "999999999999998", topNumber: "999999999999999",
		} {
			l := command.Line{Kind: kind, ID: n}
			for _, first := range mixes(word) {
				wantLine(t, first+" "+digits, l)
			}
			wantText(t, l, word+" "+digits)
		}
		wantNoLine(t, word, api.ErrArgs)
		for _, digits := range noNumbers {
			wantNoLine(t, word+" "+digits, api.ErrArgs)
			wantNoLine(t, strings.ToLower(word)+" "+digits, api.ErrArgs)
		}
		for _, n := range []int{math.MinInt, -topNumber, -1, topNumber + 1, topNumber + 2, 1 << 50, 1 << 62, math.MaxInt} {
			wantNoText(t, command.Line{Kind: kind, ID: n})
		}
		wantNoText(t, command.Line{Kind: kind, ID: 7, Set: 1})
		wantNoText(t, command.Line{Kind: kind, ID: 7, Key: "a"})
		wantNoText(t, command.Line{Kind: kind, ID: 7, Key: " "})
	}
}

// P17.1: words of slots, both ways.
func TestSlots(t *testing.T) {
	for kind, word := range ofSlots {
		for text, set := range setTexts() {
			l := command.Line{Kind: kind, Set: set}
			for _, first := range mixes(word) {
				wantLine(t, first+" "+text, l)
			}
			wantText(t, l, word+" "+text)
		}
		for i := range 64 {
			wantText(t, command.Line{Kind: kind, Set: 1 << i}, word+" "+slots.Set(1<<i).Text())
		}
		wantNoLine(t, word, api.ErrArgs)
		for _, text := range noSlots {
			wantNoLine(t, word+" "+text, api.ErrArgs)
		}
		wantNoText(t, command.Line{Kind: kind})
		for _, id := range []int{math.MinInt, -1, 1, math.MaxInt} {
			wantNoText(t, command.Line{Kind: kind, ID: id, Set: 1})
		}
		wantNoText(t, command.Line{Kind: kind, Set: 1, Key: "a"})
	}
}

// P17.1: words that are alone, both ways.
func TestAlone(t *testing.T) {
	for kind, word := range alone {
		l := command.Line{Kind: kind}
		for _, first := range mixes(word) {
			wantLine(t, first, l)
			for _, behind := range []string{"", " ", "now", "0", "7", "0-2 5", "a b", strings.ToLower(word)} {
				wantNoLine(t, first+" "+behind, api.ErrArgs)
			}
		}
		wantText(t, l, word)
		for _, wrong := range []command.Line{{ID: 1}, {ID: -1}, {ID: math.MaxInt}, {Set: 1}, {Set: math.MaxUint64}, {Key: "a"}, {Key: " "}} {
			wrong.Kind = kind
			wantNoText(t, wrong)
		}
	}
}

// P17.1: a key is all behind the first blank, whatever it is, and may be empty.
func TestKeys(t *testing.T) {
	keys := []string{
		"", "a", "foo", "a b", " ", "  ", " a", "a ", "  a  b  ", "Foo", "KEYSLOT", "keyslot x", "{user1}.x", "\n", "a\nb", "\t", "\x00", "\xff\xfe", "\u017f", "ñ", "07", "0-2 5",
		strings.Repeat("k", topText-len("KEYSLOT ")), strings.Repeat(" ", topText-len("KEYSLOT ")),
	}
	for c := range 256 {
		keys = append(keys, string([]byte{byte(c)}), string([]byte{'a', byte(c), 'b'}))
	}
	for kind, word := range ofKey {
		for _, key := range keys {
			l := command.Line{Kind: kind, Key: key}
			for _, first := range mixes(word) {
				wantLine(t, first+" "+key, l)
			}
			wantText(t, l, word+" "+key)
		}
		for _, first := range mixes(word) {
			wantNoLine(t, first, api.ErrArgs)
		}
		for _, wrong := range []command.Line{{ID: 1}, {ID: -1}, {Set: 1}, {ID: 1, Key: "a"}, {Set: 1, Key: "a"}} {
			wrong.Kind = kind
			wantNoText(t, wrong)
		}
		for _, n := range []int{topText - 7, topText - 6, topText, topText + 1, 1 << 20} {
			wantNoText(t, command.Line{Kind: kind, Key: strings.Repeat("k", n)}) // as its text would be too long
		}
	}
}

// words are all first words.
func words() []string {
	var list []string
	for _, m := range []map[int]string{ofNumber, ofSlots, alone, ofKey} {
		for _, word := range m {
			list = append(list, word)
		}
	}
	return list
}

// P17.1: what is no first word, ahead of the first blank alone.
func TestNoWord(t *testing.T) {
	firsts := []string{"", "\t", "\n", "7", "PING", "PONG", "FAIL", "HELP", "NODE", "SLOT", "KEY", "KEYS", "ID", "ADD", "DEL", "ADDSLOT", "MEET7", "MEET\t7", "MEET\n", "{}", "\xff"}
	for _, word := range words() {
		for i := range word {
			firsts = append(firsts, word[:i], word[:i]+word[i+1:], word[:i]+"x"+word[i:], word[:i]+"x"+word[i+1:], word[:i]+"\x00"+word[i:], word[:i]+"\u0301"+word[i:])
			// The byte with another bit: of the letters' own bit alone the word stays one.
			for bit := range 8 {
				if c := word[i] ^ 1<<bit; bit != 5 && c != ' ' && c != word[i] {
					firsts = append(firsts, word[:i]+string([]byte{c})+word[i+1:])
				}
			}
		}
		firsts = append(firsts, word+"S", word+"\n", word+"\t", word+"\r", word+".", word+"\x00", word+"\u00a0", "\ufeff"+word, "\t"+word, word+word)
		// Letters of other alphabets that have one of these as their big or small one.
		for _, pair := range [][2]string{{"K", "\u212a"}, {"S", "\u017f"}, {"I", "\u0131"}, {"I", "\u0130"}, {"E", "\uff25"}, {"O", "\u041e"}} {
			if strings.Contains(word, pair[0]) {
				firsts = append(firsts, strings.Replace(word, pair[0], pair[1], 1), strings.Replace(strings.ToLower(word), strings.ToLower(pair[0]), pair[1], 1))
			}
		}
	}
	for _, first := range firsts {
		if slices.Contains(words(), first) {
			continue
		}
		for _, behind := range []string{"", " ", " 7", " 07", " a b", " 0-2 5", " " + first, " MEET 7"} {
			wantNoLine(t, first+behind, api.ErrWord)
		}
	}
	for _, word := range words() {
		wantNoLine(t, " "+word, api.ErrWord)
		wantNoLine(t, " "+word+" 7", api.ErrWord)
		wantNoLine(t, "\""+word+"\" 7", api.ErrWord)
	}
}

// P17.1: a text that is too long goes ahead of all else that is wrong with it, a word ahead of its arguments.
func TestErrorsInOrder(t *testing.T) {
	long := strings.Repeat("9", topText)
	for _, word := range append(words(), "", "x", " ") {
		most := (word + " " + long)[:topText]
		wantNoLine(t, most+"9", api.ErrBig)
		wantNoLine(t, most+" ", api.ErrBig)
		wantNoLine(t, most+long, api.ErrBig)
		switch {
		case word == ofKey[11]:
			wantLine(t, most, command.Line{Kind: 11, Key: most[len("KEYSLOT "):]})
		case slices.Contains(words(), word):
			wantNoLine(t, most, api.ErrArgs)
		default:
			wantNoLine(t, most, api.ErrWord)
		}
	}
	wantNoLine(t, strings.Repeat("a", topText), api.ErrWord)
	wantNoLine(t, strings.Repeat("a", topText+1), api.ErrBig)
	wantNoLine(t, strings.Repeat(" ", topText), api.ErrWord)
	wantNoLine(t, strings.Repeat(" ", topText+1), api.ErrBig)
	wantNoLine(t, "keyslot "+strings.Repeat("\u017f", topText/2-3), api.ErrBig) // bytes count, not letters
}

// P17.1: what is no line has no text.
func TestNoKinds(t *testing.T) {
	for _, kind := range noKinds {
		for _, l := range []command.Line{{}, {ID: 7}, {ID: -7}, {Set: 1}, {Key: "a"}, {Key: "MEET 7"}, {ID: 7, Set: 1, Key: "a"}} {
			l.Kind = kind
			wantNoText(t, l)
		}
	}
}
