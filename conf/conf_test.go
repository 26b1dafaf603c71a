package conf_test

import (
	"math"
	"slices"
	"strconv"
	"strings"
	"testing"

	"grapevine/api"
	"grapevine/claims"
	"grapevine/conf"
	"grapevine/epoch"
)

// The greatest id and epoch, and how many others are known at most, written out so that the limits themselves are held too.
const (
	topID    = 4294967296
	topEpoch = 281474976710656
	most     = 15
)

// Numbers at all limits: those that are something, and those that are none.
var (
	ids      = []int{1, 2, 3, 255, 256, 1<<31 - 1, 1 << 31, topID - 1, topID}
	noIDs    = []int{math.MinInt, math.MinInt + 1, -topID, -2, -1, 0, topID + 1, topID + 2, 2 * topID, math.MaxInt - 1, math.MaxInt}
	epochs   = []int{0, 1, 2, 255, 256, 1 << 32, topEpoch - 1, topEpoch}
	noEpochs = []int{math.MinInt, math.MinInt + 1, -topEpoch, -2, -1, topEpoch + 1, topEpoch + 2, 2 * topEpoch, math.MaxInt - 1, math.MaxInt}
)

// held is that somebody has a slot with an epoch.
type held struct{ slot, owner, epoch int }

// table is the one in which these are held, and nothing else.
func table(list ...held) claims.Table {
	var x claims.Table
	for _, h := range list {
		x.Owner[h.slot], x.Epoch[h.slot] = h.owner, h.epoch
	}
	return x
}

// every is the table in which one has all slots with one epoch.
func every(owner, epoch int) claims.Table {
	var x claims.Table
	for slot := range 64 {
		x.Owner[slot], x.Epoch[slot] = owner, epoch
	}
	return x
}

// plain is a state with something of all.
func plain() conf.State {
	return conf.State{
		ID: 5, Master: 9, Epochs: epoch.Epochs{Current: 12, Vote: 11, Config: 7},
		Known: []conf.Known{{ID: 3, Master: 9, Config: 2}, {ID: 7, Config: 12}, {ID: 9, Master: 3, Config: 20}},
		Table: table(held{0, 5, 7}, held{1, 5, 7}, held{2, 9, 20}, held{3, 5, 6}, held{10, 5, 7}, held{63, 3, 0}),
	}
}

// plainText is its text.
const plainText = "self 5 master 9 current 12 vote 11 config 7\n" +
	"node 3 master 9 config 2\n" +
	"node 7 master 0 config 12\n" +
	"node 9 master 3 config 20\n" +
	"slots 3 epoch 0 : 63\n" +
	"slots 5 epoch 6 : 3\n" +
	"slots 5 epoch 7 : 0-1 10\n" +
	"slots 9 epoch 20 : 2\n"

// copied is a state that shares no memory with another one.
func copied(s conf.State) conf.State {
	s.Known = slices.Clone(s.Known)
	return s
}

// same tells whether two states are the same.
func same(a, b conf.State) bool {
	return a.ID == b.ID && a.Master == b.Master && a.Epochs == b.Epochs && slices.Equal(a.Known, b.Known) && a.Table == b.Table
}

// wantRight holds that a state is right, that its text is this one, and is read back.
func wantRight(t *testing.T, s conf.State, must string) {
	t.Helper()
	was := copied(s)
	if !s.Right() {
		t.Fatalf("Right of %+v = false", s)
	}
	if text, e := conf.Text(s); text != must || e != api.OK {
		t.Fatalf("Text(%+v) = %q, %d, want %q", s, text, e, must)
	}
	if got, e := conf.Parse(must); !same(got, s) || e != api.OK {
		t.Fatalf("Parse(%q) = %+v, %d, want %+v", must, got, e, s)
	}
	if !same(s, was) {
		t.Fatalf("%+v was changed to %+v", was, s)
	}
}

// wantWrong holds that a state isn't right, and has no text.
func wantWrong(t *testing.T, s conf.State) {
	t.Helper()
	was := copied(s)
	if s.Right() {
		t.Fatalf("Right of %+v = true", s)
	}
	if text, e := conf.Text(s); text != "" || e != api.ErrForm {
		t.Fatalf("Text(%+v) = %q, %d", s, text, e)
	}
	if !same(s, was) {
		t.Fatalf("%+v was changed to %+v", was, s)
	}
}

// wantSyntax holds that a text is no state's, and nothing is told beside.
func wantSyntax(t *testing.T, text string) {
	t.Helper()
	got, e := conf.Parse(text)
	if e != api.ErrSyntax || !same(got, conf.State{}) {
		t.Fatalf("Parse(%q) = %+v, %d", text, got, e)
	}
}

// P13.1, P13.2: states and their texts, as the chapter says.
func TestKnown(t *testing.T) {
	for _, c := range []struct {
		state conf.State
		must  string
	}{
		{plain(), plainText},
		{conf.State{ID: 1}, "self 1 master 0 current 0 vote 0 config 0\n"},
		{conf.State{ID: 1, Known: []conf.Known{}}, "self 1 master 0 current 0 vote 0 config 0\n"},
		{conf.State{ID: topID, Master: topID - 1, Epochs: epoch.Epochs{Current: topEpoch, Vote: topEpoch, Config: topEpoch}},
			"self 4294967296 master 4294967295 current 281474976710656 vote 281474976710656 config 281474976710656\n"},
		{conf.State{ID: 2, Master: 1, Epochs: epoch.Epochs{Current: 30, Vote: 20, Config: 10}}, "self 2 master 1 current 30 vote 20 config 10\n"},
		{conf.State{ID: 1, Known: []conf.Known{{ID: topID, Master: 1, Config: topEpoch}}, Table: every(topID, topEpoch)},
			"self 1 master 0 current 0 vote 0 config 0\nnode 4294967296 master 1 config 281474976710656\nslots 4294967296 epoch 281474976710656 : 0-63\n"},
		{conf.State{ID: 10, Known: []conf.Known{{ID: 9}, {ID: 11}}, Table: table(held{0, 11, 1}, held{1, 10, 1}, held{2, 9, 1})},
			"self 10 master 0 current 0 vote 0 config 0\nnode 9 master 0 config 0\nnode 11 master 0 config 0\nslots 9 epoch 1 : 2\nslots 10 epoch 1 : 1\nslots 11 epoch 1 : 0\n"},
		{conf.State{ID: 1, Table: table(held{0, 1, 10}, held{1, 1, 9}, held{2, 1, 10}, held{3, 1, 0}, held{4, 1, 100})},
			"self 1 master 0 current 0 vote 0 config 0\nslots 1 epoch 0 : 3\nslots 1 epoch 9 : 1\nslots 1 epoch 10 : 0 2\nslots 1 epoch 100 : 4\n"},
	} {
		wantRight(t, c.state, c.must)
	}
}

// P13.1, P13.2: the example of the chapter.
func TestExample(t *testing.T) {
	s := conf.State{ID: 1, Epochs: epoch.Epochs{Current: 1, Config: 1}, Known: []conf.Known{{ID: 2}}, Table: every(1, 1)}
	wantRight(t, s, "self 1 master 0 current 1 vote 0 config 1\nnode 2 master 0 config 0\nslots 1 epoch 1 : 0-63\n")
}

// P13.1, P13.2: a state at all its limits at once: as many others as may be, and each slot in a line of its own.
func TestGreatest(t *testing.T) {
	s := conf.State{ID: 1, Epochs: epoch.Epochs{Current: topEpoch}}
	must := "self 1 master 0 current 281474976710656 vote 0 config 0\n"
	for i := range most {
		k := conf.Known{ID: topID - most + 1 + i, Master: 1, Config: topEpoch}
		s.Known = append(s.Known, k)
		must += "node " + strconv.Itoa(k.ID) + " master 1 config 281474976710656\n"
	}
	for slot := range 64 {
		s.Table.Owner[slot], s.Table.Epoch[slot] = topID, topEpoch-63+slot
		must += "slots 4294967296 epoch " + strconv.Itoa(topEpoch-63+slot) + " : " + strconv.Itoa(slot) + "\n"
	}
	wantRight(t, s, must)
}

// P13.1, P13.2: an owner's epochs rise by their numbers, whichever slots have them.
func TestFallingEpochs(t *testing.T) {
	s := conf.State{ID: 1}
	must := "self 1 master 0 current 0 vote 0 config 0\n"
	for slot := range 64 {
		s.Table.Owner[slot], s.Table.Epoch[slot] = 1, 105-slot
		must += "slots 1 epoch " + strconv.Itoa(105-63+slot) + " : " + strconv.Itoa(63-slot) + "\n"
	}
	wantRight(t, s, must)
}

// changed is the plain state with a change.
func changed(change func(s *conf.State)) conf.State {
	s := plain()
	change(&s)
	return s
}

// P13.1: each id, each epoch and each master may be all that it may be, and nothing else.
func TestNumbers(t *testing.T) {
	for _, id := range ids {
		if s := (conf.State{ID: id}); !s.Right() {
			t.Errorf("Right of %+v = false", s)
		}
		if s := (conf.State{ID: 4, Master: id}); !s.Right() {
			t.Errorf("Right of %+v = false", s)
		}
		if s := (conf.State{ID: 4, Known: []conf.Known{{ID: id, Master: 4}}}); !s.Right() {
			t.Errorf("Right of %+v = false", s)
		}
		if s := (conf.State{ID: 4, Known: []conf.Known{{ID: 5, Master: id}}}); !s.Right() {
			t.Errorf("Right of %+v = false", s)
		}
		wantWrong(t, conf.State{ID: id, Master: id})
		wantWrong(t, conf.State{ID: id, Known: []conf.Known{{ID: id}}})
		wantWrong(t, conf.State{ID: 4, Known: []conf.Known{{ID: id, Master: id}}})
	}
	for _, id := range noIDs {
		wantWrong(t, conf.State{ID: id})
		wantWrong(t, conf.State{ID: id, Known: []conf.Known{{ID: 4}}})
		wantWrong(t, conf.State{ID: 4, Known: []conf.Known{{ID: id}}})
		if id != 0 {
			wantWrong(t, changed(func(s *conf.State) { s.Master = id }))
			wantWrong(t, changed(func(s *conf.State) { s.Known[1].Master = id }))
			wantWrong(t, changed(func(s *conf.State) { s.Table.Owner[8] = id }))
		}
	}
	for _, n := range epochs {
		if s := changed(func(s *conf.State) { s.Known[1].Config = n }); !s.Right() {
			t.Errorf("Right of %+v = false", s)
		}
		if s := changed(func(s *conf.State) { s.Table.Epoch[63] = n }); !s.Right() {
			t.Errorf("Right of %+v = false", s)
		}
		if s := (conf.State{ID: 4, Epochs: epoch.Epochs{Current: n, Vote: n, Config: n}}); !s.Right() {
			t.Errorf("Right of %+v = false", s)
		}
	}
	for _, n := range noEpochs {
		wantWrong(t, changed(func(s *conf.State) { s.Known[1].Config = n }))
		wantWrong(t, changed(func(s *conf.State) { s.Table.Epoch[63] = n }))
		wantWrong(t, changed(func(s *conf.State) { s.Epochs.Current = n }))
		wantWrong(t, changed(func(s *conf.State) { s.Epochs.Vote = n }))
		wantWrong(t, changed(func(s *conf.State) { s.Epochs.Config = n }))
	}
}

// P13.1: what a state may not be, each fault alone.
func TestWrong(t *testing.T) {
	for _, change := range []func(s *conf.State){
		func(s *conf.State) { s.ID = 0 },
		func(s *conf.State) { s.ID = 7 }, // which is among the others
		func(s *conf.State) { s.ID = 6 }, // 5 has slots, and isn't known then
		func(s *conf.State) { s.Master = 5 },
		func(s *conf.State) { s.Epochs.Vote = 13 },
		func(s *conf.State) { s.Epochs.Config = 13 },
		func(s *conf.State) { s.Epochs.Current = 10 }, // below Vote
		func(s *conf.State) { s.Known[0].ID = 5 },
		func(s *conf.State) { s.Known[1].ID = 3 },
		func(s *conf.State) { s.Known[1].ID = 9 },
		func(s *conf.State) { s.Known[1].ID = 10 },
		func(s *conf.State) { s.Known[1].ID = 2 },
		func(s *conf.State) { s.Known[0], s.Known[1] = s.Known[1], s.Known[0] },
		func(s *conf.State) { s.Known[0].Master = 3 },
		func(s *conf.State) { s.Known[2].Master = 9 },
		func(s *conf.State) { s.Known = s.Known[:2] }, // 9 has a slot
		func(s *conf.State) { s.Known = s.Known[1:] }, // 3 has one
		func(s *conf.State) { s.Known = nil },
		func(s *conf.State) { s.Table.Owner[8] = 4 },
		func(s *conf.State) { s.Table.Owner[8] = 8 },
		func(s *conf.State) { s.Table.Owner[8] = topID },
		func(s *conf.State) { s.Table.Epoch[8] = 1 }, // of nobody
		func(s *conf.State) { s.Table.Owner[0] = 0 }, // nobody, with an epoch
	} {
		wantWrong(t, changed(change))
	}
	wantWrong(t, conf.State{})
}

// P13.1: what looks like a fault, and is none by the chapter's words.
func TestNoFault(t *testing.T) {
	for _, change := range []func(s *conf.State){
		func(s *conf.State) { s.Master = 0 },
		func(s *conf.State) { s.Master = 4 },              // who isn't known
		func(s *conf.State) { s.Known[0].Master = 4 },     // nor is this one
		func(s *conf.State) { s.Known[1].Master = 5 },     // oneself
		func(s *conf.State) { s.Known[1].Config = 13 },    // above Current
		func(s *conf.State) { s.Table.Epoch[0] = 13 },     // above Current and Config
		func(s *conf.State) { s.Known[0].Config = 0 },     // less than what it has slots with
		func(s *conf.State) { s.Table = claims.Table{} },  // nobody has anything
		func(s *conf.State) { s.Table = every(7, 1) },     // one has all
		func(s *conf.State) { s.Epochs = epoch.Epochs{} }, // nothing came yet
	} {
		if s := changed(change); !s.Right() {
			t.Errorf("Right of %+v = false", s)
		}
	}
}

// P13.1: others are at most 15.
func TestMost(t *testing.T) {
	s := conf.State{ID: 100}
	for n := range 40 {
		if got := s.Right(); got != (n <= most) {
			t.Errorf("Right with %d others = %v", n, got)
		}
		if n > most {
			wantWrong(t, s)
		}
		s.Known = append(s.Known, conf.Known{ID: n + 1})
	}
}

// P13.2: as many others as may be are read, and not one more.
func TestMostRead(t *testing.T) {
	text := "self 100 master 0 current 0 vote 0 config 0\n"
	for n := range 40 {
		got, e := conf.Parse(text)
		if n <= most && (e != api.OK || len(got.Known) != n) {
			t.Errorf("Parse with %d others = %+v, %d", n, got, e)
		}
		if n > most {
			wantSyntax(t, text)
		}
		text += "node " + strconv.Itoa(n+1) + " master 0 config 0\n"
	}
}

// replaced are a text's variants in which, at each place where it has one part, another one stands.
func replaced(text, part, by string) []string {
	var list []string
	for at := 0; ; {
		i := strings.Index(text[at:], part)
		if i < 0 {
			return list
		}
		list = append(list, text[:at+i]+by+text[at+i+len(part):])
		at += i + 1
	}
}

// P13.2: a text that is written otherwise at any one place is none.
func TestWrittenOtherwise(t *testing.T) {
	for _, c := range [][2]string{
		{" ", ""}, {" ", "  "}, {" ", "\t"}, {" ", " +"}, {" ", " 0"}, {" ", " -"}, {" ", "\u00a0"}, {" ", "\n"},
		{"\n", ""}, {"\n", "\n\n"}, {"\n", "\r\n"}, {"\n", " \n"}, {"\n", "\n "}, {"\n", " 0\n"}, {"\n", "\x00\n"}, {"\n", " "}, {"\n", ".\n"},
		{" : ", " "}, {" : ", ": "}, {" : ", " :"}, {" : ", " : : "}, {" : ", " ; "}, {" : ", " :: "}, {" : ", " : 64 "}, {" : ", " : -"},
		{"self", "node"}, {"self", "Self"}, {"self", "self self"}, {"self", "SELF"}, {"self", ""}, {"self", "selfs"}, {"self", "slots"},
		{"node", "self"}, {"node", "Node"}, {"node", "slots"}, {"node", "nodes"}, {"slots", "node"}, {"slots", "slot"}, {"slots", "self"},
		{"master", "Master"}, {"master", "config"}, {"config", "master"}, {"config", "epoch"}, {"current", "vote"}, {"vote", "current"}, {"epoch", "config"},
		{"0-1 10", "0 1 10"}, {"0-1 10", "10 0-1"}, {"0-1 10", "0-1 10 "}, {"0-1 10", "0-1,10"}, {"0-1 10", "0-1 10-10"}, {"0-1 10", "1-0 10"},
		{"0-1 10", "0-1 10 10"}, {"0-1 10", "0-1 64"}, {"0-1 10", ""}, {"0-1 10", "0-1 10 -1"}, {"0-1 10", "0x0-1 10"}, {"0-1 10", "-"},
		{"12", "9223372036854775808"}, {"12", "18446744073709551628"}, {"12", "012"}, {"12", "1_2"}, {"12", "0xc"}, {"12", "12.0"}, {"12", "١٢"},
		{"12", "281474976710657"}, {"12", ""}, {"12", "-12"}, {"12", "c"}, {"master 0", "master -0"}, {"master 0", "master 00"}, {"master 0", "master"},
	} {
		list := replaced(plainText, c[0], c[1])
		if len(list) == 0 {
			t.Fatalf("%q stands nowhere", c[0])
		}
		for _, text := range list {
			wantSyntax(t, text)
		}
	}
}

// P13.2: a text whose lines are others, or stand otherwise, is none.
func TestLines(t *testing.T) {
	lines := strings.SplitAfter(plainText, "\n")
	lines = lines[:len(lines)-1]
	for i := range lines {
		for j := range i {
			other := slices.Clone(lines)
			other[i], other[j] = other[j], other[i]
			wantSyntax(t, strings.Join(other, ""))
		}
		for j := range len(lines) + 1 {
			wantSyntax(t, strings.Join(slices.Insert(slices.Clone(lines), j, lines[i]), "")) // one that is there twice
		}
	}
	wantSyntax(t, strings.Join(lines[1:], "")) // without oneself
	wantSyntax(t, strings.Join(slices.Delete(slices.Clone(lines), 1, 2), ""))
	wantSyntax(t, strings.Join(slices.Delete(slices.Clone(lines), 3, 4), ""))
	for _, i := range []int{2, 4, 5, 6, 7} { // which nothing else needs
		if _, e := conf.Parse(strings.Join(slices.Delete(slices.Clone(lines), i, i+1), "")); e != api.OK {
			t.Errorf("without %q: %d", lines[i], e)
		}
	}
}

// P13.2: all beginnings of a text are none, but those that end with a line.
func TestCuts(t *testing.T) {
	for n := range len(plainText) {
		text := plainText[:n]
		if strings.HasSuffix(text, "\n") {
			if got, e := conf.Parse(text); e != api.OK || got.ID != 5 {
				t.Errorf("Parse(%q) = %+v, %d", text, got, e)
			}
			continue
		}
		wantSyntax(t, text)
	}
}

// P13.2: texts that are no state's: each line for itself is well written, but what they say together isn't right.
func TestSaysWrong(t *testing.T) {
	const self = "self 5 master 0 current 12 vote 11 config 7\n"
	for _, text := range []string{
		"", "\n", " ", "\n\n", "self", "self\n", "\x00", "\xff\xfe\n", "self 5\n", strings.Repeat("self ", 1000), strings.Repeat("\n", 1000),
		"self 0 master 0 current 0 vote 0 config 0\n", "self 4294967297 master 0 current 0 vote 0 config 0\n", "self -1 master 0 current 0 vote 0 config 0\n",
		"self 5 master 5 current 0 vote 0 config 0\n", "self 5 master 4294967297 current 0 vote 0 config 0\n", "self 5 master -1 current 0 vote 0 config 0\n",
		"self 5 master 0 current 1 vote 2 config 0\n", "self 5 master 0 current 1 vote 0 config 2\n", "self 5 master 0 current -1 vote 0 config 0\n",
		"self 5 master 0 current 281474976710657 vote 0 config 0\n", "self 5 master 0 current 1 vote -1 config 0\n", "self 5 master 0 current 1 vote 0 config -1\n",
		self + "node 5 master 0 config 0\n", self + "node 0 master 0 config 0\n", self + "node 4294967297 master 0 config 0\n", self + "node 4 master 4 config 0\n",
		self + "node 4 master -1 config 0\n", self + "node 4 master 0 config -1\n", self + "node 4 master 0 config 281474976710657\n",
		self + "node 4 master 0 config 0\nnode 4 master 0 config 0\n", self + "node 4 master 0 config 0\nnode 4 master 0 config 1\n", self + "node 4 master 0 config 0\nnode 3 master 0 config 0\n",
		self + "slots 4 epoch 1 : 0\n", self + "slots 0 epoch 0 : 0\n", self + "slots 0 epoch 1 : 0\n", self + "slots -1 epoch 1 : 0\n", self + "slots 5 epoch -1 : 0\n",
		self + "slots 5 epoch 281474976710657 : 0\n", self + "slots 5 epoch 1 : \n", self + "slots 5 epoch 1 :\n", self + "slots 5 epoch 1\n", self + "slots 5 epoch 1 : 64\n",
		self + "slots 5 epoch 1 : 0\nslots 5 epoch 1 : 1\n", self + "slots 5 epoch 2 : 0\nslots 5 epoch 1 : 1\n", self + "slots 5 epoch 1 : 0\nslots 5 epoch 2 : 0\n",
		self + "slots 5 epoch 1 : 0-1\nslots 5 epoch 2 : 1-2\n", self + "slots 5 epoch 1 : 0\nslots 5 epoch 1 : 0\n",
		self + "node 4 master 0 config 0\nslots 5 epoch 1 : 0\nslots 4 epoch 1 : 1\n", self + "node 6 master 0 config 0\nslots 5 epoch 1 : 0\nslots 6 epoch 2 : 0\n",
		self + "node 6 master 0 config 0\nslots 5 epoch 2 : 0\nslots 6 epoch 1 : 0\n", self + "slots 5 epoch 1 : 0\nnode 4 master 0 config 0\n",
		self + self, "node 4 master 0 config 0\n" + self, "slots 5 epoch 1 : 0\n" + self, self + "\n" + "node 4 master 0 config 0\n",
		self + "self 6 master 0 current 12 vote 11 config 7\n", self + "other 4 master 0 config 0\n", self + "# a remark\n", "\ufeff" + self,
		self + "node 4 master 0 config 0 : 1\n", self[:len(self)-1] + " : 1\n", self + "slots 5 epoch 1 config 0 : 1\n",
	} {
		wantSyntax(t, text)
	}
	if _, e := conf.Parse(self); e != api.OK {
		t.Errorf("Parse(%q): %d", self, e)
	}
}

// P13.2: long texts are answered too.
func TestLong(t *testing.T) {
	const self = "self 5 master 0 current 12 vote 11 config 7\n"
	for _, part := range []string{"\n", " ", "0", "9", "-", "self ", "node ", "slots ", "node 4 master 0 config 0\n", "slots 5 epoch 1 : 0-63\n", self, " : "} {
		wantSyntax(t, strings.Repeat(part, 10000))
		wantSyntax(t, self+strings.Repeat(part, 10000))
		wantSyntax(t, "self "+strings.Repeat(part, 10000))
		wantSyntax(t, self+"slots 5 epoch 1 : "+strings.Repeat(part, 10000)+"\n")
	}
}

// P13.1, P13.2: what is handed in is neither changed nor kept, its spare room neither, and each answer is new memory.
func TestMemory(t *testing.T) {
	s := plain()
	spare := append(s.Known, conf.Known{ID: 77, Master: 78, Config: 79})
	s.Known = spare[:3]
	if text, e := conf.Text(s); text != plainText || e != api.OK || !s.Right() {
		t.Fatalf("Text(%+v) = %q, %d", s, text, e)
	}
	if !same(s, plain()) || spare[3] != (conf.Known{ID: 77, Master: 78, Config: 79}) {
		t.Fatalf("Text changed what it was handed to %+v", spare)
	}
	first, _ := conf.Parse(plainText)
	second, _ := conf.Parse(plainText)
	for i, all := 0, first.Known[:cap(first.Known)]; i < len(all); i++ {
		all[i] = conf.Known{ID: 1, Master: 1, Config: 1}
	}
	if !same(second, plain()) {
		t.Errorf("a change of one answer changed another one to %+v", second)
	}
	if third, e := conf.Parse(plainText); !same(third, plain()) || e != api.OK {
		t.Errorf("behind a change of an answer: %+v, %d", third, e)
	}
}
