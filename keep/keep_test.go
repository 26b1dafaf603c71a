package keep_test

import (
	"math"
	"slices"
	"strings"
	"testing"

	"grapevine/api"
	"grapevine/claims"
	"grapevine/conf"
	"grapevine/disk"
	"grapevine/epoch"
	"grapevine/keep"
)

// The limits, written out so that they are held too.
const (
	topRoom  = 65536
	topID    = 4294967296
	topEpoch = 281474976710656
	most     = 15
)

// steps is how many calls of a disk a save makes.
const steps = 3

// plain is a state with something of all.
func plain() conf.State {
	s := conf.State{
		ID: 5, Master: 9, Epochs: epoch.Epochs{Current: 12, Vote: 11, Config: 7},
		Known: []conf.Known{{ID: 3, Master: 9, Config: 2}, {ID: 9, Config: 20}},
	}
	s.Table.Owner[0], s.Table.Epoch[0] = 5, 7
	s.Table.Owner[1], s.Table.Epoch[1] = 9, 20
	s.Table.Owner[63], s.Table.Epoch[63] = 5, 7
	return s
}

// plainText is its text.
const plainText = "self 5 master 9 current 12 vote 11 config 7\n" +
	"node 3 master 9 config 2\n" +
	"node 9 master 0 config 20\n" +
	"slots 5 epoch 7 : 0 63\n" +
	"slots 9 epoch 20 : 1\n"

// later is what the same node might keep next, and its text is longer.
func later() conf.State {
	s := plain()
	s.Epochs = epoch.Epochs{Current: 1000, Vote: 999, Config: 998}
	return s
}

// laterText is its text.
const laterText = "self 5 master 9 current 1000 vote 999 config 998\n" +
	"node 3 master 9 config 2\n" +
	"node 9 master 0 config 20\n" +
	"slots 5 epoch 7 : 0 63\n" +
	"slots 9 epoch 20 : 1\n"

// smallText is the text of what a node 1 keeps that knows nobody and has nothing.
const smallText = "self 1 master 0 current 0 vote 0 config 0\n"

// longest is a state with all that one may keep, and a long text: each slot has an epoch of its own.
func longest() conf.State {
	s := conf.State{ID: topID, Master: topID - 1, Epochs: epoch.Epochs{Current: topEpoch, Vote: topEpoch, Config: topEpoch}}
	for i := range most {
		s.Known = append(s.Known, conf.Known{ID: topID - most + i, Master: topID, Config: topEpoch})
	}
	for slot := range 64 {
		s.Table.Owner[slot], s.Table.Epoch[slot] = topID-slot%(most+1), topEpoch-slot
	}
	return s
}

// wrongs are states that aren't right.
func wrongs() []conf.State {
	var list []conf.State
	add := func(spoil func(s *conf.State)) {
		s := plain()
		spoil(&s)
		list = append(list, s)
	}
	for _, n := range []int{math.MinInt, -1, 0, topID + 1, math.MaxInt, 3, 9} {
		add(func(s *conf.State) { s.ID = n })
	}
	for _, n := range []int{math.MinInt, -1, topID + 1, math.MaxInt, 5} {
		add(func(s *conf.State) { s.Master = n })
		add(func(s *conf.State) { s.Known[1].ID = n })
	}
	for _, n := range []int{math.MinInt, -1, topEpoch + 1, math.MaxInt, 13} {
		add(func(s *conf.State) { s.Epochs.Vote = n })
		add(func(s *conf.State) { s.Epochs.Config = n })
	}
	for _, n := range []int{math.MinInt, -1, topEpoch + 1, math.MaxInt, 10} {
		add(func(s *conf.State) { s.Epochs.Current = n })
	}
	add(func(s *conf.State) { s.Known[0].Config = -1 })
	add(func(s *conf.State) { s.Known[1].Config = topEpoch + 1 })
	add(func(s *conf.State) { s.Known[0], s.Known[1] = s.Known[1], s.Known[0] })
	add(func(s *conf.State) { s.Known[1] = s.Known[0] })
	add(func(s *conf.State) { s.Known = s.Known[:1] })
	add(func(s *conf.State) { s.Table.Owner[5] = 4 })
	add(func(s *conf.State) { s.Table.Owner[5] = -1 })
	add(func(s *conf.State) { s.Table.Epoch[5] = 1 })
	add(func(s *conf.State) { s.Table.Epoch[0] = topEpoch + 1 })
	add(func(s *conf.State) { s.Known, s.Table = append(longest().Known, conf.Known{ID: topID}), claims.Table{} })
	return append(list, conf.State{})
}

// same tells whether two states are the same.
func same(a, b conf.State) bool {
	return a.ID == b.ID && a.Master == b.Master && a.Epochs == b.Epochs && slices.Equal(a.Known, b.Known) && a.Table == b.Table
}

// copied is a state that shares no memory with another one.
func copied(s conf.State) conf.State {
	s.Known = slices.Clone(s.Known)
	return s
}

// opened makes a disk, which must be one.
func opened(t *testing.T, room int) *disk.Disk {
	t.Helper()
	d := disk.New(room)
	if d == nil {
		t.Fatalf("New(%d) = nil", room)
	}
	return d
}

// wantSave saves, and holds what is answered, and that the state that is handed in stays.
func wantSave(t *testing.T, d *disk.Disk, s conf.State, must api.Errno) {
	t.Helper()
	was := copied(s)
	if e := keep.Save(d, s); e != must {
		t.Fatalf("Save of %+v = %d, want %d", s, e, must)
	}
	if !same(s, was) {
		t.Fatalf("%+v was changed to %+v", was, s)
	}
}

// wantLoad loads, and holds that it is this state.
func wantLoad(t *testing.T, d *disk.Disk, must conf.State) {
	t.Helper()
	if s, e := keep.Load(d); !same(s, must) || e != api.OK {
		t.Fatalf("Load = %+v, %d, want %+v", s, e, must)
	}
}

// wantNoLoad loads, and holds that there is this error, and nothing beside.
func wantNoLoad(t *testing.T, d *disk.Disk, must api.Errno) {
	t.Helper()
	s, e := keep.Load(d)
	if e != must || !same(s, conf.State{}) {
		t.Fatalf("Load = %+v, %d, want nothing, %d", s, e, must)
	}
}

// file is what a file must be.
type file struct {
	name, bytes string
	safe        bool
}

// filesOf are all files of a disk that isn't down.
func filesOf(t *testing.T, d *disk.Disk) []file {
	t.Helper()
	names, e := d.Names()
	if e != api.OK {
		t.Fatalf("Names = %q, %d", names, e)
	}
	var list []file
	for _, name := range names {
		b, e := d.Read(name)
		if e != api.OK {
			t.Fatalf("Read(%q) = %q, %d", name, b, e)
		}
		list = append(list, file{name, string(b), d.Safe(name)})
	}
	return list
}

// wantFiles holds all files, rising by their names, of a disk that isn't down.
func wantFiles(t *testing.T, d *disk.Disk, must ...file) {
	t.Helper()
	if got := filesOf(t, d); !slices.Equal(got, must) {
		t.Fatalf("the files are %+v, want %+v", got, must)
	}
}

// wantDown crashes a disk that must be down.
func wantDown(t *testing.T, d *disk.Disk, kept ...int) {
	t.Helper()
	if !d.Down() {
		t.Fatal("the disk isn't down")
	}
	d.Crash(kept)
}

// put writes a file past the package, safe or not.
func put(t *testing.T, d *disk.Disk, f file) {
	t.Helper()
	if e := d.Write(f.name, []byte(f.bytes)); e != api.OK {
		t.Fatalf("Write(%q) = %d", f.name, e)
	}
	if !f.safe {
		return
	}
	if e := d.Sync(f.name); e != api.OK {
		t.Fatalf("Sync(%q) = %d", f.name, e)
	}
}

// P14.1, P14.2: what is saved is just the state's text in the file state, which is safe; and it is loaded.
func TestSaveLoad(t *testing.T) {
	d := opened(t, topRoom)
	put(t, d, file{"other", "abc", false})
	for _, c := range []struct {
		state conf.State
		text  string
	}{
		{plain(), plainText},
		{later(), laterText},
		{later(), laterText},
		{plain(), plainText}, // a save doesn't ask what was kept: see Carry
		{conf.State{ID: 1}, smallText},
		{conf.State{ID: 1, Known: []conf.Known{}}, smallText},
	} {
		wantSave(t, d, c.state, api.OK)
		wantFiles(t, d, file{"other", "abc", false}, file{"state", c.text, true})
		wantLoad(t, d, c.state)
	}
	s := longest()
	wantSave(t, d, s, api.OK)
	wantLoad(t, d, s)
	if d.Down() {
		t.Error("the disk is down")
	}
}

// P14.1: the text is written to the file next, that is synced, and renamed to state: just these calls, in this order, each ended at by a disk that goes down there.
func TestSaveSteps(t *testing.T) {
	old := file{"state", plainText, true}
	for kept := range len(laterText) + 1 {
		for step, left := range [][]file{
			{{"next", laterText[:kept], true}, old}, // behind the write, which is not safe
			{{"next", laterText[:kept], true}, old}, // at the sync
			{{"next", laterText, true}, old},        // at the rename: the bytes were synced
		} {
			d := opened(t, topRoom)
			wantSave(t, d, plain(), api.OK)
			d.Arm(step)
			wantSave(t, d, later(), api.ErrDown)
			wantDown(t, d, kept)
			wantFiles(t, d, left...)
		}
	}
	d := opened(t, topRoom)
	d.Arm(steps)
	wantSave(t, d, later(), api.OK)
	wantFiles(t, d, file{"state", laterText, true})
	if e := d.Sync("state"); e != api.ErrDown {
		t.Errorf("a save made not all of its %d calls", steps)
	}
}

// P14.1: a state that isn't right is refused ahead of all that the disk says, and nothing is done.
func TestSaveRefuses(t *testing.T) {
	for _, s := range wrongs() {
		d := opened(t, topRoom)
		wantSave(t, d, s, api.ErrForm)
		wantFiles(t, d)
		wantSave(t, d, plain(), api.OK)
		put(t, d, file{"next", "abc", false})
		d.Arm(1)
		wantSave(t, d, s, api.ErrForm)
		wantFiles(t, d, file{"next", "abc", false}, file{"state", plainText, true})
		wantLoad(t, d, plain())
		wantSave(t, d, later(), api.ErrDown)
		wantSave(t, d, s, api.ErrForm)
		wantDown(t, d, len(laterText))
		wantFiles(t, d, file{"next", laterText, true}, file{"state", plainText, true})
		full := opened(t, 0)
		wantSave(t, full, s, api.ErrForm)
	}
}

// P14.1: a disk that is down answers so, ahead of a lack of room.
func TestSaveDown(t *testing.T) {
	d := opened(t, topRoom)
	wantSave(t, d, plain(), api.OK)
	d.Arm(0)
	if e := d.Sync("state"); e != api.ErrDown {
		t.Fatalf("Sync = %d", e)
	}
	d.Room(0)
	wantSave(t, d, later(), api.ErrDown)
	wantNoLoad(t, d, api.ErrDown)
	wantDown(t, d)
	wantFiles(t, d, file{"state", plainText, true})
	wantSave(t, d, later(), api.ErrSpace)
	wantLoad(t, d, plain())
}

// P14.1: the old text and the new one are both in the room for a while; with one byte too few all files are as they were.
func TestSaveSpace(t *testing.T) {
	for _, c := range []struct {
		there []file
		need  int
	}{
		{nil, len(laterText)},
		{[]file{{"state", plainText, true}}, len(plainText) + len(laterText)},
		{[]file{{"state", plainText, false}}, len(plainText) + len(laterText)},
		{[]file{{"a", "12345", true}, {"state", plainText, true}, {"z", "", false}}, 5 + len(plainText) + len(laterText)},
		{[]file{{"next", "what a crash left", true}, {"state", plainText, true}}, len(plainText) + len(laterText)}, // next is written anew
		{[]file{{"next", laterText, false}}, len(laterText)},
	} {
		d := opened(t, topRoom)
		for _, f := range c.there {
			put(t, d, f)
		}
		for _, room := range []int{0, 1, len(laterText) - 1, c.need - 1} {
			d.Room(room)
			d.Arm(0) // a write that lacks room isn't one that may go down
			wantSave(t, d, later(), api.ErrSpace)
			d.Arm(-1)
			wantFiles(t, d, c.there...)
		}
		d.Room(c.need)
		wantSave(t, d, later(), api.OK)
		wantLoad(t, d, later())
		if names, _ := d.Names(); slices.Contains(names, "next") || !d.Safe("state") {
			t.Fatalf("behind a save: %q, state safe: %v", names, d.Safe("state"))
		}
	}
}

// P14.2: the disk's error is Load's; no other file than state counts.
func TestLoadNone(t *testing.T) {
	d := opened(t, topRoom)
	wantNoLoad(t, d, api.ErrFile)
	put(t, d, file{"next", plainText, true})
	put(t, d, file{"stat", plainText, true})
	put(t, d, file{"statestate", plainText, true})
	wantNoLoad(t, d, api.ErrFile)
	d.Arm(0)
	wantNoLoad(t, d, api.ErrFile)
	wantSave(t, d, plain(), api.ErrDown)
	wantNoLoad(t, d, api.ErrDown)
	wantDown(t, d, len(plainText))
	wantNoLoad(t, d, api.ErrFile)
	put(t, d, file{"state", "self", true})
	wantNoLoad(t, d, api.ErrSyntax)
	d.Arm(0)
	wantSave(t, d, plain(), api.ErrDown)
	wantNoLoad(t, d, api.ErrDown)
}

// P14.2: bytes that are no state's text are refused: texts cut, doubled, written otherwise, and of states that aren't right.
func TestLoadSyntax(t *testing.T) {
	texts := []string{
		plainText + plainText, plainText + "\n", "\n" + plainText, plainText + " ", " " + plainText, plainText + "\x00", "\ufeff" + plainText, plainText + "\xff",
		strings.ToUpper(plainText), strings.ReplaceAll(plainText, "\n", "\r\n"), strings.ReplaceAll(plainText, " ", "\t"),
		strings.Replace(plainText, "self 5", "self 05", 1), strings.Replace(plainText, "self 5", "self 3", 1), strings.Replace(plainText, "vote 11", "vote 13", 1),
		strings.Replace(plainText, "vote 11", "vote -1", 1), strings.Replace(plainText, "slots 9", "slots 4", 1), strings.Replace(plainText, "0 63", "0 64", 1),
		"\xff", "\x00", strings.Repeat("x", topRoom), strings.Repeat("\n", topRoom), strings.Repeat("node 1 master 0 config 0\n", topRoom/25),
	}
	for cut := range len(plainText) {
		if text := plainText[:cut]; !strings.HasSuffix(text, "\n") { // its first lines are a state's text themselves
			texts = append(texts, text)
		}
	}
	for _, text := range texts {
		d := opened(t, topRoom)
		put(t, d, file{"state", text, true})
		wantNoLoad(t, d, api.ErrSyntax)
		wantFiles(t, d, file{"state", text, true})
	}
}

// P14.2: whatever state's text is in the file is loaded, be the file safe or not, and nothing is changed by it.
func TestLoadReads(t *testing.T) {
	for _, safe := range []bool{true, false} {
		d := opened(t, topRoom)
		must := []file{{"next", "abc", false}, {"state", plainText, safe}}
		for _, f := range must {
			put(t, d, f)
		}
		d.Arm(0)
		for range 3 {
			wantLoad(t, d, plain())
			wantFiles(t, d, must...)
		}
	}
}

// P14.1, P14.2: a state that is loaded is new memory, and what was saved is not that of who saved it.
func TestNewMemory(t *testing.T) {
	d := opened(t, topRoom)
	mine := plain()
	wantSave(t, d, mine, api.OK)
	mine.Known[0].Config = 77
	wantLoad(t, d, plain())
	one, _ := keep.Load(d)
	two, _ := keep.Load(d)
	for i := range one.Known[:cap(one.Known)] {
		one.Known[:cap(one.Known)][i] = conf.Known{ID: 77}
	}
	if !same(two, plain()) {
		t.Errorf("two loads share memory: %+v", two)
	}
	wantLoad(t, d, plain())
}

// P14.1: what is handed in is neither changed nor kept, its spare room neither.
func TestSpareRoom(t *testing.T) {
	mine := plain()
	spare := append(slices.Clone(mine.Known), conf.Known{ID: 12}, conf.Known{ID: 11})
	mine.Known = spare[:2]
	d := opened(t, topRoom)
	wantSave(t, d, mine, api.OK)
	if !keep.Carry(mine, mine) || spare[2].ID != 12 || spare[3].ID != 11 {
		t.Errorf("the spare room is %+v", spare[2:])
	}
	wantLoad(t, d, plain())
}

// epochsOf is a right state with these epochs.
func epochsOf(current, vote, config int) conf.State {
	s := plain()
	s.Epochs = epoch.Epochs{Current: current, Vote: vote, Config: config}
	return s
}

// P14.4: none of a node's epochs may go down, each by itself.
func TestCarry(t *testing.T) {
	for _, c := range []struct {
		was, now conf.State
		must     bool
	}{
		{epochsOf(9, 5, 5), epochsOf(9, 5, 5), true},
		{epochsOf(9, 5, 5), epochsOf(10, 5, 5), true},
		{epochsOf(9, 5, 5), epochsOf(9, 6, 5), true},
		{epochsOf(9, 5, 5), epochsOf(9, 5, 6), true},
		{epochsOf(9, 5, 5), epochsOf(10, 10, 10), true},
		{epochsOf(9, 5, 5), epochsOf(8, 5, 5), false},
		{epochsOf(9, 5, 5), epochsOf(9, 4, 5), false},
		{epochsOf(9, 5, 5), epochsOf(9, 5, 4), false},
		{epochsOf(9, 5, 5), epochsOf(8, 8, 8), false},
		{epochsOf(9, 5, 5), epochsOf(12, 4, 12), false},
		{epochsOf(9, 5, 5), epochsOf(12, 12, 4), false},
		{epochsOf(0, 0, 0), epochsOf(0, 0, 0), true},
		{epochsOf(0, 0, 0), epochsOf(topEpoch, topEpoch, topEpoch), true},
		{epochsOf(topEpoch, topEpoch, topEpoch), epochsOf(topEpoch, topEpoch, topEpoch), true},
		{epochsOf(topEpoch, topEpoch, topEpoch), epochsOf(topEpoch, topEpoch-1, topEpoch), false},
		{epochsOf(topEpoch, topEpoch, topEpoch), epochsOf(topEpoch, topEpoch, topEpoch-1), false},
		{epochsOf(topEpoch, 0, 0), epochsOf(topEpoch-1, 0, 0), false},
		{epochsOf(9, 5, 5), epochsOf(5, 5, 5), false},
		{epochsOf(5, 5, 5), epochsOf(9, 5, 5), true},
	} {
		if got := keep.Carry(c.was, c.now); got != c.must {
			t.Errorf("Carry(%+v, %+v) = %v, want %v", c.was.Epochs, c.now.Epochs, got, c.must)
		}
	}
}

// P14.4: all else may go down: the master, whom one knows and their Configs, who has what and since when.
func TestCarryElse(t *testing.T) {
	bare := conf.State{ID: 5, Epochs: plain().Epochs}
	low := plain()
	low.Master, low.Known[1].Config, low.Known[0].Master = 3, 0, 0
	less := plain()
	less.Table = claims.Table{}
	early := plain()
	early.Table.Epoch[0], early.Table.Epoch[1] = 0, 0
	list := []conf.State{plain(), bare, low, less, early}
	for i, was := range list {
		for j, now := range list {
			if !keep.Carry(was, now) {
				t.Errorf("Carry of the states %d and %d = false", i, j)
			}
		}
	}
}

// P14.4: both must be right, and of one node.
func TestCarryRefuses(t *testing.T) {
	for _, s := range wrongs() {
		if keep.Carry(s, s) || keep.Carry(plain(), s) || keep.Carry(s, plain()) || keep.Carry(s, epochsOf(topEpoch, topEpoch, topEpoch)) || keep.Carry(epochsOf(0, 0, 0), s) {
			t.Errorf("%+v isn't right", s)
		}
	}
	for _, id := range []int{1, 4, 6, topID} {
		s := plain()
		s.ID, s.Table = id, claims.Table{}
		if !keep.Carry(s, s) || keep.Carry(plain(), s) || keep.Carry(s, plain()) {
			t.Errorf("the nodes 5 and %d are two", id)
		}
	}
}
