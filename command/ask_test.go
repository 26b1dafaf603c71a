package command_test

import (
	"math"
	"slices"
	"strings"
	"testing"

	"grapevine/api"
	"grapevine/command"
	"grapevine/conf"
	"grapevine/disk"
	"grapevine/epoch"
	"grapevine/keep"
	"grapevine/node"
	"grapevine/slot"
	"grapevine/slots"
	"grapevine/wire"
)

// The kinds of questions.
const (
	askKeySlot = iota + 11
	askMyID
	askNodes
	askSlots
	askInfo
	askCount
)

// topID is the greatest id.
const topID = 4294967296

// of starts a node with the timeout 1000 at 0 that has a state.
func of(t *testing.T, s conf.State) *node.Node {
	t.Helper()
	d := disk.New(api.MaxDisk)
	if e := keep.Save(d, s); e != api.OK {
		t.Fatal(e)
	}
	n, e := node.Start(node.Config{ID: s.ID, Timeout: 1000}, d, 0)
	if e != api.OK {
		t.Fatal(e)
	}
	return n
}

// thirds is the state of one of the masters 1, 2, 3, which have a third of the slots each, with the epochs 1, 2, 3, or of 4, a replica of 1, 5, one of 2, or the greatest id, a master without slots.
func thirds(self int) conf.State {
	s := conf.State{ID: self, Epochs: epoch.Epochs{Current: 9, Vote: 6}}
	for _, k := range []conf.Known{{ID: 1, Config: 1}, {ID: 2, Config: 2}, {ID: 3, Config: 3}, {ID: 4, Master: 1}, {ID: 5, Master: 2, Config: 5}, {ID: topID, Config: 7}} {
		if k.ID <= 3 {
			share, _ := slots.Share(3, k.ID-1)
			s.Table, _, _ = s.Table.Claim(k.ID, k.Config, share)
		}
		if k.ID == self {
			s.Master, s.Epochs.Config = k.Master, k.Config
		} else {
			s.Known = append(s.Known, k)
		}
	}
	return s
}

// who is a packet of a kind of one of the nodes of thirds.
func who(kind, id int, section ...wire.Entry) wire.Packet {
	s := thirds(id)
	p := wire.Packet{Kind: kind, From: id, Epoch: 9, Config: s.Epochs.Config, Master: s.Master, Section: section}
	if s.Master == 0 {
		p.Slots = s.Table.Of(id)
	}
	return p
}

// hear delivers a packet.
func hear(t *testing.T, n *node.Node, p wire.Packet, now int) {
	t.Helper()
	b, e := wire.Encode(p)
	if e != api.OK {
		t.Fatalf("%+v: %d", p, e)
	}
	wantDone(t, n.Deliver(b, now))
}

// fails has a node told that some have failed.
func fails(t *testing.T, n *node.Node, by int, now int, ids ...int) {
	t.Helper()
	for _, id := range ids {
		p := who(4, by)
		p.About = id
		hear(t, n, p, now)
	}
}

// wantDone holds that a call was answered OK.
func wantDone(t *testing.T, a node.Answer) {
	t.Helper()
	if a.E != api.OK {
		t.Fatal(a.E)
	}
}

// wantTold holds an answer, each time that a line is asked.
func wantTold(t *testing.T, n *node.Node, l command.Line, must string) {
	t.Helper()
	for range 2 {
		if got, e := command.Ask(n, l); e != api.OK || got != must {
			t.Fatalf("%+v:\n%q, %d, want\n%q", l, got, e, must)
		}
	}
}

// wantAnswer holds the answer to a line as it is written.
func wantAnswer(t *testing.T, n *node.Node, text, must string) {
	t.Helper()
	l, e := command.Parse(text)
	if e != api.OK {
		t.Fatalf("%q: %d", text, e)
	}
	wantTold(t, n, l, must)
}

// P17.2: kinds that are no questions.
func TestNoQuestions(t *testing.T) {
	n := of(t, thirds(1))
	for _, kind := range append([]int{1, 2, 3, 4, 5, 6, 7, 8, 9}, noKinds...) {
		for _, l := range []command.Line{{}, {ID: 7}, {Set: 39}, {Key: "foo"}, {ID: 1, Set: 1, Key: "a"}} {
			l.Kind = kind
			if got, e := command.Ask(n, l); e != api.ErrWord || got != "" {
				t.Fatalf("%+v: %q, %d", l, got, e)
			}
		}
	}
}

// P17.2: the slot of a key, whatever the node has.
func TestKeySlot(t *testing.T) {
	n := of(t, conf.State{ID: 1})
	for key, must := range map[string]string{"foo": "22\n", "{foo}x": "22\n", "x{foo}": "22\n", "": "0\n"} {
		wantAnswer(t, n, "KEYSLOT "+key, must)
	}
	h, seen := slot.New(), map[string]bool{}
	keys := []string{"a b", " ", "{}x", "{}", "{a}{b}", "a{b{c}d}", "\x00", "\xff\xfe", "FOO", strings.Repeat("k", 100000)}
	for c := range 256 {
		keys = append(keys, string([]byte{byte(c)}), string([]byte{'k', byte(c)}))
	}
	for _, key := range keys {
		must := digits(h.Slot(key)) + "\n"
		seen[must] = true
		wantTold(t, n, command.Line{Kind: askKeySlot, Key: key}, must)
	}
	if len(seen) != 64 {
		t.Errorf("%d slots only", len(seen))
	}
}

// P17.2: the node's id.
func TestMyID(t *testing.T) {
	for _, id := range []int{1, 2, 10, 4294967295, topID} {
		wantAnswer(t, of(t, conf.State{ID: id}), "MYID", digits(id)+"\n")
	}
	wantAnswer(t, of(t, thirds(4)), "MYID", "4\n")
}

// P17.2: who is well, late and failed, with all that is told of them.
func TestNodes(t *testing.T) {
	n := of(t, thirds(2))
	wantAnswer(t, n, "NODES", "1 well 0 1 0-20\n2 myself 0 2 21-41\n3 well 0 3 42-63\n4 well 1 0 \n5 well 2 5 \n4294967296 well 0 7 \n")
	wantDone(t, n.Tick(500, 0))
	for _, id := range []int{3, 5} {
		hear(t, n, who(2, id), 600)
	}
	wantDone(t, n.Tick(1500, 0)) // pings to 1, 4 and the greatest one wait since 500
	wantAnswer(t, n, "NODES", "1 well 0 1 0-20\n2 myself 0 2 21-41\n3 well 0 3 42-63\n4 well 1 0 \n5 well 2 5 \n4294967296 well 0 7 \n")
	wantDone(t, n.Tick(1501, 0))
	wantAnswer(t, n, "NODES", "1 late 0 1 0-20\n2 myself 0 2 21-41\n3 well 0 3 42-63\n4 late 1 0 \n5 well 2 5 \n4294967296 late 0 7 \n")
	fails(t, n, 3, 1501, 1, 5) // of whom the one is late, and the other isn't
	wantAnswer(t, n, "NODES", "1 failed 0 1 0-20\n2 myself 0 2 21-41\n3 well 0 3 42-63\n4 late 1 0 \n5 failed 2 5 \n4294967296 late 0 7 \n")
	hear(t, n, who(2, 4), 1502)
	hear(t, n, who(2, 5), 1502)
	wantAnswer(t, n, "NODES", "1 failed 0 1 0-20\n2 myself 0 2 21-41\n3 well 0 3 42-63\n4 well 1 0 \n5 well 2 5 \n4294967296 late 0 7 \n")
	wantDone(t, n.Do(node.Command{Kind: 4, Set: 1<<21 | 1<<30}, 1502))
	wantDone(t, n.Do(node.Command{Kind: 7}, 1502))
	wantDone(t, n.Do(node.Command{Kind: 2, ID: 3}, 1502))
	wantDone(t, n.Do(node.Command{Kind: 1, ID: 10}, 1502))
	wantAnswer(t, n, "NODES", "1 failed 0 1 0-20\n2 myself 0 10 22-29 31-41\n4 well 1 0 \n5 well 2 5 \n10 well 0 0 \n4294967296 late 0 7 \n")
}

// P17.2: a node that failed at 0 has failed.
func TestNodesFailedAtOnce(t *testing.T) {
	n := of(t, thirds(2))
	fails(t, n, 3, 0, 1)
	wantAnswer(t, n, "NODES", "1 failed 0 1 0-20\n2 myself 0 2 21-41\n3 well 0 3 42-63\n4 well 1 0 \n5 well 2 5 \n4294967296 well 0 7 \n")
}

// P17.2: the node stands where its id does, with its own master, and what it has in its table.
func TestNodesMyself(t *testing.T) {
	wantAnswer(t, of(t, conf.State{ID: 7}), "NODES", "7 myself 0 0 \n")
	wantAnswer(t, of(t, thirds(1)), "NODES", "1 myself 0 1 0-20\n2 well 0 2 21-41\n3 well 0 3 42-63\n4 well 1 0 \n5 well 2 5 \n4294967296 well 0 7 \n")
	wantAnswer(t, of(t, thirds(5)), "NODES", "1 well 0 1 0-20\n2 well 0 2 21-41\n3 well 0 3 42-63\n4 well 1 0 \n5 myself 2 5 \n4294967296 well 0 7 \n")
	wantAnswer(t, of(t, thirds(topID)), "NODES", "1 well 0 1 0-20\n2 well 0 2 21-41\n3 well 0 3 42-63\n4 well 1 0 \n5 well 2 5 \n4294967296 myself 0 7 \n")
	s := conf.State{ID: 3, Master: 8, Epochs: epoch.Epochs{Current: 1 << 48, Vote: 4, Config: 1 << 48}, Known: []conf.Known{{ID: 2, Master: 9, Config: 1 << 48}}}
	s.Table, _, _ = s.Table.Claim(3, 5, setOf(0, 1, 2, 5)) // also of a replica
	wantAnswer(t, of(t, s), "NODES", "2 well 9 281474976710656 \n3 myself 8 281474976710656 0-2 5\n")
	wantAnswer(t, of(t, s), "SLOTS", "3 0-2 5\n")
}

// P17.2: the owners, by their ids, with what they have.
func TestOwners(t *testing.T) {
	wantAnswer(t, of(t, conf.State{ID: 7}), "SLOTS", "")
	for _, self := range []int{1, 2, 4, topID} {
		wantAnswer(t, of(t, thirds(self)), "SLOTS", "1 0-20\n2 21-41\n3 42-63\n")
	}
	s := conf.State{ID: 3, Known: []conf.Known{{ID: 2}, {ID: 10}, {ID: topID}}}
	s.Table, _, _ = s.Table.Claim(topID, 1, setOf(0, 3, 4, 63))
	s.Table, _, _ = s.Table.Claim(3, 2, setOf(1))
	s.Table, _, _ = s.Table.Claim(10, 3, setOf(2, 40))
	wantAnswer(t, of(t, s), "SLOTS", "3 1\n10 2 40\n4294967296 0 3-4 63\n")
	s.Table, _, _ = s.Table.Claim(2, 9, math.MaxUint64)
	wantAnswer(t, of(t, s), "SLOTS", "2 0-63\n")
}

// P17.2: by how many reports about somebody count, at the node's time.
func TestCount(t *testing.T) {
	n := of(t, thirds(2))
	count := func(must string, ids ...int) {
		t.Helper()
		for _, id := range ids {
			wantTold(t, n, command.Line{Kind: askCount, ID: id}, must)
		}
	}
	count("0\n", math.MinInt, -1, 0, 1, 2, 3, 4, 5, 6, topID, topID+1, topNumber, math.MaxInt)
	hear(t, n, who(2, 1, wire.Entry{ID: 4, State: 1}, wire.Entry{ID: 3, State: 2}), 100)
	count("1\n", 3, 4)
	hear(t, n, who(2, 3, wire.Entry{ID: 4, State: 2}, wire.Entry{ID: topID, State: 1}), 300)
	count("2\n", 4)
	count("1\n", 3, topID)
	count("0\n", math.MinInt, -1, 0, 1, 2, 5, 6, topNumber, math.MaxInt)
	wantAnswer(t, n, "count 4", "2\n")
	wantAnswer(t, n, "count 5", "0\n")
	n.Do(node.Command{}, 2100) // which lets the time pass, and nothing more
	count("2\n", 4)
	n.Do(node.Command{}, 2101)
	count("1\n", 4, topID)
	count("0\n", 3)
	hear(t, n, who(2, 3, wire.Entry{ID: 4}), 2101)
	count("0\n", 4)
	count("1\n", topID)
}

// wantInfo holds all that INFO tells.
func wantInfo(t *testing.T, n *node.Node, state string, assigned, known, servers, current int) {
	t.Helper()
	wantAnswer(t, n, "info", "state "+state+"\nassigned "+digits(assigned)+"\nknown "+digits(known)+"\nservers "+digits(servers)+"\nepoch "+digits(current)+"\n")
}

// P17.2: the state is fail as long as nobody has one of the slots.
func TestInfoSlots(t *testing.T) {
	wantInfo(t, of(t, conf.State{ID: 7}), "fail", 0, 1, 0, 0)
	s := conf.State{ID: 7, Epochs: epoch.Epochs{Current: 5, Vote: 3, Config: 2}}
	for _, set := range []slots.Set{1, 1 << 63, setOf(3, 9, 33), math.MaxUint64 >> 1, math.MaxUint64 &^ 1, math.MaxUint64 &^ setOf(20)} {
		one := s
		one.Table, _, _ = s.Table.Claim(7, 2, set)
		wantInfo(t, of(t, one), "fail", len(set.List()), 1, 1, 5)
	}
	s.Table, _, _ = s.Table.Claim(7, 2, math.MaxUint64)
	wantInfo(t, of(t, s), "ok", 64, 1, 1, 5)
	s.Epochs.Current = 1 << 48
	wantInfo(t, of(t, s), "ok", 64, 1, 1, 1<<48)
	for _, self := range []int{1, 2, 3, 4, 5, topID} {
		wantInfo(t, of(t, thirds(self)), "ok", 64, 6, 3, 9)
	}
	n := of(t, thirds(2))
	wantDone(t, n.Do(node.Command{Kind: 4, Set: 1 << 21}, 0))
	wantInfo(t, n, "fail", 63, 6, 3, 9)
	wantDone(t, n.Do(node.Command{Kind: 3, Set: 1 << 21}, 0))
	wantInfo(t, n, "ok", 64, 6, 3, 9)
	wantDone(t, n.Do(node.Command{Kind: 2, ID: 3}, 0))
	wantInfo(t, n, "fail", 42, 5, 2, 9)
	wantDone(t, n.Do(node.Command{Kind: 9}, 0))
	wantInfo(t, n, "fail", 0, 1, 0, 9)
}

// P17.2: the state is fail unless more than half of the owners are the node or members that haven't failed.
func TestInfoOwners(t *testing.T) {
	for n := 1; n <= 15; n++ {
		for failed := range n + 1 {
			state := "fail"
			if 2*(n-failed) > n {
				state = "ok"
			}
			wantInfo(t, shared(t, 16, n, failed), state, 64, 16, n, 20) // the node has nothing
			if failed < n {
				wantInfo(t, shared(t, 1, n, failed), state, 64, 16, n, 20) // the node is an owner, and none that has failed
			}
		}
	}
	wantInfo(t, shared(t, 1, 16, 7), "ok", 64, 16, 16, 20)
	wantInfo(t, shared(t, 1, 16, 8), "fail", 64, 16, 16, 20)
	// Those of whom no slots hang count for nothing, whether they failed or not, and who is late hasn't failed.
	m := of(t, thirds(2))
	fails(t, m, 3, 0, 4, 5, topID)
	wantDone(t, m.Tick(500, 0))
	wantDone(t, m.Tick(1501, 0))
	if len(m.Late()) != 5 {
		t.Fatal(m.Late())
	}
	wantInfo(t, m, "ok", 64, 6, 3, 9)
	fails(t, m, 3, 1501, 1)
	wantInfo(t, m, "ok", 64, 6, 3, 9)
	fails(t, m, 1, 1501, 3)
	wantInfo(t, m, "fail", 64, 6, 3, 9)
	// A replica that has slots in its table counts too.
	s := conf.State{ID: 3, Master: 2, Known: []conf.Known{{ID: 2}}}
	s.Table, _, _ = s.Table.Claim(3, 0, math.MaxUint64)
	wantInfo(t, of(t, s), "ok", 64, 2, 1, 0)
}

// shared is the node self of 16 of which 1 to n have a share of the slots each, and the last ones of these have failed.
func shared(t *testing.T, self, n, failed int) *node.Node {
	t.Helper()
	s := conf.State{ID: self, Epochs: epoch.Epochs{Current: 20, Config: self}}
	for id := 1; id <= 16; id++ {
		if id <= n {
			share, _ := slots.Share(n, id-1)
			s.Table, _, _ = s.Table.Claim(id, id, share)
		}
		if id != self {
			s.Known = append(s.Known, conf.Known{ID: id, Config: id})
		}
	}
	m := of(t, s)
	for id := n - failed + 1; id <= n; id++ {
		by := 1 + id%15 // anybody else but the node, of whom the packet must say what it has
		if by == self {
			by++
		}
		hear(t, m, wire.Packet{Kind: 4, From: by, Epoch: 20, Config: by, Slots: s.Table.Of(by), About: id}, 0)
	}
	return m
}

// P17.2: of a question nothing counts but what it asks for, and nothing is changed by it.
func TestQuestionsAlone(t *testing.T) {
	n := of(t, thirds(2))
	hear(t, n, who(2, 1, wire.Entry{ID: 4, State: 1}), 100)
	was, members := n.State(), n.Members()
	for kind := askKeySlot; kind <= askCount; kind++ {
		must, e := command.Ask(n, command.Line{Kind: kind})
		if e != api.OK {
			t.Fatal(kind, e)
		}
		for _, l := range []command.Line{{ID: 4}, {Set: 39}, {Key: "foo"}, {ID: -1, Set: 1, Key: "a"}} {
			l.Kind = kind
			if kind == askKeySlot {
				l.Key = ""
			}
			if kind == askCount {
				l.ID = 0
			}
			wantTold(t, n, l, must)
		}
	}
	now := n.State()
	if was.Table != now.Table || was.Epochs != now.Epochs || !slices.Equal(was.Known, now.Known) || !slices.Equal(members, n.Members()) || len(n.Reports(4)) != 1 {
		t.Fatal("a question changed something")
	}
}
