package node_test

import (
	"fmt"
	"math"
	"strings"
	"testing"

	"grapevine/api"
	"grapevine/conf"
	"grapevine/disk"
	"grapevine/epoch"
	"grapevine/keep"
	"grapevine/node"
	"grapevine/roster"
	"grapevine/slots"
	"grapevine/wire"
)

// The kinds of packets.
const (
	ping = iota + 1
	pong
	meet
	fail
	update
	ask
	ack
)

// The kinds of commands.
const (
	doMeet = iota + 1
	doForget
	doAdd
	doDelete
	doReplicate
	doTakeover
	doBump
	doOffset
	doReset
)

// The greatest id, epoch, offset, timeout and time, written out so that the limits themselves are held too.
const (
	topID      = 4294967296
	topEpoch   = 281474976710656
	topOffset  = 281474976710656
	topTimeout = 1048576
	topNow     = 274877906944
)

// Numbers that are none of a kind.
var (
	noIDs      = []int{math.MinInt, -topID, -1, 0, topID + 1, 2 * topID, math.MaxInt}
	noTimeouts = []int{math.MinInt, -1000, -1, 0, 1, topTimeout + 1, 1 << 30, 1 << 32, math.MaxInt}
	noNows     = []int{math.MinInt, -topNow, -1, topNow + 1, 2 * topNow, 1 << 40, math.MaxInt}
)

// bench is a node and its disk.
type bench struct {
	t *testing.T
	d *disk.Disk
	n *node.Node
}

// begun starts a node with the timeout 1000 at a time.
func begun(t *testing.T, d *disk.Disk, id, now int) *bench {
	t.Helper()
	n, e := node.Start(node.Config{ID: id, Timeout: 1000}, d, now)
	if n == nil || e != api.OK {
		t.Fatalf("Start of %d at %d = %v, %d", id, now, n, e)
	}
	return &bench{t, d, n}
}

// of starts a node at 0 that has a state.
func of(t *testing.T, s conf.State) *bench {
	t.Helper()
	d := disk.New(api.MaxDisk)
	if e := keep.Save(d, s); e != api.OK {
		t.Fatal(e)
	}
	return begun(t, d, s.ID, 0)
}

// third starts one of the five nodes of thirds: 1, 2, 3 are masters of the epochs 1, 2, 3, while 4 follows 1, and 5 follows 2.
func third(t *testing.T, self int) *bench {
	t.Helper()
	return of(t, thirds(self, 5))
}

// who is a packet of a kind of one of the five nodes of thirds.
func who(kind, id int, section ...wire.Entry) wire.Packet {
	p := wire.Packet{Kind: kind, From: id, Epoch: 5, Section: section}
	if id <= 3 {
		p.Config, p.Slots = id, share(id)
	} else {
		p.Master = id - 3
	}
	return p
}

// deliver delivers a packet.
func (b *bench) deliver(p wire.Packet, now int) node.Answer {
	b.t.Helper()
	bytes, e := wire.Encode(p)
	if e != api.OK {
		b.t.Fatalf("%+v: %d", p, e)
	}
	return b.n.Deliver(bytes, now)
}

// hear delivers a packet that must be taken.
func (b *bench) hear(p wire.Packet, now int) node.Answer {
	b.t.Helper()
	return b.taken(fmt.Sprintf("%+v", p), b.deliver(p, now))
}

// tick lets time pass.
func (b *bench) tick(now, draw int) node.Answer {
	b.t.Helper()
	return b.taken(fmt.Sprintf("tick %d", now), b.n.Tick(now, draw))
}

// do does a command that must be taken.
func (b *bench) do(kind, id int, set slots.Set, now int) node.Answer {
	b.t.Helper()
	return b.taken(fmt.Sprintf("command %d %d", kind, id), b.n.Do(node.Command{Kind: kind, ID: id, Set: set}, now))
}

// taken holds that a call was answered OK, and that the state is kept.
func (b *bench) taken(what string, a node.Answer) node.Answer {
	b.t.Helper()
	if a.E != api.OK {
		b.t.Fatalf("%s: %d", what, a.E)
	}
	wantKept(b.t, what, b.d, b.n.State())
	return a
}

// all is all that a node tells.
func (b *bench) all() string {
	reports := ""
	for id := range 7 {
		reports += textOf(b.n.Reports(id))
	}
	return textOf(b.n.State()) + textOf(b.n.Members()) + textOf(b.n.Late()) + reports + textOf(b.n.Offset()) + textOf(b.n.Stopped())
}

// at brings its time to now, as even a call that is refused does, and is all that it tells then.
func (b *bench) at(now int) string {
	b.t.Helper()
	wantSame(b.t, "no command", b.n.Do(node.Command{}, now), node.Answer{E: api.ErrKind})
	return b.all()
}

// refuses holds that a packet is refused, and changes nothing.
func (b *bench) refuses(p wire.Packet, now int, e api.Errno) {
	b.t.Helper()
	was := b.at(now)
	wantSame(b.t, textOf(p), b.deliver(p, now), node.Answer{E: e})
	wantSame(b.t, textOf(p)+" changed something", b.all(), was)
}

// refusesTo holds that a command is refused, and changes nothing.
func (b *bench) refusesTo(kind, id int, set slots.Set, now int, e api.Errno) {
	b.t.Helper()
	was, c := b.at(now), node.Command{Kind: kind, ID: id, Set: set}
	wantSame(b.t, textOf(c), b.n.Do(c, now), node.Answer{E: e})
	wantSame(b.t, textOf(c)+" changed something", b.all(), was)
}

// sent is the kinds of an answer's packets, and to whom they go: 2>1 is a pong to 1.
func sent(a node.Answer) string {
	var list []string
	for _, o := range a.Out {
		list = append(list, fmt.Sprintf("%d>%d", o.Packet.Kind, o.To))
	}
	return strings.Join(list, " ")
}

// wantSent holds what was sent, and which events there were.
func wantSent(t *testing.T, a node.Answer, must string, events ...node.Event) {
	t.Helper()
	if got := sent(a); got != must {
		t.Fatalf("sent %q, want %q", got, must)
	}
	wantSame(t, "events", a.Events, events)
}

// wantTable holds who has the slots of the shares of 1, 2 and 3, with which epochs.
func (b *bench) wantTable(must ...[2]int) {
	b.t.Helper()
	table := b.n.State().Table
	for i, m := range must {
		for _, slot := range share(i + 1).List() {
			if table.Owner[slot] != m[0] || table.Epoch[slot] != m[1] {
				b.t.Fatalf("the slot %d is of %d with %d, want %v", slot, table.Owner[slot], table.Epoch[slot], m)
			}
		}
	}
}

// wantState holds its master and epochs.
func (b *bench) wantState(master, current, vote, config int) {
	b.t.Helper()
	s := b.n.State()
	wantSame(b.t, "master and epochs", []any{s.Master, s.Epochs}, []any{master, epoch.Epochs{Current: current, Vote: vote, Config: config}})
}

// member is what it knows of somebody.
func (b *bench) member(id int) roster.Member {
	b.t.Helper()
	for _, m := range b.n.Members() {
		if m.ID == id {
			return m
		}
	}
	b.t.Fatalf("%d is no member", id)
	return roster.Member{}
}

// wantMember holds what it knows of somebody.
func (b *bench) wantMember(id, master, config, offset, failAt int) {
	b.t.Helper()
	wantSame(b.t, "member", b.member(id), roster.Member{ID: id, Master: master, Config: config, Offset: offset, FailAt: failAt})
}

// wantMembers holds whom it knows.
func (b *bench) wantMembers(must ...int) {
	b.t.Helper()
	var got []int
	for _, m := range b.n.Members() {
		got = append(got, m.ID)
	}
	wantSame(b.t, "members", got, must)
}

// P16.1: what is no id, timeout or time is refused, ahead of what the disk says, which isn't touched.
func TestStartWrong(t *testing.T) {
	down := disk.New(1000)
	down.Arm(0)
	down.Write("x", nil)
	empty := disk.New(1000)
	for _, d := range []*disk.Disk{down, empty} {
		for _, id := range noIDs {
			wantStart(t, node.Config{ID: id, Timeout: 10}, d, 0, api.ErrForm)
		}
		for _, timeout := range noTimeouts {
			wantStart(t, node.Config{ID: 1, Timeout: timeout}, d, 0, api.ErrForm)
		}
		for _, now := range noNows {
			wantStart(t, node.Config{ID: 1, Timeout: 10}, d, now, api.ErrForm)
		}
	}
	wantStart(t, node.Config{ID: 1, Timeout: 10}, down, 0, api.ErrDown)
	if names, _ := empty.Names(); len(names) != 0 {
		t.Fatalf("the disk has %v", names)
	}
	for _, c := range []node.Config{{ID: 1, Timeout: 2}, {ID: topID, Timeout: 2}, {ID: 1, Timeout: topTimeout}, {ID: topID, Timeout: topTimeout}} {
		for _, now := range []int{0, 1, topNow - 1, topNow} {
			wantStart(t, c, disk.New(1000), now, api.OK)
		}
	}
}

// wantStart starts a node, and holds the error.
func wantStart(t *testing.T, c node.Config, d *disk.Disk, now int, must api.Errno) {
	t.Helper()
	if n, e := node.Start(c, d, now); e != must || (n == nil) == (e == api.OK) {
		t.Fatalf("Start(%v, %d) = %v, %d, want %d", c, now, n, e, must)
	}
}

// P16.1: what the disk's state comes to.
func TestStartDisk(t *testing.T) {
	d := disk.New(1000)
	for _, text := range []string{"", "x", "self 1 master 0 current 0 vote 0 config 1\n"} {
		d.Write("state", []byte(text))
		wantStart(t, node.Config{ID: 1, Timeout: 10}, d, 0, api.ErrSyntax)
	}
	if e := keep.Save(d, conf.State{ID: 7}); e != api.OK {
		t.Fatal(e)
	}
	wantStart(t, node.Config{ID: 1, Timeout: 10}, d, 0, api.ErrNode)
	wantKept(t, "of another id", d, conf.State{ID: 7})
	d.Arm(0)
	wantStart(t, node.Config{ID: 7, Timeout: 10}, d, 0, api.OK) // as nothing is written
	for n := range 3 {
		d := disk.New(1000)
		d.Arm(n)
		wantStart(t, node.Config{ID: 1, Timeout: 10}, d, 0, api.ErrDown)
		d.Crash(nil)
		wantStart(t, node.Config{ID: 1, Timeout: 10}, d, 0, api.OK)
	}
	wantStart(t, node.Config{ID: 1, Timeout: 10}, disk.New(20), 0, api.ErrSpace)
}

// P16.1: a new node has nothing, and that is kept.
func TestStartNew(t *testing.T) {
	b := begun(t, disk.New(1000), 9, 5)
	wantSame(t, "state", b.n.State(), conf.State{ID: 9})
	wantKept(t, "new", b.d, conf.State{ID: 9})
	b.wantMembers()
	wantSame(t, "late, reports", []any{b.n.Late(), b.n.Reports(9), b.n.Offset(), b.n.Stopped()}, []any{[]int{}, []int{}, 0, false})
	wantSent(t, b.tick(100000, 0), "")
}

// P16.1: who is known is a member that hasn't failed, and a peer that was heard at the start; all else is empty.
func TestStartKept(t *testing.T) {
	s := thirds(2, 5)
	s.Known[3].Config = 3
	b := of(t, s)
	b.do(doOffset, 8, 0, 0)
	p := who(pong, 3, wire.Entry{ID: 1, State: 1})
	p.Offset = 77
	b.hear(p, 10)
	b.hear(wire.Packet{Kind: fail, From: 3, Epoch: 5, Config: 3, Slots: share(3), About: 1}, 20)
	b.do(doMeet, 6, 0, 20)
	b.do(doForget, 6, 0, 20)
	b.hear(wire.Packet{Kind: ask, From: 4, Epoch: 6, Master: 1}, 30)
	b.tick(600, 0)
	b.tick(1700, 0)
	was := b.n.State()
	if len(b.n.Late()) != 4 || len(b.n.Reports(1)) != 1 || b.member(1).FailAt != 20 || was.Epochs.Vote != 6 {
		t.Fatal(b.all())
	}

	c := begun(t, b.d, 2, 1000)
	wantSame(t, "state", c.n.State(), was)
	wantSame(t, "members", c.n.Members(), []roster.Member{
		{ID: 1, Config: 1, FailAt: -1}, {ID: 3, Config: 3, FailAt: -1}, {ID: 4, Master: 1, FailAt: -1}, {ID: 5, Master: 2, Config: 3, FailAt: -1},
	})
	wantSame(t, "late, reports, offset", []any{c.n.Late(), c.n.Reports(1), c.n.Offset()}, []any{[]int{}, []int{}, 0})
	wantSent(t, c.tick(1499, 0), "")
	wantSent(t, c.tick(1500, 0), "1>1 1>3 1>4 1>5")
	c.do(doMeet, 6, 0, 1500) // there is no ban
	c.hear(wire.Packet{Kind: fail, From: 3, Epoch: 5, Config: 3, Slots: share(3), About: 1}, 1500)
	wantSent(t, c.hear(wire.Packet{Kind: ask, From: 4, Epoch: 7, Master: 1}, 1500), "7>4", node.Event{Kind: 1, By: 2, About: 4, Epoch: 7}) // nor a vote
}

// P16.1: a node has no plan at its start, and its time is that of the start.
func TestStartPlan(t *testing.T) {
	b := third(t, 4)
	b.hear(wire.Packet{Kind: fail, From: 3, Epoch: 5, Config: 3, Slots: share(3), About: 1}, 100)
	b.tick(100, 0) // which plans to stand at 600
	c := begun(t, b.d, 4, 300)
	c.hear(wire.Packet{Kind: fail, From: 3, Epoch: 5, Config: 3, Slots: share(3), About: 1}, 50)
	c.wantMember(1, 0, 1, 0, 300)
	wantSent(t, c.tick(750, 0), "") // which plans to stand at 1250
	wantSent(t, c.tick(1249, 0), "1>1 1>2 1>3 1>5")
	wantSent(t, c.tick(1250, 0), "6>1 6>2 6>3")
}

// P16.2: a call at what is no time is refused ahead of all else, and the time stays.
func TestWrongTimes(t *testing.T) {
	b := third(t, 2)
	b.tick(600, 0)
	was := b.all()
	for _, now := range noNows {
		for _, a := range []node.Answer{b.n.Tick(now, 0), b.n.Deliver(nil, now), b.n.Do(node.Command{Kind: 99}, now), b.deliver(who(pong, 3), now)} {
			wantSame(t, "answer", a, node.Answer{E: api.ErrForm})
		}
	}
	wantSame(t, "all", b.all(), was)
	for _, now := range []int{topNow - 1, topNow} {
		b.tick(now, 0)
		b.hear(who(pong, 3), now)
		b.do(doOffset, 1, 0, now)
	}
}

// P16.2: a call that is told an earlier time than another one was is at that one's.
func TestTimeStays(t *testing.T) {
	b := third(t, 2)
	b.tick(600, 0)
	b.hear(who(pong, 3), 1650)
	wantSame(t, "late", b.n.Late(), []int{1, 4, 5})
	b.hear(wire.Packet{Kind: fail, From: 3, Epoch: 5, Config: 3, Slots: share(3), About: 4}, 7)
	b.wantMember(4, 1, 0, 0, 1650)
	b.do(doMeet, 6, 0, 0)
	wantSent(t, b.tick(0, 0), "1>1 1>4 1>5") // 3 was heard at 1650, and 6 added then
	wantSent(t, b.tick(2149, 0), "")
	wantSent(t, b.tick(2150, 0), "1>1 1>3 1>4 1>5 1>6")
}

// P16.2: an error changes the time, and nothing else.
func TestErrorsKeepTime(t *testing.T) {
	for i, call := range []func(b *bench) node.Answer{
		func(b *bench) node.Answer { return b.n.Deliver(nil, 1601) },
		func(b *bench) node.Answer { return b.deliver(who(pong, 2), 1601) },
		func(b *bench) node.Answer { return b.deliver(wire.Packet{Kind: pong, From: 9, Epoch: 99}, 1601) },
		func(b *bench) node.Answer { return b.n.Do(node.Command{}, 1601) },
		func(b *bench) node.Answer { return b.n.Do(node.Command{Kind: doMeet, ID: 3}, 1601) },
		func(b *bench) node.Answer { return b.n.Do(node.Command{Kind: doTakeover}, 1601) },
	} {
		b := third(t, 2)
		b.tick(600, 0)
		b.hear(who(pong, 3, wire.Entry{ID: 1, State: 1}), 600)
		state, members := b.n.State(), b.n.Members()
		b.d.Arm(0)
		a := call(b)
		if a.E == api.OK || len(a.Out)+len(a.Events) != 0 {
			t.Fatalf("%d: %+v", i, a)
		}
		wantSame(t, "what is kept", []any{b.n.State(), b.n.Members(), b.n.Reports(1), b.n.Stopped()}, []any{state, members, []int{3}, false})
		wantSame(t, "late", b.n.Late(), []int{1, 4, 5})
	}
}

// P16.2: a packet's errors, in their order.
func TestPacketErrors(t *testing.T) {
	b := third(t, 2)
	good, _ := wire.Encode(who(pong, 3))
	self, _ := wire.Encode(who(meet, 2))
	for n := range good {
		if _, e := wire.Decode(good[:n]); e != b.n.Deliver(good[:n], 0).E {
			t.Fatalf("%d bytes: not %d", n, e)
		}
	}
	for _, c := range []struct {
		at int
		e  api.Errno
	}{{0, api.ErrForm}, {2, api.ErrKind}, {40, api.ErrSum}} {
		for _, from := range [][]byte{good, self} {
			wrong := append([]byte(nil), from...)
			wrong[c.at] ^= 1
			wantSame(t, "answer", b.n.Deliver(wrong, 0), node.Answer{E: c.e})
		}
	}
	for kind := ping; kind <= ack; kind++ {
		for from, e := range map[int]api.Errno{2: api.ErrSelf, 6: api.ErrNode} {
			p := wire.Packet{Kind: kind, From: from, Epoch: 9}
			if kind == fail || kind == update {
				p.About = 1
			}
			if kind != meet || from == 2 {
				b.refuses(p, 0, e)
			}
		}
	}
}

// P16.2: of who is no member a meet alone is taken, if the roster takes it.
func TestMeetOfOther(t *testing.T) {
	b := third(t, 2)
	b.do(doForget, 4, 0, 0)
	b.refuses(wire.Packet{Kind: meet, From: 4, Epoch: 9}, 60000, api.ErrBanned)
	a := b.hear(wire.Packet{Kind: meet, From: 4, Epoch: 9, Config: 7, Master: 3, Offset: 50}, 60001)
	wantSent(t, a, "2>4")
	b.wantMember(4, 3, 7, 50, -1)
	b.wantState(0, 9, 4, 2)
	wantSent(t, b.tick(60500, 0), "1>1 1>3 1>5")
	wantSent(t, b.tick(60501, 0), "1>4") // a peer since 60001
	for id := 6; id <= 16; id++ {
		b.hear(wire.Packet{Kind: meet, From: id}, 60501)
	}
	b.refuses(wire.Packet{Kind: meet, From: 17, Epoch: 99}, 60501, api.ErrFull)
	b.refuses(wire.Packet{Kind: meet, From: topID, Epoch: 99}, 60501, api.ErrFull)
	wantSent(t, b.hear(who(meet, 3), 60501), "2>3") // of a member it is one like others
}

// What a header has: who it is, its epochs and offset, and its slots, if it is a master.
func TestHeader(t *testing.T) {
	b := third(t, 2)
	b.do(doOffset, topOffset, 0, 0)
	b.do(doMeet, 7, 0, 0)
	a := b.hear(who(meet, 3), 0)
	wantSame(t, "pong", a.Out[0], node.Out{To: 3, Packet: wire.Packet{
		Kind: pong, From: 2, Epoch: 5, Config: 2, Slots: share(2), Offset: topOffset,
		Section: []wire.Entry{{ID: 7}, {ID: 1}, {ID: 4}}, // the meet spoke of three: so of 1, 4, 5, 7 the last one is next
	}})
	b = third(t, 4)
	a = b.hear(who(ping, 3), 0)
	wantSame(t, "pong", a.Out[0], node.Out{To: 3, Packet: wire.Packet{
		Kind: pong, From: 4, Epoch: 5, Master: 1, Section: []wire.Entry{{ID: 1}, {ID: 2}, {ID: 5}},
	}})
}

// A replica that has slots all the same says nothing of them, nor is it a voter.
func TestReplicaWithSlots(t *testing.T) {
	s := thirds(2, 5)
	s.Master = 3
	b := of(t, s)
	if p := b.hear(who(ping, 3), 0).Out[0].Packet; p.Slots != 0 || p.Master != 3 {
		t.Fatalf("%+v", p)
	}
	b.hear(who(pong, 1, wire.Entry{ID: 3, State: 2}), 0)
	b.tick(500, 0)
	wantSent(t, b.tick(1501, 0), "1>1 1>3 1>4 1>5")
	b.refusesTo(doBump, 0, 0, 1501, api.ErrRole)
	b.hear(wire.Packet{Kind: fail, From: 3, Epoch: 5, Config: 3, Slots: share(3), About: 1}, 1501)
	wantSent(t, b.hear(wire.Packet{Kind: ask, From: 4, Epoch: 6, Master: 1}, 1501), "")
}

// What a section has: those of whom it is time to speak, each with its state; packets of the other kinds have none.
func TestSection(t *testing.T) {
	b := third(t, 2)
	b.tick(500, 0) // four sections of three entries each: the cursor is 12
	b.hear(who(pong, 3), 1500)
	b.hear(wire.Packet{Kind: fail, From: 3, Epoch: 5, Config: 3, Slots: share(3), About: 5}, 1500)
	for _, c := range []struct {
		from, now int
		must      []wire.Entry
	}{
		{3, 1500, []wire.Entry{{ID: 1}, {ID: 4}, {ID: 5, State: 2}}},
		{3, 1501, []wire.Entry{{ID: 1, State: 1}, {ID: 4, State: 1}, {ID: 5, State: 2}}},
		{1, 1501, []wire.Entry{{ID: 3}, {ID: 4, State: 1}, {ID: 5, State: 2}}},
	} {
		b.refuses(who(ping, 2), c.now, api.ErrSelf) // which speaks of nobody
		b.refusesTo(doMeet, 3, 0, c.now, api.ErrKnown)
		wantSame(t, "section", b.hear(who(ping, c.from), c.now).Out[0].Packet.Section, c.must)
	}
	b.do(doMeet, 6, 0, 1501) // of the members but 6: 1, 3, 4, 5, from the place 21 modulo 4 on
	wantSame(t, "section", b.hear(who(ping, 1), 1501).Out[0].Packet.Section, []wire.Entry{{ID: 3}, {ID: 4, State: 1}, {ID: 5, State: 2}})
	b.do(doForget, 4, 0, 1501)
	b.do(doForget, 5, 0, 1501)
	b.do(doForget, 6, 0, 1501)
	wantSame(t, "section", b.hear(who(ping, 3), 1501).Out[0].Packet.Section, []wire.Entry{{ID: 1, State: 1}})
	b.do(doForget, 1, 0, 1501)
	wantSame(t, "section", b.hear(who(ping, 3), 1501).Out[0].Packet.Section, []wire.Entry{})
}

// P16.2: a state that is another one than ahead of a call is saved at its end, and no other one is.
func TestSaves(t *testing.T) {
	b := third(t, 2)
	b.d.Arm(0)
	for _, a := range []node.Answer{
		b.tick(600, 0), b.hear(who(ping, 3), 600), b.hear(who(pong, 3, wire.Entry{ID: 1, State: 2}), 600), b.do(doOffset, 9, 0, 600),
		b.do(doAdd, 0, 0, 600), b.do(doDelete, 0, 0, 600), b.tick(1601, 0),
	} {
		wantSame(t, "error", a.E, api.OK)
	}
	if b.member(1).FailAt != 1601 {
		t.Fatal(b.n.Members()) // that isn't kept
	}
	for i, call := range []func(b *bench) node.Answer{
		func(b *bench) node.Answer {
			return b.deliver(wire.Packet{Kind: ping, From: 3, Epoch: 6, Config: 3, Slots: share(3)}, 0)
		},
		func(b *bench) node.Answer {
			return b.deliver(wire.Packet{Kind: ping, From: 3, Epoch: 5, Config: 4, Slots: share(3)}, 0)
		},
		func(b *bench) node.Answer { return b.deliver(wire.Packet{Kind: pong, From: 3, Epoch: 5, Config: 3}, 0) },
		func(b *bench) node.Answer { return b.deliver(wire.Packet{Kind: pong, From: 5, Epoch: 5, Master: 1}, 0) },
		func(b *bench) node.Answer { return b.deliver(wire.Packet{Kind: meet, From: 7}, 0) },
		func(b *bench) node.Answer { return b.deliver(who(ping, 5, wire.Entry{ID: 7}), 0) },
		func(b *bench) node.Answer { return b.n.Do(node.Command{Kind: doMeet, ID: 7}, 0) },
		func(b *bench) node.Answer { return b.n.Do(node.Command{Kind: doForget, ID: 4}, 0) },
		func(b *bench) node.Answer { return b.n.Do(node.Command{Kind: doDelete, Set: 1 << 21}, 0) },
		func(b *bench) node.Answer { return b.n.Do(node.Command{Kind: doBump}, 0) },
		func(b *bench) node.Answer { return b.n.Do(node.Command{Kind: doReset}, 0) },
	} {
		for armed := range 3 {
			b := third(t, 2)
			was := b.n.State()
			b.d.Arm(armed)
			wantStopped(t, fmt.Sprint("call ", i), b, call(b), api.ErrDown)
			b.d.Crash([]int{i * 20})
			wantSame(t, "state behind a crash", begun(t, b.d, 2, 0).n.State(), was)
		}
		b := third(t, 2)
		b.d.Room(0)
		wantStopped(t, fmt.Sprint("call ", i), b, call(b), api.ErrSpace)
		b = third(t, 2)
		was := b.n.State()
		b.taken(fmt.Sprint("call ", i), call(b))
		if isSame(b.n.State(), was) {
			t.Fatalf("call %d changes nothing", i)
		}
	}
}

// wantStopped holds that a call was answered an error, and nothing is done any more.
func wantStopped(t *testing.T, what string, b *bench, a node.Answer, e api.Errno) {
	t.Helper()
	wantSame(t, what, a, node.Answer{E: e})
	b.d.Room(api.MaxDisk)
	for range 2 {
		for _, a := range []node.Answer{b.n.Tick(9, 0), b.n.Tick(-1, 0), b.n.Deliver(nil, 9), b.deliver(who(ping, 3), 9), b.n.Do(node.Command{Kind: doOffset}, 9), b.n.Do(node.Command{}, -1)} {
			wantSame(t, what+": stopped", a, node.Answer{E: api.ErrDown})
		}
		if !b.n.Stopped() {
			t.Fatalf("%s: it isn't stopped", what)
		}
		if b.d.Down() {
			b.d.Crash(nil)
		}
	}
}

// A vote that couldn't be kept isn't given, and a node that is started anew has not voted.
func TestVoteIsKept(t *testing.T) {
	b := third(t, 2)
	failure := wire.Packet{Kind: fail, From: 3, Epoch: 5, Config: 3, Slots: share(3), About: 1}
	b.hear(failure, 0)
	b.d.Arm(2)
	wantStopped(t, "ask", b, b.deliver(wire.Packet{Kind: ask, From: 4, Epoch: 6, Master: 1}, 0), api.ErrDown)
	b = begun(t, b.d, 2, 0)
	b.wantState(0, 5, 4, 2)
	b.hear(failure, 0)
	wantSent(t, b.hear(wire.Packet{Kind: ask, From: 4, Epoch: 6, Master: 1}, 0), "7>4", node.Event{Kind: 1, By: 2, About: 4, Epoch: 6})
	b = begun(t, b.d, 2, 0)
	b.hear(failure, 0)
	wantSent(t, b.hear(wire.Packet{Kind: ask, From: 4, Epoch: 6, Master: 1}, 0), "") // it has voted in that epoch
}

// P16.3, and Memory: what is told is new memory, and what is handed in isn't kept or changed.
func TestMemory(t *testing.T) {
	b := third(t, 2)
	b.hear(who(pong, 3, wire.Entry{ID: 1, State: 1}, wire.Entry{ID: 4, State: 1}), 0)
	b.tick(500, 0)
	bytes, _ := wire.Encode(who(ping, 3))
	was, room := string(bytes), append(bytes, 1, 2, 3)[:len(bytes)]
	b.n.Deliver(room, 1501)
	if string(room) != was || string(room[:len(room)+3]) != was+"\x01\x02\x03" {
		t.Fatal("the bytes are others")
	}
	a := b.n.Tick(1501, 0)
	must, told := b.all(), textOf(b.n.Tick(1502, 0))
	spoil := func(list []int) {
		for i := range list[:cap(list)] {
			list[:cap(list)][i] = 99
		}
	}
	for _, o := range a.Out {
		section := o.Packet.Section[:cap(o.Packet.Section)]
		for i := range section {
			section[i] = wire.Entry{ID: 99, State: 2}
		}
	}
	for _, e := range a.Events {
		spoil(e.Who)
	}
	if len(a.Events) != 2 || a.Events[0].Who[0] != 99 {
		t.Fatal(a.Events)
	}
	spoil(b.n.Late())
	spoil(b.n.Reports(1))
	members, known := b.n.Members(), b.n.State().Known
	for i := range members[:cap(members)] {
		members[:cap(members)][i].ID = 99
	}
	for i := range known[:cap(known)] {
		known[:cap(known)][i].ID = 99
	}
	wantSame(t, "all", b.all(), must)
	wantSame(t, "answer", told, textOf(node.Answer{}))
	a = b.n.Tick(2100, 0)
	wantSent(t, a, "1>1 1>3 1>4 1>5")
	a.Out[0].Packet.Section[0].ID = 98
	if a.Out[1].Packet.Section[0].ID == 98 || a.Out[2].Packet.Section[0].ID == 98 || a.Out[3].Packet.Section[0].ID == 98 {
		t.Fatal("two packets share their sections")
	}
}
