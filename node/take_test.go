package node_test

import (
	"testing"

	"grapevine/api"
	"grapevine/conf"
	"grapevine/epoch"
	"grapevine/node"
	"grapevine/slots"
	"grapevine/wire"
)

// failed is a packet fail of 3 about somebody.
func failed(about int) wire.Packet {
	p := who(fail, 3)
	p.About = about
	return p
}

// updated is a packet update of 3 about somebody.
func updated(about, config int, set slots.Set) wire.Packet {
	p := who(update, 3)
	p.About, p.AboutConfig, p.AboutSlots = about, config, set
	return p
}

// Step 1: the greater Current, and of the member its Master, the greater Config, its Offset.
func TestLearns(t *testing.T) {
	b := third(t, 2)
	p := wire.Packet{Kind: pong, From: 1, Epoch: 4, Config: 0, Offset: 7}
	b.hear(p, 0)
	b.wantState(0, 5, 4, 2)
	b.wantMember(1, 0, 1, 7, -1)
	p.Epoch, p.Config, p.Offset = 9, 8, 3
	b.hear(p, 0)
	b.wantState(0, 9, 4, 2)
	b.wantMember(1, 0, 8, 3, -1)
	b.hear(failed(1), 0)
	p.Kind, p.Master, p.Config, p.Offset = ping, 3, 0, topOffset
	b.hear(p, 5)
	b.wantMember(1, 3, 8, topOffset, 0)
	p.Kind, p.Master, p.Epoch = meet, 0, topEpoch
	if a := b.hear(p, 5); a.Out[0].Packet.Epoch != topEpoch {
		t.Fatal(a)
	}
	b.wantState(0, topEpoch, 4, 2)
	b.wantMember(1, 0, 8, topOffset, 0)
}

// Step 2 of a master: it loses what it doesn't say, and takes what it says, if nobody is newer.
func TestMasterSays(t *testing.T) {
	all := share(1) | share(2) | share(3)
	for _, c := range []struct {
		config int
		set    slots.Set
		sent   string
		table  [][2]int
	}{
		{1, share(1), "", [][2]int{{1, 1}, {2, 2}, {3, 3}}},
		{5, share(1), "", [][2]int{{1, 5}, {2, 2}, {3, 3}}},
		{0, share(1), "", [][2]int{{1, 1}, {2, 2}, {3, 3}}}, // what it has it keeps, with the greater epoch
		{5, 0, "", [][2]int{{0, 0}, {2, 2}, {3, 3}}},
		{1, share(2), "5>1", [][2]int{{0, 0}, {2, 2}, {3, 3}}},
		{3, share(3), "", [][2]int{{0, 0}, {2, 2}, {3, 3}}}, // nobody is newer than equal ones
		{4, share(3), "", [][2]int{{0, 0}, {2, 2}, {1, 4}}},
		{2, all, "5>1", [][2]int{{1, 2}, {2, 2}, {3, 3}}},
		{4, share(1) | share(2), "", [][2]int{{1, 4}, {1, 4}, {3, 3}}},
	} {
		b := third(t, 2)
		b.d.Arm(-1)
		a := b.hear(wire.Packet{Kind: pong, From: 1, Epoch: 5, Config: c.config, Slots: c.set}, 0)
		wantSent(t, a, c.sent)
		b.wantTable(c.table...)
	}
}

// Step 2 of a master: it is told of somebody newer, the lowest id, with the greatest epoch that that one has, and all its slots.
func TestTellsUpdate(t *testing.T) {
	s := thirds(2, 5)
	s.Table, _, _ = s.Table.Claim(3, 8, 1<<63)
	s.Table, _, _ = s.Table.Claim(5, 9, 1<<0)
	b := of(t, s)
	a := b.hear(wire.Packet{Kind: pong, From: 1, Epoch: 5, Config: 1, Slots: share(1) | share(3)}, 0)
	must := wire.Packet{Kind: update, From: 2, Epoch: 5, Config: 2, Slots: share(2), About: 3, AboutConfig: 8, AboutSlots: share(3)}
	wantSame(t, "update", a.Out, []node.Out{{To: 1, Packet: must}})

	a = b.hear(wire.Packet{Kind: ping, From: 1, Epoch: 6, Config: 1, Slots: 1 | 1<<21}, 0) // of self, too, and ahead of the pong
	must.Epoch, must.About, must.AboutConfig, must.AboutSlots = 6, 2, 2, share(2)
	wantSame(t, "update", a.Out[0], node.Out{To: 1, Packet: must})
	wantSent(t, a, "5>1 2>1")
	a = b.hear(wire.Packet{Kind: meet, From: 1, Epoch: 6, Config: 1, Slots: 1}, 0) // and of a replica that has slots
	must.About, must.AboutConfig, must.AboutSlots = 5, 9, 1
	wantSame(t, "update", a.Out[0], node.Out{To: 1, Packet: must})

	c := third(t, 4) // a replica tells it too
	wantSent(t, c.hear(wire.Packet{Kind: pong, From: 2, Epoch: 5, Config: 2, Slots: share(3)}, 0), "5>2")
}

// Step 2 of a master: of two with one epoch the lower id takes the next one, if it serves, and the other one has slots.
func TestYields(t *testing.T) {
	p := wire.Packet{Kind: ping, From: 3, Epoch: 7, Config: 2, Slots: share(3)}
	b := third(t, 2)
	a := b.hear(p, 0)
	if out := a.Out[0]; len(a.Out) != 1 || out.Packet.Epoch != 8 || out.Packet.Config != 8 {
		t.Fatal(a) // the pong is sent behind it
	}
	b.wantState(0, 8, 4, 8)
	b.wantTable([2]int{1, 1}, [2]int{2, 8}, [2]int{3, 3})

	b = third(t, 2) // an update goes ahead of it
	a = b.hear(wire.Packet{Kind: pong, From: 3, Epoch: 7, Config: 2, Slots: share(2) | share(3)}, 0)
	wantSent(t, a, "")
	b = third(t, 2)
	b.do(doDelete, 0, 1<<41, 0)
	b.hear(wire.Packet{Kind: pong, From: 1, Epoch: 5, Config: 5, Slots: 1<<41 | share(1)}, 0)
	a = b.hear(wire.Packet{Kind: ping, From: 3, Epoch: 7, Config: 2, Slots: 1<<41 | share(3)}, 0)
	wantSent(t, a, "5>3 2>3")
	if u := a.Out[0].Packet; u.Epoch != 7 || u.Config != 2 || u.About != 1 || a.Out[1].Packet.Config != 8 {
		t.Fatal(a)
	}

	for _, c := range []struct {
		self, from, config int
		set                slots.Set
	}{
		{2, 3, 2, 0},                   // no slots
		{2, 3, 3, share(3)},            // another epoch
		{2, 3, 1, share(3)},            // another epoch
		{2, 1, 2, share(1)},            // the greater id
		{4, 5, 0, share(1) | share(3)}, // self is a replica
	} {
		b := third(t, c.self)
		was := b.n.State().Epochs
		b.hear(wire.Packet{Kind: pong, From: c.from, Epoch: 5, Config: c.config, Slots: c.set}, 0)
		wantSame(t, "epochs", b.n.State().Epochs, was)
	}
	b = third(t, 2)
	b.do(doDelete, 0, share(2), 0)
	b.hear(p, 0) // self has no slots
	b.wantState(0, 7, 4, 2)
	b = third(t, 2)
	p.Epoch = topEpoch
	b.hear(p, 0) // there is no next one
	b.wantState(0, topEpoch, 4, 2)
	b.wantTable([2]int{1, 1}, [2]int{2, 2}, [2]int{3, 3})
	p.Epoch--
	b = third(t, 2)
	b.hear(p, 0)
	b.wantState(0, topEpoch, 4, topEpoch)
}

// Step 2 of a replica: it has no slots, and whom its replicas follow is its master.
func TestReplicaSays(t *testing.T) {
	b := third(t, 2)
	wantSent(t, b.hear(wire.Packet{Kind: pong, From: 1, Epoch: 5, Config: 5, Master: 3}, 0), "")
	b.wantTable([2]int{0, 0}, [2]int{2, 2}, [2]int{3, 3})
	b.wantState(0, 5, 4, 2)

	b = third(t, 4)
	b.hear(wire.Packet{Kind: pong, From: 2, Epoch: 5, Master: 3}, 0) // who isn't its master
	b.wantState(1, 5, 4, 0)
	b.hear(wire.Packet{Kind: pong, From: 1, Epoch: 5, Master: 3}, 0)
	b.wantState(3, 5, 4, 0)
	b.wantTable([2]int{0, 0}, [2]int{0, 0}, [2]int{3, 3})
	b.hear(wire.Packet{Kind: pong, From: 3, Epoch: 5, Master: topID}, 0) // whom it doesn't know
	b.wantState(topID, 5, 4, 0)

	b = third(t, 4)
	b.hear(wire.Packet{Kind: pong, From: 1, Epoch: 5, Master: 4}, 0) // who follows it
	b.wantState(0, 5, 4, 0)
	b.do(doAdd, 0, share(1), 0)
	b.wantTable([2]int{4, 0}, [2]int{2, 2}, [2]int{3, 3})
}

// To take slots over: who loses its last slot follows who has it, and has no plan.
func TestTakesOver(t *testing.T) {
	b := third(t, 2)
	b.hear(wire.Packet{Kind: pong, From: 1, Epoch: 5, Config: 5, Slots: share(1) | share(2)&^(1<<30)}, 0)
	b.wantState(0, 5, 4, 2) // one is left
	a := b.hear(wire.Packet{Kind: ping, From: 3, Epoch: 6, Config: 6, Slots: share(3) | 1<<30}, 0)
	b.wantState(3, 6, 4, 2)
	if p := a.Out[0].Packet; p.Master != 3 || p.Slots != 0 {
		t.Fatal(a)
	}
	b.do(doReplicate, 1, 0, 0)
	b.hear(wire.Packet{Kind: ping, From: 3, Epoch: 7, Config: 7, Slots: share(2) | share(3)}, 0)
	b.wantState(1, 7, 4, 2) // it had none

	b = third(t, 2) // whoever takes it, also by an update
	b.hear(updated(1, 9, share(2)), 0)
	b.wantState(1, 5, 4, 2)
	b.wantTable([2]int{1, 1}, [2]int{1, 9}, [2]int{3, 3})
	b.wantMember(1, 0, 9, 0, -1)

	b = third(t, 2) // and not, if nobody has them
	b.do(doDelete, 0, share(2), 0)
	b.hear(updated(1, 9, share(2)), 0)
	b.wantState(0, 5, 4, 2)

	s := thirds(4, 5) // a plan to stand at 600 is none any more, so that the next one is 700
	s.Table, _, _ = s.Table.Claim(4, 4, 1<<21)
	b = of(t, s)
	b.do(doOffset, 1, 0, 100)
	b.hear(failed(1), 100)
	b.tick(100, 0)
	b.hear(updated(2, 5, share(2)), 200)
	b.wantState(2, 5, 4, 0)
	b.hear(wire.Packet{Kind: pong, From: 2, Epoch: 5, Config: 5, Master: 1}, 200)
	b.wantState(1, 5, 4, 0)
	b.tick(200, 0)
	wantSent(t, b.tick(699, 0), "1>1 1>3 1>5")
	wantSent(t, b.tick(700, 0), "1>2 6>1 6>3")
}

// Step 3: who isn't known, and is well, is taken up.
func TestSectionsTakeUp(t *testing.T) {
	for _, from := range []int{1, 5} { // of a replica too
		b := third(t, 2)
		b.hear(who(ping, from, wire.Entry{ID: 7}, wire.Entry{ID: 8, State: 1}, wire.Entry{ID: 9, State: 2}), 100)
		b.hear(who(meet, from, wire.Entry{ID: 2}, wire.Entry{ID: topID}), 100)
		b.wantMembers(1, 3, 4, 5, 7, topID)
		b.wantMember(7, 0, 0, 0, -1)
		wantSent(t, b.tick(599, 0), "1>1 1>3 1>4 1>5")
		wantSent(t, b.tick(600, 0), "1>7 1>4294967296") // peers since 100
	}
	b := third(t, 2)
	b.do(doForget, 4, 0, 0)
	b.hear(who(pong, 1, wire.Entry{ID: 4}), 60000)
	b.wantMembers(1, 3, 5)
	b.hear(who(pong, 1, wire.Entry{ID: 4, State: 1}), 60001)
	b.wantMembers(1, 3, 5)
	b.hear(who(pong, 1, wire.Entry{ID: 4}), 60001)
	b.wantMembers(1, 3, 4, 5)
	for id := 6; id <= 16; id++ {
		b.hear(who(pong, 1, wire.Entry{ID: id}), 60001)
	}
	wantSent(t, b.hear(who(pong, 1, wire.Entry{ID: 17}, wire.Entry{ID: 18}), 60001), "")
	b.wantMembers(1, 3, 4, 5, 6, 7, 8, 9, 10, 11, 12, 13, 14, 15, 16)
}

// Step 3: masters that are servers report members, and take reports back.
func TestSectionsReport(t *testing.T) {
	b := third(t, 2)
	reports := func(about int, must ...int) {
		t.Helper()
		wantSame(t, "reports", b.n.Reports(about), must)
	}
	b.hear(who(pong, 3, wire.Entry{ID: 1, State: 1}, wire.Entry{ID: 4, State: 2}, wire.Entry{ID: 2, State: 2}), 0)
	b.hear(who(ping, 1, wire.Entry{ID: 4, State: 1}, wire.Entry{ID: 5}), 10)
	reports(1, 3)
	reports(4, 1, 3)
	reports(2)
	b.hear(who(meet, 3, wire.Entry{ID: 4}, wire.Entry{ID: 5, State: 1}), 20)
	reports(4, 1)
	reports(5, 3)

	b.hear(who(pong, 5, wire.Entry{ID: 3, State: 1}, wire.Entry{ID: 4}), 20) // a replica's don't count
	reports(3)
	reports(4, 1)
	b.hear(wire.Packet{Kind: pong, From: 1, Epoch: 5, Config: 1, Section: []wire.Entry{{ID: 3, State: 2}, {ID: 4}}}, 20) // nor those of who has no slots
	reports(3)
	reports(4, 1)
	b.hear(wire.Packet{Kind: pong, From: 1, Epoch: 5, Config: 1, Slots: share(3), Section: []wire.Entry{{ID: 3, State: 2}, {ID: 4}}}, 20) // nor if it has them by its own word alone
	reports(3)
	reports(4, 1)
	b.hear(wire.Packet{Kind: pong, From: 1, Epoch: 5, Config: 1, Slots: 1, Section: []wire.Entry{{ID: 3, State: 2}, {ID: 4}}}, 20)
	reports(3, 1)
	reports(4)
	b.hear(wire.Packet{Kind: pong, From: 5, Epoch: 5, Slots: 2, Section: []wire.Entry{{ID: 3, State: 1}}}, 20) // a slot that nobody had makes it a server
	reports(3, 1, 5)

	b.tick(2020, 0)
	reports(3, 1, 5)
	reports(5, 3)
	b.tick(2021, 0)
	reports(3)
	reports(5)
}

// Step 3: a report counts from its last time on, for twice the timeout.
func TestReportsCount(t *testing.T) {
	for _, c := range []struct {
		at     int
		failed bool
	}{{200, false}, {201, true}} {
		b := third(t, 2)
		b.tick(1200, 0)
		b.hear(who(pong, 3, wire.Entry{ID: 1, State: 1}), 1200)
		b.at(2200)
		if c.failed {
			b.hear(who(pong, 3, wire.Entry{ID: 1, State: 1}), 2200)
		}
		wantSame(t, "failed", b.member(1).FailAt != -1, false)
		b.tick(3201, 0)
		wantSame(t, "failed", b.member(1).FailAt != -1, c.failed)
	}
}

// To look at a member: whom more than half of the servers miss has failed; all are told.
func TestLooks(t *testing.T) {
	report := who(pong, 3, wire.Entry{ID: 1, State: 1})
	event := node.Event{Kind: 2, By: 2, About: 1, Epoch: 5, Who: []int{2, 3}}
	b := third(t, 2)
	b.tick(500, 0)
	wantSent(t, b.hear(report, 1500), "") // it isn't late
	b.wantMember(1, 0, 1, 0, -1)
	a := b.hear(report, 1501)
	wantSent(t, a, "4>1 4>3 4>4 4>5", event)
	for _, o := range a.Out {
		wantSame(t, "fail", o.Packet, wire.Packet{Kind: fail, From: 2, Epoch: 5, Config: 2, Slots: share(2), About: 1})
	}
	b.wantMember(1, 0, 1, 0, 1501)
	wantSent(t, b.hear(report, 1502), "") // it has failed already
	wantSent(t, b.tick(1600, 0), "1>1 1>4 1>5")
	b.wantMember(1, 0, 1, 0, 1501)

	b = third(t, 2) // a tick looks too, by the reports that there are
	b.hear(report, 500)
	b.tick(500, 0)
	wantSent(t, b.tick(1500, 0), "1>1 1>3 1>4 1>5")
	wantSent(t, b.tick(1501, 0), "4>1 4>3 4>4 4>5", event)

	b = third(t, 2) // pings first, then looks, by their ids
	b.tick(500, 0)
	b.hear(who(pong, 1, wire.Entry{ID: 5, State: 1}, wire.Entry{ID: 4, State: 2}), 500)
	wantSent(t, b.tick(1501, 0), "1>1 1>3 1>4 1>5 4>1 4>3 4>4 4>5 4>1 4>3 4>4 4>5",
		node.Event{Kind: 2, By: 2, About: 4, Epoch: 5, Who: []int{1, 2}}, node.Event{Kind: 2, By: 2, About: 5, Epoch: 5, Who: []int{1, 2}})
}

// To look at a member: more than half of all servers, self only if it serves, others not.
func TestLooksHalf(t *testing.T) {
	b := third(t, 4) // a replica
	b.tick(500, 0)
	wantSent(t, b.hear(who(pong, 3, wire.Entry{ID: 1, State: 2}), 1501), "")
	wantSent(t, b.hear(who(pong, 2, wire.Entry{ID: 1, State: 2}), 1501), "4>1 4>2 4>3 4>5", node.Event{Kind: 2, By: 4, About: 1, Epoch: 5, Who: []int{2, 3}})

	b = third(t, 2) // two of four aren't more than half
	b.hear(wire.Packet{Kind: pong, From: 1, Epoch: 5, Config: 1, Slots: share(1) &^ 1}, 0)
	b.hear(wire.Packet{Kind: pong, From: 5, Epoch: 5, Slots: 1}, 0)
	b.tick(500, 0)
	wantSent(t, b.hear(who(pong, 3, wire.Entry{ID: 4, State: 2}), 1501), "")
	a := b.hear(wire.Packet{Kind: pong, From: 5, Epoch: 5, Slots: 1, Section: []wire.Entry{{ID: 4, State: 2}}}, 1501)
	wantSent(t, a, "4>1 4>3 4>4 4>5", node.Event{Kind: 2, By: 2, About: 4, Epoch: 5, Who: []int{2, 3, 5}})

	b = third(t, 2) // whoever reported, and has no slots any more
	b.hear(who(pong, 3, wire.Entry{ID: 1, State: 2}), 0)
	b.hear(wire.Packet{Kind: pong, From: 3, Epoch: 5, Config: 3}, 0)
	b.tick(500, 0)
	wantSent(t, b.tick(999, 0), "")
	b.hear(who(pong, 5), 999)
	wantSent(t, b.tick(1501, 0), "1>1 1>3 1>4 1>5")
	b.wantMember(1, 0, 1, 0, -1)

	b = begun(t, third(t, 2).d, 2, 0) // nobody has slots: nobody fails
	for id := 1; id <= 3; id += 2 {
		b.hear(wire.Packet{Kind: pong, From: id, Epoch: 5}, 0)
	}
	b.do(doDelete, 0, share(2), 0)
	b.tick(500, 0)
	wantSent(t, b.tick(1501, 0), "1>1 1>3 1>4 1>5")

	b = of(t, conf.State{ID: 2, Known: []conf.Known{{ID: 1}}, Epochs: epoch.Epochs{}}) // who alone has slots needs no other one
	b.do(doAdd, 0, 1, 0)
	b.tick(500, 0)
	wantSent(t, b.tick(1501, 0), "1>1 4>1", node.Event{Kind: 2, By: 2, About: 1, Who: []int{2}})
}

// Step 4: a ping and a meet are answered by a pong, others aren't.
func TestPongs(t *testing.T) {
	for kind, must := range map[int]string{ping: "2>3", meet: "2>3", pong: "", ask: "", ack: ""} {
		wantSent(t, third(t, 2).hear(who(kind, 3), 0), must)
	}
	wantSent(t, third(t, 2).hear(failed(4), 0), "")
	wantSent(t, third(t, 2).hear(updated(4, 0, 0), 0), "")
	wantSent(t, third(t, 2).hear(who(ping, 5), 0), "2>5")
}

// Step 4: a pong, and nothing else, is an answer.
func TestHeard(t *testing.T) {
	b := third(t, 2)
	b.tick(500, 0)
	for _, p := range []wire.Packet{who(ping, 3), who(meet, 3), failed(9), updated(9, 0, 0), who(ask, 3), who(ack, 3)} {
		b.hear(p, 1501)
	}
	wantSame(t, "late", b.n.Late(), []int{1, 3, 4, 5})
	b.hear(who(pong, 3), 1501)
	wantSame(t, "late", b.n.Late(), []int{1, 4, 5})
	wantSent(t, b.tick(2000, 0), "1>1 1>4 1>5")
	wantSent(t, b.tick(2001, 0), "1>3") // which was heard at 1501
}

// Step 4: a pong of who has failed: without slots it is well at once, with some only behind twice the timeout.
func TestComesBack(t *testing.T) {
	b := third(t, 2)
	b.hear(failed(4), 100)
	b.hear(failed(1), 100)
	b.hear(who(ping, 4), 100)
	b.hear(who(meet, 4), 100)
	b.wantMember(4, 1, 0, 0, 100)
	b.hear(who(pong, 4), 100)
	b.wantMember(4, 1, 0, 0, -1)
	b.hear(who(pong, 1), 2100)
	b.wantMember(1, 0, 1, 0, 100)
	b.hear(who(ping, 1), 2101)
	b.wantMember(1, 0, 1, 0, 100)
	b.hear(who(pong, 1), 2101)
	b.wantMember(1, 0, 1, 0, -1)
	b.hear(failed(1), 2101)
	b.hear(wire.Packet{Kind: pong, From: 1, Epoch: 5, Config: 1, Slots: share(3)}, 2102) // which lost all
	b.wantMember(1, 0, 1, 0, -1)
	b.hear(failed(4), 2102)
	b.hear(wire.Packet{Kind: pong, From: 4, Epoch: 5, Slots: share(1)}, 2103) // which has some now
	b.wantMember(4, 0, 0, 0, 2102)
}

// Step 4: a packet fail about a member that hasn't failed.
func TestHearsFail(t *testing.T) {
	b := third(t, 2)
	b.hear(failed(1), 100)
	b.hear(failed(1), 200)
	b.wantMember(1, 0, 1, 0, 100)
	was := b.all()
	b.hear(failed(2), 200)
	b.hear(failed(9), 200)
	wantSame(t, "all", b.all(), was)
	p := who(fail, 5) // of a replica, about itself
	p.About = 5
	b.hear(p, 300)
	b.wantMember(5, 2, 0, 0, 300)
}

// Step 4: a packet update about a member.
func TestHearsUpdate(t *testing.T) {
	b := third(t, 2)
	was := b.all()
	b.hear(updated(9, 9, share(1)), 0)
	b.hear(updated(2, 9, share(1)), 0) // self
	wantSame(t, "all", b.all(), was)
	b.hear(updated(4, 2, share(1)), 0)
	b.wantMember(4, 1, 2, 0, -1)
	b.wantTable([2]int{4, 2}, [2]int{2, 2}, [2]int{3, 3})
	b.hear(updated(4, 1, 0), 0) // which keeps the greater Config, and drops nothing
	b.wantMember(4, 1, 2, 0, -1)
	b.wantTable([2]int{4, 2}, [2]int{2, 2}, [2]int{3, 3})
	b.hear(updated(4, 3, share(3)), 0)
	b.wantMember(4, 1, 3, 0, -1)
	b.wantTable([2]int{4, 2}, [2]int{2, 2}, [2]int{3, 3}) // as 3 has them with 3
	b.hear(updated(1, topEpoch, share(1)), 0)
	b.wantMember(1, 0, topEpoch, 0, -1)
	b.wantTable([2]int{1, topEpoch}, [2]int{2, 2}, [2]int{3, 3})
	b.wantState(0, 5, 4, 2)
}

// asks is an ask of 4, a replica of 1, in an epoch.
func asks(epoch int) wire.Packet {
	p := who(ask, 4)
	p.Epoch = epoch
	return p
}

// An ask is granted once all is right, once in an epoch, and once in twice the timeout.
func TestAsk(t *testing.T) {
	vote := func(epoch int) node.Event { return node.Event{Kind: 1, By: 2, About: 4, Epoch: epoch} }
	b := third(t, 2)
	wantSent(t, b.hear(asks(6), 0), "") // its master hasn't failed
	b.hear(failed(1), 0)
	wantSent(t, b.hear(asks(5), 0), "") // there is a greater epoch by now
	b.wantState(0, 6, 4, 2)
	a := b.hear(asks(6), 100)
	wantSent(t, a, "7>4", vote(6))
	wantSame(t, "ack", a.Out[0].Packet, wire.Packet{Kind: ack, From: 2, Epoch: 6, Config: 2, Slots: share(2)})
	b.wantState(0, 6, 6, 2)
	wantSent(t, b.hear(asks(6), 100), "")
	wantSent(t, b.hear(asks(7), 2100), "") // too early
	b.wantState(0, 7, 6, 2)
	wantSent(t, b.hear(asks(6), 2101), "")
	wantSent(t, b.hear(asks(7), 2101), "7>4", vote(7))
	b.hear(failed(3), 2101)
	other := wire.Packet{Kind: ask, From: 5, Epoch: 8, Master: 3}
	wantSent(t, b.hear(other, 2102), "7>5", node.Event{Kind: 1, By: 2, About: 5, Epoch: 8}) // that was for another master
	other.Epoch = 4
	wantSent(t, b.hear(other, 9000), "")
	b.wantState(0, 8, 8, 2)
}

// An ask isn't granted by who doesn't serve, or to who follows nobody, self, or who isn't known.
func TestAskRefused(t *testing.T) {
	for _, c := range []struct {
		self int
		ask  wire.Packet
	}{
		{5, asks(6)},
		{2, wire.Packet{Kind: ask, From: 4, Epoch: 6}},
		{2, wire.Packet{Kind: ask, From: 4, Epoch: 6, Master: 2}},
		{2, wire.Packet{Kind: ask, From: 4, Epoch: 6, Master: 9}},
		{2, wire.Packet{Kind: ask, From: 4, Epoch: 6, Master: 3}},
	} {
		b := third(t, c.self)
		b.hear(failed(1), 0)
		wantSent(t, b.hear(c.ask, 0), "")
		b.wantState(b.n.State().Master, 6, 4, b.n.State().Epochs.Config)
	}
	b := third(t, 2)
	b.hear(failed(1), 0)
	b.do(doDelete, 0, share(2), 0)
	wantSent(t, b.hear(asks(6), 0), "")
	b.do(doAdd, 0, share(2), 0)
	b.hear(wire.Packet{Kind: pong, From: 1, Epoch: 5, Config: 1}, 0) // who has failed is well, as it has no slots
	wantSent(t, b.hear(asks(6), 0), "")
	b.hear(failed(1), 0)
	wantSent(t, b.hear(asks(6), 0), "7>4", node.Event{Kind: 1, By: 2, About: 4, Epoch: 6}) // whoever has no slots may have failed
}

// stands is the node 4, that stands in the epoch 6 for the place of 1 with the voters 1, 2, 3, from 600 to 2600.
func stands(t *testing.T) *bench {
	t.Helper()
	b := third(t, 4)
	b.hear(failed(1), 100)
	b.tick(100, 0)
	wantSent(t, b.tick(600, 0), "1>1 1>2 1>3 1>5 6>1 6>2 6>3")
	b.wantState(1, 6, 4, 0)
	return b
}

// acks is the vote of somebody in an epoch.
func acks(from, epoch int) wire.Packet {
	p := who(ack, from)
	p.Epoch = epoch
	return p
}

// Who has the votes of more than half takes its master's place.
func TestWins(t *testing.T) {
	b := stands(t)
	for _, p := range []wire.Packet{acks(2, 6), acks(2, 6), acks(5, 6), acks(3, 5), acks(3, 7), who(pong, 3)} {
		wantSent(t, b.hear(p, 700), "")
	}
	b.wantState(1, 7, 4, 0)
	a := b.hear(acks(3, 6), 2600)
	wantSent(t, a, "2>1 2>2 2>3 2>5", node.Event{Kind: 3, By: 4, About: 1, Epoch: 6, Who: []int{1, 2, 3}})
	wantSame(t, "pong", a.Out[0].Packet, wire.Packet{Kind: pong, From: 4, Epoch: 7, Config: 6, Slots: share(1), Section: a.Out[0].Packet.Section})
	if len(a.Out[0].Packet.Section) != 3 || isSame(a.Out[0].Packet.Section, a.Out[1].Packet.Section) {
		t.Fatal(a)
	}
	b.wantState(0, 7, 4, 6)
	b.wantTable([2]int{4, 6}, [2]int{2, 2}, [2]int{3, 3})
	wantSent(t, b.hear(acks(1, 6), 2600), "5>1") // it is won once, and the old master is told so
	b = stands(t)
	b.hear(acks(2, 6), 2600)
	wantSent(t, b.hear(acks(3, 6), 2601), "") // too late
}

// Winning: the slots are those that the old master has then, as far as its claims are older; and its plan is none.
func TestWinsWhatIsLeft(t *testing.T) {
	b := stands(t)
	b.hear(updated(1, 6, 1), 700)
	b.hear(updated(3, 6, 2), 700)
	b.hear(acks(2, 6), 700)
	b.hear(acks(3, 6), 700) // whose packet says that it hasn't the slot 1
	if s := b.n.State(); s.Table.Owner[0] != 1 || s.Table.Owner[1] != 0 || s.Table.Of(4) != share(1)&^3 {
		t.Fatal(s.Table)
	}
	b.hear(wire.Packet{Kind: pong, From: 1, Epoch: 9, Config: 9, Slots: share(1)}, 700)
	b.wantState(1, 9, 4, 6) // it follows it once more
	b.hear(failed(1), 700)
	b.tick(700, 0) // and the plan is a new one: 1200, and not 4600
	wantSent(t, b.tick(1199, 0), "1>2 1>3 1>5")
	wantSent(t, b.tick(1200, 0), "1>1 6>1 6>2 6>3")
	b.wantState(1, 10, 4, 6)
}

// Winning without a master: what nobody has is claimed.
func TestWinsAlone(t *testing.T) {
	b := stands(t)
	b.hear(acks(2, 6), 700)
	b.hear(wire.Packet{Kind: pong, From: 1, Epoch: 6, Config: 1, Master: 4}, 700)
	b.wantState(0, 6, 4, 0)
	b.wantTable([2]int{0, 0}, [2]int{2, 2}, [2]int{3, 3})
	wantSent(t, b.hear(acks(3, 6), 700), "2>1 2>2 2>3 2>5", node.Event{Kind: 3, By: 4, Epoch: 6, Who: []int{1, 2, 3}})
	b.wantTable([2]int{4, 6}, [2]int{2, 2}, [2]int{3, 3})

	b = stands(t) // what it would win is older than what it has: nothing happens
	b.hear(acks(2, 6), 700)
	b.hear(wire.Packet{Kind: pong, From: 1, Epoch: 6, Config: 1, Master: 4}, 700)
	b.do(doAdd, 0, 1, 700)
	b.do(doBump, 0, 0, 700)
	was := b.all()
	wantSent(t, b.hear(acks(3, 6), 700), "")
	wantSame(t, "all", b.all(), was)
	b.hear(acks(1, 6), 700)
	b.wantState(0, 7, 4, 7)
	wantSame(t, "errors", b.n.Deliver(nil, 700).E, api.ErrEnd)
}
