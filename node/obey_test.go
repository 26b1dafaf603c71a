package node_test

import (
	"math"
	"testing"

	"grapevine/api"
	"grapevine/conf"
	"grapevine/disk"
	"grapevine/epoch"
	"grapevine/node"
	"grapevine/slots"
	"grapevine/wire"
)

// The chapter's example, and meet with all that the roster says.
func TestMeetCommand(t *testing.T) {
	b := begun(t, disk.New(api.MaxDisk), 1, 0)
	a := b.do(doMeet, 2, 0, 0)
	wantSame(t, "answer", a, node.Answer{Out: []node.Out{{To: 2, Packet: wire.Packet{Kind: meet, From: 1}}}})
	b.wantMember(2, 0, 0, 0, -1)
	a = b.do(doMeet, topID, 0, 100)
	wantSame(t, "section", a.Out[0].Packet.Section, []wire.Entry{{ID: 2}})
	for _, id := range noIDs {
		b.refusesTo(doMeet, id, 0, 100, api.ErrForm)
	}
	b.refusesTo(doMeet, 1, 0, 100, api.ErrSelf)
	b.refusesTo(doMeet, 2, 0, 100, api.ErrKnown)
	b.do(doForget, 2, 0, 100)
	b.refusesTo(doMeet, 2, 0, 60100, api.ErrBanned)
	b.do(doMeet, 2, 0, 60101)
	for id := 3; id <= 15; id++ {
		b.do(doMeet, id, 0, 60101)
	}
	b.refusesTo(doMeet, 16, 0, 60101, api.ErrFull)
	wantSent(t, b.tick(60600, 0), "1>4294967296")
	if a := b.tick(60601, 0); len(a.Out) != 14 {
		t.Fatal(a) // all others are peers since 60101
	}
}

func TestForget(t *testing.T) {
	b := third(t, 4)
	b.refusesTo(doForget, 1, 0, 0, api.ErrBusy) // its master
	for _, id := range noIDs {
		b.refusesTo(doForget, id, 0, 0, api.ErrForm)
	}
	b.refusesTo(doForget, 4, 0, 0, api.ErrSelf)
	b.refusesTo(doForget, 6, 0, 0, api.ErrNode)
	b.hear(who(pong, 3, wire.Entry{ID: 2, State: 1}, wire.Entry{ID: 1, State: 1}), 0)
	b.hear(who(pong, 2, wire.Entry{ID: 1, State: 1}, wire.Entry{ID: 3, State: 1}), 0)
	wantSent(t, b.do(doForget, 2, 0, 10), "")
	b.wantMembers(1, 3, 5)
	b.wantTable([2]int{1, 1}, [2]int{0, 0}, [2]int{3, 3})
	wantSame(t, "reports", []any{b.n.Reports(1), b.n.Reports(2), b.n.Reports(3)}, []any{[]int{3}, []int{}, []int{}})
	wantSent(t, b.tick(500, 0), "1>1 1>3 1>5")
	b.refusesTo(doForget, 2, 0, 500, api.ErrNode)
	b.refuses(who(pong, 2), 500, api.ErrNode)
	b.refuses(who(meet, 2), 60010, api.ErrBanned)
	b.hear(who(meet, 2), 60011)

	b = third(t, 2) // 0 is nobody's master
	b.refusesTo(doForget, 0, 0, 0, api.ErrForm)
	s := conf.State{ID: 2, Master: 9}
	of(t, s).refusesTo(doForget, 9, 0, 0, api.ErrBusy) // nor need it be a member
}

func TestAddDelete(t *testing.T) {
	b := third(t, 2)
	for _, set := range []slots.Set{share(1), share(2), 1, 1 << 63, 1 << 30, math.MaxUint64} {
		b.refusesTo(doAdd, 0, set, 0, api.ErrBusy)
	}
	for _, set := range []slots.Set{share(1), share(1) | share(2), 1 << 63, math.MaxUint64} {
		b.refusesTo(doDelete, 0, set, 0, api.ErrSlot)
	}
	wantSent(t, b.do(doAdd, 0, 0, 0), "")
	wantSent(t, b.do(doDelete, 0, 0, 0), "")
	b.wantTable([2]int{1, 1}, [2]int{2, 2}, [2]int{3, 3})
	wantSent(t, b.do(doDelete, 0, 1<<21|1<<41, 0), "")
	if s := b.n.State(); s.Table.Of(2) != share(2)&^(1<<21|1<<41) || s.Table.Of(0) != 1<<21|1<<41 || s.Table.Of(1) != share(1) {
		t.Fatal(s.Table)
	}
	b.refusesTo(doDelete, 0, 1<<22|1<<21, 0, api.ErrSlot)
	b.refusesTo(doAdd, 0, 1<<21|1<<22, 0, api.ErrBusy)
	b.do(doBump, 0, 0, 0)
	wantSent(t, b.do(doAdd, 0, 1<<21, 0), "")
	if s := b.n.State(); s.Table.Epoch[21] != 6 || s.Table.Owner[21] != 2 || s.Table.Of(0) != 1<<41 {
		t.Fatal(s.Table)
	}
	b.do(doDelete, 0, share(2)&^(1<<41), 0)
	b.wantTable([2]int{1, 1}, [2]int{0, 0}, [2]int{3, 3})
	b.wantState(0, 6, 4, 6)

	b = third(t, 4)
	b.refusesTo(doAdd, 0, share(1), 0, api.ErrRole) // ahead of ErrBusy
	b.refusesTo(doAdd, 0, 0, 0, api.ErrRole)
	b.refusesTo(doDelete, 0, 1, 0, api.ErrSlot)
	b.do(doDelete, 0, 0, 0)
	s := thirds(4, 5) // a replica may give up what it has all the same
	s.Table, _, _ = s.Table.Claim(4, 9, 3)
	b = of(t, s)
	b.do(doDelete, 0, 1, 0)
	if got := b.n.State().Table.Of(4); got != 2 {
		t.Fatal(got)
	}
}

func TestReplicate(t *testing.T) {
	b := third(t, 2)
	for _, id := range append([]int{2, 6}, noIDs...) {
		b.refusesTo(doReplicate, id, 0, 0, api.ErrNode)
	}
	b.refusesTo(doReplicate, 4, 0, 0, api.ErrRole) // ahead of ErrBusy
	b.refusesTo(doReplicate, 1, 0, 0, api.ErrBusy)
	b.do(doDelete, 0, share(2)&^(1<<30), 0)
	b.refusesTo(doReplicate, 1, 0, 0, api.ErrBusy)
	b.do(doDelete, 0, 1<<30, 0)
	wantSent(t, b.do(doReplicate, 1, 0, 0), "")
	b.wantState(1, 5, 4, 2)
	b.do(doReplicate, 3, 0, 0)
	b.do(doReplicate, 3, 0, 0)
	b.wantState(3, 5, 4, 2)
	s := thirds(4, 5)
	s.Table, _, _ = s.Table.Claim(4, 9, 1)
	of(t, s).refusesTo(doReplicate, 1, 0, 0, api.ErrBusy)

	b = third(t, 4) // there is no plan behind it
	b.hear(failed(1), 100)
	b.tick(100, 0)
	b.do(doReplicate, 1, 0, 200)
	b.tick(300, 0)
	b.wantStands(600, 800)
}

func TestTakeover(t *testing.T) {
	b := third(t, 2)
	b.refusesTo(doTakeover, 0, 0, 0, api.ErrRole)
	b = third(t, 4)
	b.hear(updated(1, 6, 1), 0) // a newer claim than that of the epoch 6 has
	b.hear(updated(1, 7, 2), 0)
	a := b.do(doTakeover, 0, 0, 0)
	wantSent(t, a, "2>1 2>2 2>3 2>5")
	wantSame(t, "pong", a.Out[3].Packet, wire.Packet{
		Kind: pong, From: 4, Epoch: 6, Config: 6, Slots: share(1) &^ 3, Section: []wire.Entry{{ID: 1}, {ID: 2}, {ID: 3}},
	})
	b.wantState(0, 6, 4, 6)
	b.refusesTo(doTakeover, 0, 0, 0, api.ErrRole)

	s := thirds(4, 5)
	s.Epochs.Current = topEpoch
	b = of(t, s)
	b.refusesTo(doTakeover, 0, 0, 0, api.ErrBig)
	s.Epochs.Current--
	b = of(t, s)
	b.do(doTakeover, 0, 0, 0)
	b.wantState(0, topEpoch, 4, topEpoch)
	b.wantTable([2]int{4, topEpoch}, [2]int{2, 2}, [2]int{3, 3})

	b = stands(t) // it stands no more
	b.do(doTakeover, 0, 0, 700)
	b.wantState(0, 7, 4, 7)
	b.do(doDelete, 0, share(1), 700)
	b.do(doReplicate, 2, 0, 700)
	for id := 1; id <= 3; id++ {
		if a := b.hear(acks(id, 6), 700); len(a.Events) != 0 {
			t.Fatal(a)
		}
	}
	b.wantState(2, 7, 4, 7)
}

func TestBump(t *testing.T) {
	b := third(t, 2)
	b.hear(updated(1, 9, 1<<41), 0)
	wantSent(t, b.do(doBump, 0, 0, 0), "")
	b.wantState(0, 6, 4, 6)
	if s := b.n.State(); s.Table.Epoch[21] != 6 || s.Table.Epoch[40] != 6 || s.Table.Owner[41] != 1 || s.Table.Of(2) != share(2)&^(1<<41) {
		t.Fatal(s.Table)
	}
	third(t, 4).refusesTo(doBump, 0, 0, 0, api.ErrRole)
	b.do(doDelete, 0, share(2)&^(1<<41), 0)
	b.refusesTo(doBump, 0, 0, 0, api.ErrRole)
	s := thirds(2, 5)
	s.Epochs = epoch.Epochs{Current: topEpoch, Vote: topEpoch, Config: 2}
	of(t, s).refusesTo(doBump, 0, 0, 0, api.ErrBig)
	s.Epochs = epoch.Epochs{Current: topEpoch - 1, Config: 2}
	b = of(t, s)
	b.do(doBump, 0, 0, 0)
	b.wantState(0, topEpoch, 0, topEpoch)
}

func TestOffset(t *testing.T) {
	b := third(t, 4)
	for _, offset := range []int{1, topOffset - 1, topOffset, 0, 77} {
		wantSent(t, b.do(doOffset, offset, 0, 0), "")
		if b.n.Offset() != offset {
			t.Fatal(b.n.Offset())
		}
	}
	for _, offset := range []int{math.MinInt, -topOffset, -1, topOffset + 1, math.MaxInt} {
		b.refusesTo(doOffset, offset, 0, 0, api.ErrForm)
	}
}

func TestReset(t *testing.T) {
	b := third(t, 2)
	b.do(doOffset, 7, 0, 0)
	b.do(doForget, 5, 0, 0)
	b.hear(failed(1), 0)
	b.hear(asks(6), 0)
	b.hear(who(pong, 3, wire.Entry{ID: 1, State: 1}, wire.Entry{ID: 4, State: 1}), 0)
	b.tick(500, 0)
	wantSent(t, b.do(doReset, 0, 0, 1600), "")
	wantSame(t, "state", b.n.State(), conf.State{ID: 2, Epochs: epoch.Epochs{Current: 6, Vote: 6, Config: 2}})
	wantSame(t, "members, late, reports, offset", []any{b.n.Members(), b.n.Late(), b.n.Reports(1), b.n.Reports(4), b.n.Offset()}, []any{[]int{}, []int{}, []int{}, []int{}, 7})
	wantSent(t, b.tick(9000, 0), "")
	b = third(t, 2)
	b.do(doForget, 5, 0, 0)
	b.hear(failed(1), 0)
	b.hear(asks(6), 0)
	b.hear(who(ping, 1), 0) // which speaks of two
	b.do(doReset, 0, 0, 0)
	for id := 3; id <= 5; id++ {
		b.do(doMeet, id, 0, 0) // no ban is left
	}
	b.do(doMeet, 1, 0, 0)
	b.do(doAdd, 0, 1, 0)
	b.hear(failed(1), 0)
	wantSent(t, b.hear(asks(7), 0), "7>4", node.Event{Kind: 1, By: 2, About: 4, Epoch: 7}) // nor a vote
	// The meets spoke of none, one, two and three: the cursor is 6, and of 3, 4, 5 the first one is next.
	wantSame(t, "section", b.hear(wire.Packet{Kind: ping, From: 1}, 0).Out[0].Packet.Section, []wire.Entry{{ID: 3}, {ID: 4}, {ID: 5}})

	b = third(t, 4)
	b.do(doReset, 0, 0, 0)
	b.wantState(0, 5, 4, 0)
	b.do(doReset, 0, 0, 0)
}

func TestNoCommand(t *testing.T) {
	for _, self := range []int{2, 4} {
		for _, kind := range []int{math.MinInt, -1, 0, 10, 11, 16, 257, 1<<32 + 1, math.MaxInt} {
			third(t, self).refusesTo(kind, 1, 1, 0, api.ErrKind)
		}
	}
}
