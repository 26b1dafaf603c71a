package node_test

import (
	"math"
	"testing"

	"grapevine/api"
	"grapevine/conf"
	"grapevine/node"
	"grapevine/wire"
)

// A tick pings who is due, by their ids, and the watch notes it.
func TestPings(t *testing.T) {
	b := third(t, 2)
	wantSent(t, b.tick(499, 0), "")
	a := b.tick(500, 0)
	wantSent(t, a, "1>1 1>3 1>4 1>5")
	wantSame(t, "ping", a.Out[0].Packet, wire.Packet{
		Kind: ping, From: 2, Epoch: 5, Config: 2, Slots: share(2), Section: []wire.Entry{{ID: 3}, {ID: 4}, {ID: 5}},
	})
	wantSame(t, "ping", a.Out[1].Packet.Section, []wire.Entry{{ID: 1}, {ID: 4}, {ID: 5}})
	wantSent(t, b.tick(999, 0), "")
	b.hear(who(pong, 4), 900)
	wantSent(t, b.tick(1000, 0), "1>1 1>3 1>5")
	wantSame(t, "late", b.n.Late(), []int{})
	wantSent(t, b.tick(1499, 0), "1>4")
	b.at(1501)
	wantSame(t, "late", b.n.Late(), []int{1, 3, 5}) // since the first ping
	c, e := node.Start(node.Config{ID: 2, Timeout: 2}, b.d, 0)
	if e != api.OK || len(c.Tick(0, 0).Out) != 0 || len(c.Tick(1, 0).Out) != 4 {
		t.Fatal("half of 2 is 1")
	}
}

// Behind a tick the book has let go of what doesn't count, and who is late is looked at ahead of that.
func TestTickLooks(t *testing.T) {
	b := third(t, 2)
	b.tick(999, 0)
	b.hear(who(pong, 3, wire.Entry{ID: 1, State: 1}), 0)
	wantSent(t, b.tick(2999, 0), "1>1 1>3 1>4 1>5 4>1 4>3 4>4 4>5", node.Event{Kind: 2, By: 2, About: 1, Epoch: 5, Who: []int{2, 3}})
	b = third(t, 2)
	b.tick(999, 0)
	b.hear(who(pong, 3, wire.Entry{ID: 1, State: 1}), 0)
	wantSent(t, b.tick(3000, 0), "1>1 1>3 1>4 1>5")
	b.wantMember(1, 0, 1, 0, -1)
}

// asked tells whether a tick sent an ask.
func asked(a node.Answer) bool {
	for _, o := range a.Out {
		if o.Packet.Kind == ask {
			return true
		}
	}
	return false
}

// wantStands holds that the ticks of a node don't ask up to a time, and then ask.
func (b *bench) wantStands(from, at int) {
	b.t.Helper()
	for _, now := range []int{from, (from + at) / 2, at - 1} {
		if now < at && asked(b.tick(now, 0)) {
			b.t.Fatalf("it asks at %d, want %d", now, at)
		}
	}
	if !asked(b.tick(at, 0)) {
		b.t.Fatalf("it doesn't ask at %d", at)
	}
}

// wantNoStands holds that no tick asks.
func (b *bench) wantNoStands(from, to int) {
	b.t.Helper()
	for now := from; now <= to; now += 50 {
		if asked(b.tick(now, 0)) {
			b.t.Fatalf("it asks at %d", now)
		}
	}
}

// A plan is made when a master with slots has failed: by the draw, and by how many replicas of it stand ahead.
func TestPlans(t *testing.T) {
	for draw, wait := range map[int]int{0: 500, 1: 501, 499: 999, 500: 500, 77123: 623, math.MaxInt: 500 + math.MaxInt%500, -1: 500, -77: 500, math.MinInt: 500} {
		b := third(t, 4)
		b.hear(failed(1), 100)
		b.tick(200, draw)
		b.wantStands(200, 200+wait)
	}
	for _, c := range []struct{ mine, other, wait int }{{0, 0, 500}, {1, 0, 500}, {0, 1, 1500}, {7, 7, 500}, {6, 7, 1500}} {
		b := third(t, 4)
		b.do(doOffset, c.mine, 0, 0)
		b.hear(wire.Packet{Kind: pong, From: 5, Epoch: 5, Master: 1, Offset: c.other}, 0)
		b.hear(failed(1), 100)
		b.tick(200, 0)
		b.wantStands(200, 200+c.wait)
	}
	for _, c := range []struct{ mine, other, wait int }{{0, 0, 1500}, {1, 0, 500}, {0, 1, 1500}} { // the lower id is first
		b := third(t, 5)
		b.hear(who(pong, 4), 0)
		b.do(doReplicate, 1, 0, 0)
		b.do(doOffset, c.mine, 0, 0)
		b.hear(wire.Packet{Kind: pong, From: 4, Epoch: 5, Master: 1, Offset: c.other}, 0)
		b.hear(failed(1), 100)
		b.hear(failed(4), 100) // whoever failed himself
		b.tick(200, 0)
		b.wantStands(200, 200+c.wait)
	}
}

// The last one of as many replicas as there can be waits longest.
func TestPlansLast(t *testing.T) {
	s := conf.State{ID: 16, Master: 1, Known: []conf.Known{{ID: 1}}}
	s.Table, _, _ = s.Table.Claim(1, 1, 1)
	for id := 2; id <= 15; id++ {
		s.Known = append(s.Known, conf.Known{ID: id, Master: 1})
	}
	failure := wire.Packet{Kind: fail, From: 2, Master: 1, About: 1}
	b := of(t, s)
	long, _ := node.Start(node.Config{ID: 16, Timeout: topTimeout}, b.d, 0)
	b.n = long // whose data are fresh for long
	b.hear(failure, 0)
	b.tick(0, 3)
	b.wantStands(0, 500+3+14*1000)

	b = of(t, s)
	for id := 8; id <= 15; id++ { // who follow others don't count
		b.hear(wire.Packet{Kind: pong, From: id, Master: []int{0, 2}[id%2]}, 0)
	}
	b.hear(failure, 0)
	b.tick(0, 3)
	b.hear(wire.Packet{Kind: pong, From: 7}, 0) // nor those who do so once the plan is made
	b.wantStands(0, 500+3+6*1000)
}

// Without a master that is a member, has failed, has slots, and has lately, there is no plan; nor does an older one last.
func TestNoPlan(t *testing.T) {
	for i, upset := range []func(b *bench){
		func(b *bench) {}, // all is as it must be
		func(b *bench) { b.hear(wire.Packet{Kind: pong, From: 1, Epoch: 5, Config: 1}, 300) },                    // it lost its slots, and is well
		func(b *bench) { b.hear(updated(2, 9, share(1)), 300) },                                                  // it lost its slots
		func(b *bench) { b.do(doReplicate, 2, 0, 300) },                                                          // another master
		func(b *bench) { b.hear(wire.Packet{Kind: ping, From: 1, Epoch: 5, Config: 1, Master: 4}, 300) },         // none
		func(b *bench) { b.hear(wire.Packet{Kind: ping, From: 1, Epoch: 5, Config: 1, Master: topID - 1}, 300) }, // one that isn't known
		func(b *bench) { b.do(doTakeover, 0, 0, 300) },
		func(b *bench) { b.do(doReset, 0, 0, 300) },
	} {
		b := third(t, 4)
		b.hear(failed(1), 100)
		b.tick(200, 0)
		upset(b)
		if got := asked(b.tick(700, 0)); got != (i == 0) {
			t.Fatalf("%d: asked is %v", i, got)
		}
		if i > 0 {
			b.wantNoStands(700, 6000)
		}
	}
	b := third(t, 4) // a plan that was none comes anew
	b.hear(failed(1), 100)
	b.tick(200, 0)
	b.hear(updated(2, 9, share(1)), 300)
	b.tick(400, 0)
	b.hear(updated(1, 10, share(1)), 500)
	b.tick(650, 0)
	b.wantStands(700, 1150)
	for _, self := range []int{1, 2, 3} { // masters don't stand
		b := third(t, self)
		b.hear(wire.Packet{Kind: fail, From: 4, Epoch: 5, Master: 1, About: self%3 + 1}, 0)
		b.wantNoStands(0, 6000)
	}
}

// A replica's data are fresh for ten timeouts.
func TestFresh(t *testing.T) {
	for last, must := range map[int]bool{10100: true, 10101: false} {
		b := third(t, 4)
		b.hear(failed(1), 100)
		b.tick(9000, 0) // a plan for 9500
		if got := asked(b.tick(last, 0)); got != must {
			t.Fatalf("at %d asked is %v", last, got)
		}
		b = third(t, 4)
		b.hear(failed(1), 100)
		b.tick(last, 0)
		if got := asked(b.tick(last+500, 0)); got {
			t.Fatal("the data are too old")
		}
	}
}

// To stand: in the next epoch, which is kept, with all owners for voters; and once more behind four timeouts.
func TestStands(t *testing.T) {
	b := third(t, 4)
	b.do(doForget, 3, 0, 0)
	b.do(doMeet, 7, 0, 0)
	b.do(doOffset, 9, 0, 0)
	b.hear(wire.Packet{Kind: pong, From: 2, Epoch: 5, Config: 5, Slots: share(2) | share(3)}, 0)
	b.hear(wire.Packet{Kind: fail, From: 2, Epoch: 5, Config: 5, Slots: share(2) | share(3), About: 1}, 100)
	b.tick(600, 0)
	a := b.tick(1100, 0)
	wantSent(t, a, "1>1 1>2 1>5 1>7 6>1 6>2")
	wantSame(t, "ask", a.Out[4].Packet, wire.Packet{Kind: ask, From: 4, Epoch: 6, Master: 1, Offset: 9})
	wantSame(t, "ask", a.Out[5].Packet, a.Out[4].Packet)
	b.wantState(1, 6, 4, 0)
	b.wantStands(1101, 5100)
	b.wantState(1, 7, 4, 0)
	b.wantStands(5101, 9100)
	b.wantState(1, 8, 4, 0)
	b.wantNoStands(9101, 20000)

	b = third(t, 4) // owners that are no members aren't asked, but are voters
	s := b.n.State()
	s.Table, _, _ = s.Table.Claim(4, 9, 1)
	b = of(t, s)
	b.hear(failed(1), 100)
	b.tick(100, 0)
	wantSent(t, b.tick(600, 0), "1>1 1>2 1>3 1>5 6>1 6>2 6>3")
	b.hear(acks(1, 6), 600)
	wantSent(t, b.hear(acks(2, 6), 600), "") // two of four
	wantSent(t, b.hear(acks(3, 6), 600), "2>1 2>2 2>3 2>5", node.Event{Kind: 3, By: 4, About: 1, Epoch: 6, Who: []int{1, 2, 3, 4}})

	s = thirds(4, 5) // at the greatest epoch nothing happens
	s.Epochs.Current = topEpoch - 1
	b = of(t, s)
	b.hear(failed(1), 0)
	b.tick(0, 0)
	b.wantStands(0, 500)
	b.wantState(1, topEpoch, 4, 0)
	b.wantNoStands(501, 12000)
	b.wantState(1, topEpoch, 4, 0)
}

// While the ballot stands the node doesn't stand once more, whatever its plan.
func TestStandsOnce(t *testing.T) {
	b := stands(t) // from 600 to 2600
	b.do(doReplicate, 2, 0, 600)
	b.do(doReplicate, 1, 0, 600) // which lets go of the plan
	b.tick(700, 0)               // a new one for 1200
	b.wantNoStands(1200, 2600)
	b.wantStands(2601, 2601)
	b.wantState(1, 7, 4, 0)

	b = stands(t)
	b.do(doTakeover, 0, 0, 700) // which ends the stand
	b.wantState(0, 7, 4, 7)
	b.hear(wire.Packet{Kind: pong, From: 1, Epoch: 9, Config: 9, Slots: share(1)}, 700)
	b.wantState(1, 9, 4, 7)
	b.hear(failed(1), 700)
	b.tick(700, 0)
	b.wantStands(701, 1200)
}

// Behind a reset nothing is left of a stand.
func TestResetEndsStand(t *testing.T) {
	b := stands(t)
	b.do(doReset, 0, 0, 700)
	for id := 1; id <= 3; id++ {
		b.do(doMeet, id, 0, 700)
		wantSent(t, b.hear(acks(id, 6), 700), "")
	}
	b.wantState(0, 6, 4, 0)
}
