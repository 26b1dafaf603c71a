package cluster_test

import (
	"bytes"
	"fmt"
	"math"
	"slices"
	"testing"

	"grapevine/api"
	"grapevine/claims"
	"grapevine/cluster"
	"grapevine/net"
	"grapevine/node"
	"grapevine/slots"
	"grapevine/wire"
)

// The kinds of ops, as the chapter numbers them.
const (
	deliver = iota + 1
	drop
	double
	tick
	order
	arm
	off
	on
	inject
)

// numbers are numbers that hardly anything may be, and some that many things may be.
var numbers = []int{math.MinInt, math.MinInt + 1, -1 << 40, -1000, -9, -2, -1, 0, 1, 2, 7, 8, 9, 10, 1000, 1 << 20, 1<<20 + 1, 1 << 32, 1<<32 + 1, 1 << 38, math.MaxInt - 1, math.MaxInt}

// clusterOf is a new cluster of these ids.
func clusterOf(t *testing.T, timeout int, ids ...int) *cluster.Cluster {
	t.Helper()
	c, e := cluster.New(cluster.Setup{IDs: ids, Timeout: timeout})
	if e != api.OK || c == nil {
		t.Fatalf("%v, %d: %d", ids, timeout, e)
	}
	return c
}

// sameEvents tells whether two lists have the same events.
func sameEvents(a, b []node.Event) bool {
	return slices.EqualFunc(a, b, func(v, u node.Event) bool {
		return v.Kind == u.Kind && v.By == u.By && v.About == u.About && v.Epoch == u.Epoch && slices.Equal(v.Who, u.Who)
	})
}

// want holds what an op is answered, and that its events come behind all events.
func want(t *testing.T, c *cluster.Cluster, o cluster.Op, e api.Errno, reply string, events ...node.Event) {
	t.Helper()
	ahead := c.Events()
	if a := c.Play(o); a.E != e || a.Reply != reply || !sameEvents(a.Events, events) {
		t.Fatalf("%+v: %+v, not %d, %q, %+v", o, a, e, reply, events)
	}
	if all := c.Events(); !sameEvents(all, append(ahead, events...)) {
		t.Fatalf("%+v: %+v is not %+v and %+v", o, all, ahead, events)
	}
}

// wantLine holds what a line is answered.
func wantLine(t *testing.T, c *cluster.Cluster, at int, line string, e api.Errno, reply string) {
	t.Helper()
	want(t, c, cluster.Op{Kind: order, Node: at, Line: line}, e, reply)
}

// wantTick holds what a tick is answered, and the clock behind it.
func wantTick(t *testing.T, c *cluster.Cluster, at, ms int, e api.Errno, clock int) {
	t.Helper()
	want(t, c, cluster.Op{Kind: tick, Node: at, N: ms}, e, "")
	wantClock(t, c, at, clock)
}

// wantClock holds a node's clock.
func wantClock(t *testing.T, c *cluster.Cluster, at, clock int) {
	t.Helper()
	if got := c.Clock(at); got != clock {
		t.Fatalf("the clock of %d is at %d, not %d", at, got, clock)
	}
}

// brief tells from whom to whom a message is, and its packet's kind, or its bytes, if they are no packet's.
func brief(m net.Message) string {
	p, e := wire.Decode(m.Data)
	if e != api.OK {
		return fmt.Sprintf("%d>%d %s", m.From, m.To, m.Data)
	}
	kinds := []string{"", "ping", "pong", "meet", "fail", "update", "ask", "ack"}
	return fmt.Sprintf("%d>%d %s", m.From, m.To, kinds[p.Kind])
}

// wantUnder holds what is under way.
func wantUnder(t *testing.T, c *cluster.Cluster, must ...string) {
	t.Helper()
	var got []string
	for _, m := range c.Net().List() {
		got = append(got, brief(m))
	}
	if !slices.Equal(got, must) {
		t.Fatalf("%q are under way, not %q", got, must)
	}
}

// wantMembers holds whom a node knows.
func wantMembers(t *testing.T, c *cluster.Cluster, at int, must ...int) {
	t.Helper()
	var got []int
	for _, m := range c.Node(at).Members() {
		got = append(got, m.ID)
	}
	if !slices.Equal(got, must) {
		t.Fatalf("%d knows %v, not %v", at, got, must)
	}
}

// put puts texts under way, all to an id.
func put(t *testing.T, c *cluster.Cluster, to int, texts ...string) {
	t.Helper()
	for _, s := range texts {
		if e := c.Net().Put(net.Message{From: 1, To: to, Data: []byte(s)}); e != api.OK {
			t.Fatal(s, e)
		}
	}
}

// bytesOf are a packet's bytes.
func bytesOf(t *testing.T, p wire.Packet) []byte {
	t.Helper()
	b, e := wire.Encode(p)
	if e != api.OK {
		t.Fatalf("%+v: %d", p, e)
	}
	return b
}

// P20.1: there are 1 to 8 ids, unlike ones; and what node.Start refuses is refused.
func TestNewRefuses(t *testing.T) {
	wrong := []cluster.Setup{
		{Timeout: 1000},
		{IDs: []int{}, Timeout: 1000},
		{IDs: []int{1, 2, 3, 4, 5, 6, 7, 8, 9}, Timeout: 1000},
		{IDs: make([]int, 100000), Timeout: 1000},
		{IDs: []int{1, 1}, Timeout: 1000},
		{IDs: []int{5, 1, 2, 3, 4, 6, 7, 5}, Timeout: 1000},
		{IDs: []int{5, 1, 2, 3, 3}, Timeout: 1000},
		{IDs: []int{0, 0}, Timeout: 1000},
	}
	for _, n := range []int{math.MinInt, -1, 0, 1<<32 + 1, math.MaxInt} {
		wrong = append(wrong, cluster.Setup{IDs: []int{n}, Timeout: 1000}, cluster.Setup{IDs: []int{1, n}, Timeout: 1000}, cluster.Setup{IDs: []int{n, 1}, Timeout: 1000})
	}
	for _, n := range []int{math.MinInt, -1, 0, 1, 1<<20 + 1, math.MaxInt} {
		wrong = append(wrong, cluster.Setup{IDs: []int{1}, Timeout: n}, cluster.Setup{IDs: []int{1, 2, 3}, Timeout: n})
	}
	for _, s := range wrong {
		if c, e := cluster.New(s); c != nil || e != api.ErrForm {
			t.Errorf("%v, %d: %v, %d", s.IDs[:min(len(s.IDs), 9)], s.Timeout, c, e)
		}
	}
}

// P20.1: all nodes of a new cluster are on, started at 0 with their ids; nothing is under way, and nothing has happened.
func TestNew(t *testing.T) {
	for _, ids := range [][]int{{1}, {1 << 32}, {2, 1}, {8, 7, 6, 5, 4, 3, 2, 1}, {1 << 32, 1, 5, 1<<32 - 1}} {
		for _, timeout := range []int{2, 3, 1000, 1 << 20} {
			c := clusterOf(t, timeout, ids...)
			for i, id := range ids {
				n := c.Node(i)
				if s := n.State(); s.ID != id || s.Master != 0 || s.Epochs.Current != 0 || len(s.Known) != 0 || s.Table != (claims.Table{}) || n.Stopped() {
					t.Fatalf("%v: %+v", ids, s)
				}
				wantClock(t, c, i, 0)
				wantLine(t, c, i, "MYID", api.OK, fmt.Sprintln(id))
			}
			wantUnder(t, c)
			if len(c.Events()) != 0 || c.Net().Lost() != 0 {
				t.Fatal(c.Events(), c.Net().Lost())
			}
		}
	}
}

// P20.1: each node has the timeout of the setup, at first and when it is started anew.
func TestTimeout(t *testing.T) {
	for _, timeout := range []int{2, 3, 1000, 1 << 20} {
		c := clusterOf(t, timeout, 1, 2)
		wantLine(t, c, 1, "MEET 7", api.OK, "")
		for range 2 {
			want(t, c, cluster.Op{Kind: drop}, api.OK, "")
			clock := c.Clock(1)
			wantTick(t, c, 1, timeout/2-1, api.OK, clock+timeout/2-1)
			wantUnder(t, c)
			wantTick(t, c, 1, 1, api.OK, clock+timeout/2)
			wantUnder(t, c, "2>7 ping")
			wantTick(t, c, 1, timeout, api.OK, clock+timeout/2+timeout)
			wantLine(t, c, 1, "NODES", api.OK, "2 myself 0 0 \n7 well 0 0 \n")
			wantTick(t, c, 1, 1, api.OK, clock+timeout/2+timeout+1)
			wantLine(t, c, 1, "NODES", api.OK, "2 myself 0 0 \n7 late 0 0 \n")
			for c.Net().Len() > 1 {
				want(t, c, cluster.Op{Kind: drop}, api.OK, "")
			}
			want(t, c, cluster.Op{Kind: on, Node: 1}, api.OK, "")
		}
	}
}

// P20.1: each node has a disk of its own, of the room 65536.
func TestDisks(t *testing.T) {
	c := clusterOf(t, 1000, 3, 4)
	for i, text := range []string{"self 3 master 0 current 0 vote 0 config 0\n", "self 4 master 0 current 0 vote 0 config 0\n"} {
		d := c.Disk(i)
		if b, e := d.Read("state"); string(b) != text || e != api.OK {
			t.Fatalf("%q, %d", b, e)
		}
		left := 65536 - len(text)
		if e := d.Write("x", make([]byte, left+1)); e != api.ErrSpace {
			t.Fatal(e)
		}
		if e := d.Write("x", make([]byte, left)); e != api.OK {
			t.Fatal(e)
		}
	}
}

// P20.2: an op of another kind than 1 to 9 is refused, whatever else it has.
func TestOtherKinds(t *testing.T) {
	c := clusterOf(t, 1000, 1, 2)
	put(t, c, 2, "a")
	for _, kind := range []int{math.MinInt, -1, 0, 10, 11, 1 << 32, math.MaxInt} {
		for _, n := range numbers {
			want(t, c, cluster.Op{Kind: kind, Node: n, N: n, Draw: n, Line: "MEET 2"}, api.ErrLine, "")
		}
	}
	wantUnder(t, c, "1>2 a")
	wantMembers(t, c, 0)
	wantClock(t, c, 0, 0)
}

// P20.2: an op of the kinds 4 to 9 is refused where there is no such place, whatever else is wrong with it.
func TestNoPlace(t *testing.T) {
	for _, ids := range [][]int{{4}, {4, 5, 6}, {1, 2, 3, 4, 5, 6, 7, 8}} {
		c := clusterOf(t, 1000, ids...)
		want(t, c, cluster.Op{Kind: off}, api.OK, "")
		for _, i := range append([]int{len(ids), len(ids) + 1}, numbers...) {
			if i >= 0 && i < len(ids) {
				continue
			}
			for kind := tick; kind <= inject; kind++ {
				want(t, c, cluster.Op{Kind: kind, Node: i, N: 5, Line: "MEET 9"}, api.ErrPick, "")
				want(t, c, cluster.Op{Kind: kind, Node: i, N: -5, Line: "?"}, api.ErrPick, "")
			}
		}
		for i := range ids {
			wantClock(t, c, i, 0)
			if (c.Node(i) == nil) != (i == 0) || c.Disk(i).Down() {
				t.Fatal(i)
			}
		}
		wantUnder(t, c)
	}
}

// P20.2: messages are delivered, dropped and doubled only where there are some, and it doesn't matter what Node is.
func TestNothingUnderWay(t *testing.T) {
	c := clusterOf(t, 1000, 1, 2)
	for kind := deliver; kind <= double; kind++ {
		for _, n := range numbers {
			want(t, c, cluster.Op{Kind: kind, Node: n, N: n}, api.ErrPick, "")
		}
	}
	for _, n := range numbers {
		put(t, c, 7, "a")
		want(t, c, cluster.Op{Kind: double, Node: n}, api.OK, "")
		want(t, c, cluster.Op{Kind: drop, Node: n}, api.OK, "")
		want(t, c, cluster.Op{Kind: deliver, Node: n}, api.ErrDown, "")
		wantUnder(t, c)
	}
}

// sign is a number without its sign, modulo another one, without use of the rests of numbers below 0.
func sign(n, many int) int {
	u := uint(n)
	if n < 0 {
		u = -u
	}
	return int(u % uint(many))
}

// P20.2: the place of a message is N without its sign, modulo how many there are.
func TestPick(t *testing.T) {
	texts := []string{"a", "b", "c", "d", "e", "f", "g"}
	for many := 1; many <= len(texts); many++ {
		for _, n := range append([]int{3, 4, 5, 6, 12, 13, 14, -3, -4, -5, -6, -7, -8, -12, -13, -14}, numbers...) {
			i := sign(n, many)
			all := make([]string, many)
			for k := range all {
				all[k] = "1>7 " + texts[k]
			}
			c := clusterOf(t, 1000, 1)
			put(t, c, 7, texts[:many]...)
			want(t, c, cluster.Op{Kind: double, N: n}, api.OK, "")
			wantUnder(t, c, append(slices.Clone(all), all[i])...)
			want(t, c, cluster.Op{Kind: drop, N: many}, api.OK, "")
			want(t, c, cluster.Op{Kind: drop, N: n}, api.OK, "")
			wantUnder(t, c, slices.Delete(slices.Clone(all), i, i+1)...)

			c = clusterOf(t, 1000, 1)
			put(t, c, 7, texts[:many]...)
			want(t, c, cluster.Op{Kind: deliver, N: n}, api.ErrDown, "")
			wantUnder(t, c, slices.Delete(slices.Clone(all), i, i+1)...)
		}
	}
}

// P20.2: a double that the net refuses changes nothing.
func TestDoubleFull(t *testing.T) {
	c := clusterOf(t, 1000, 1, 2)
	for i := range 4095 {
		put(t, c, 2, fmt.Sprint(i))
	}
	want(t, c, cluster.Op{Kind: double, N: 77}, api.OK, "")
	for _, n := range numbers {
		want(t, c, cluster.Op{Kind: double, N: n}, api.ErrFull, "")
	}
	list := c.Net().List()
	if len(list) != 4096 || string(list[4095].Data) != "77" || string(list[4094].Data) != "4094" || string(list[77].Data) != "77" {
		t.Fatal(len(list))
	}
	want(t, c, cluster.Op{Kind: drop, N: 1}, api.OK, "")
	want(t, c, cluster.Op{Kind: double, N: 1}, api.OK, "")
	if list := c.Net().List(); len(list) != 4096 || string(list[4095].Data) != "2" {
		t.Fatal(len(list))
	}
}

// P20.2: what a call of a node sends where the net is full is lost, from the first packet on that has no place; nothing else is.
func TestSendFull(t *testing.T) {
	c := clusterOf(t, 1000, 1)
	for id := 2; id <= 6; id++ {
		wantLine(t, c, 0, fmt.Sprint("MEET ", id), api.OK, "")
	}
	for c.Net().Len() < 4093 {
		put(t, c, 9, "x")
	}
	wantTick(t, c, 0, 500, api.OK, 500)
	list := c.Net().List()
	if len(list) != 4096 || c.Net().Lost() != 2 {
		t.Fatal(len(list), c.Net().Lost())
	}
	for k, must := range []string{"1>2 ping", "1>3 ping", "1>4 ping"} {
		if brief(list[4093+k]) != must {
			t.Fatal(brief(list[4093+k]), must)
		}
	}
	want(t, c, cluster.Op{Kind: drop}, api.OK, "")
	wantLine(t, c, 0, "MEET 8", api.OK, "")
	wantLine(t, c, 0, "MEET 7", api.OK, "")
	if list = c.Net().List(); len(list) != 4096 || brief(list[4095]) != "1>8 meet" || c.Net().Lost() != 3 {
		t.Fatal(brief(list[4095]), c.Net().Lost())
	}
	wantMembers(t, c, 0, 2, 3, 4, 5, 6, 7, 8)
}

// P20.2: a message comes to the node of the id To, not to that of a place, nor to its sender, and what that answers is under way behind the others.
func TestDeliver(t *testing.T) {
	c := clusterOf(t, 1000, 2, 3, 1)
	wantLine(t, c, 2, "MEET 3", api.OK, "")
	wantLine(t, c, 2, "MEET 2", api.OK, "")
	wantUnder(t, c, "1>3 meet", "1>2 meet")
	want(t, c, cluster.Op{Kind: deliver}, api.OK, "")
	wantUnder(t, c, "1>2 meet", "3>1 pong")
	wantMembers(t, c, 0)
	wantMembers(t, c, 1, 1)
	wantMembers(t, c, 2, 2, 3)
	want(t, c, cluster.Op{Kind: deliver}, api.OK, "")
	wantUnder(t, c, "3>1 pong", "2>1 pong")
	wantMembers(t, c, 0, 1, 3) // 3, as the meet told of it
	want(t, c, cluster.Op{Kind: deliver, N: -3}, api.OK, "")
	wantUnder(t, c, "3>1 pong")
	want(t, c, cluster.Op{Kind: deliver}, api.OK, "")
	wantUnder(t, c)
}

// P20.2: what a node refuses is the answer, and the message is under way no more.
func TestDeliverRefused(t *testing.T) {
	c := clusterOf(t, 1000, 1, 2)
	mine := bytesOf(t, wire.Packet{Kind: 1, From: 2})
	strange := bytesOf(t, wire.Packet{Kind: 1, From: 9})
	for _, m := range []struct {
		b string
		e api.Errno
	}{{"", api.ErrEnd}, {"abcd", api.ErrForm}, {"GV\x02\x01", api.ErrKind}, {string(mine), api.ErrSelf}, {string(strange), api.ErrNode}, {string(mine[:78]), api.ErrEnd}} {
		for _, o := range []cluster.Op{{Kind: deliver, Node: 7, N: -4}, {Kind: inject, Node: 1, Data: []byte(m.b)}} {
			put(t, c, 2, m.b, "other")
			want(t, c, o, m.e, "")
			if o.Kind == inject {
				want(t, c, cluster.Op{Kind: drop}, api.OK, "")
			}
			wantUnder(t, c, "1>2 other")
			want(t, c, cluster.Op{Kind: drop}, api.OK, "")
		}
	}
	wantMembers(t, c, 1)
}

// stop makes a node stop, as its disk goes down.
func stop(t *testing.T, c *cluster.Cluster, at int) {
	t.Helper()
	want(t, c, cluster.Op{Kind: arm, Node: at}, api.OK, "")
	wantLine(t, c, at, "MEET 99", api.ErrDown, "")
	if n := c.Node(at); n == nil || !n.Stopped() {
		t.Fatal(at)
	}
}

// P20.2: a message to nobody, or to a node that is off or stopped, is lost.
func TestDeliverLost(t *testing.T) {
	c := clusterOf(t, 1000, 1, 2, 3)
	meet := string(bytesOf(t, wire.Packet{Kind: 3, From: 9}))
	want(t, c, cluster.Op{Kind: off, Node: 1}, api.OK, "")
	stop(t, c, 2)
	for _, to := range append([]int{2, 3}, numbers...) {
		if to == 1 {
			continue
		}
		put(t, c, to, meet)
		want(t, c, cluster.Op{Kind: deliver}, api.ErrDown, "")
		wantUnder(t, c)
	}
	want(t, c, cluster.Op{Kind: on, Node: 1}, api.OK, "")
	want(t, c, cluster.Op{Kind: on, Node: 2}, api.OK, "")
	for i := range 3 {
		wantMembers(t, c, i)
	}
	if c.Net().Lost() != 0 {
		t.Fatal(c.Net().Lost())
	}
}

// wantDueAt holds that a node pings somebody of whom it heard at a time half a second behind it, and not ahead of that.
func wantDueAt(t *testing.T, c *cluster.Cluster, at, heard int, ping string) {
	t.Helper()
	wantTick(t, c, at, heard+499-c.Clock(at), api.OK, heard+499)
	wantUnder(t, c)
	wantTick(t, c, at, 1, api.OK, heard+500)
	wantUnder(t, c, ping)
}

// P20.2: what a node is told, it is told at its own clock.
func TestAtItsClock(t *testing.T) {
	meet := bytesOf(t, wire.Packet{Kind: 3, From: 1})
	for _, told := range []cluster.Op{{Kind: deliver}, {Kind: inject, Node: 1, Data: meet}, {Kind: order, Node: 1, Line: "MEET 1"}} {
		c := clusterOf(t, 1000, 1, 2)
		wantTick(t, c, 0, 123, api.OK, 123)
		wantTick(t, c, 1, 700, api.OK, 700)
		if told.Kind == deliver {
			put(t, c, 2, string(meet))
		}
		want(t, c, told, api.OK, "")
		want(t, c, cluster.Op{Kind: drop}, api.OK, "")
		wantDueAt(t, c, 1, 700, "2>1 ping")
		wantClock(t, c, 0, 123)
	}
}

// P20.2: a tick of what is no tick's length changes no clock, be the node on or off.
func TestTickRefused(t *testing.T) {
	c := clusterOf(t, 1000, 1, 2)
	want(t, c, cluster.Op{Kind: off, Node: 1}, api.OK, "")
	for i, e := range []api.Errno{api.OK, api.ErrDown} {
		wantTick(t, c, i, 7, e, 7)
		for _, n := range []int{math.MinInt, -1 << 20, -2, -1, 1<<20 + 1, 1 << 38, math.MaxInt} {
			wantTick(t, c, i, n, api.ErrForm, 7)
		}
		wantTick(t, c, i, 0, e, 7)
		wantTick(t, c, i, 1<<20, e, 7+1<<20)
		wantTick(t, c, i, 1<<20-1, e, 6+1<<21)
	}
}

// P20.2: a clock goes on while its node is off or stopped, and stays at most 2^38; no other clock goes on.
func TestClockEnds(t *testing.T) {
	c := clusterOf(t, 1000, 1, 2, 3)
	want(t, c, cluster.Op{Kind: off, Node: 1}, api.OK, "")
	for range 1<<18 - 1 {
		c.Play(cluster.Op{Kind: tick, Node: 1, N: 1 << 20})
	}
	wantClock(t, c, 1, 1<<38-1<<20)
	wantTick(t, c, 1, 1<<20-1, api.ErrDown, 1<<38-1)
	wantTick(t, c, 1, 2, api.ErrDown, 1<<38)
	wantTick(t, c, 1, 1<<20, api.ErrDown, 1<<38)
	want(t, c, cluster.Op{Kind: on, Node: 1}, api.OK, "")
	wantTick(t, c, 1, 1<<20, api.OK, 1<<38)
	wantLine(t, c, 1, "MEET 9", api.OK, "")
	want(t, c, cluster.Op{Kind: inject, Node: 1, Data: bytesOf(t, wire.Packet{Kind: 2, From: 9})}, api.OK, "")
	stop(t, c, 2)
	wantTick(t, c, 2, 60, api.ErrDown, 60)
	wantClock(t, c, 0, 0)
	wantClock(t, c, 1, 1<<38)
}

// P20.2: a tick is a node's Tick at the clock, and what it sends is under way.
func TestTick(t *testing.T) {
	c := clusterOf(t, 1000, 2, 1)
	wantTick(t, c, 1, 40, api.OK, 40)
	wantLine(t, c, 1, "MEET 4", api.OK, "")
	wantLine(t, c, 1, "MEET 2", api.OK, "")
	wantUnder(t, c, "1>4 meet", "1>2 meet")
	wantTick(t, c, 1, 499, api.OK, 539)
	wantUnder(t, c, "1>4 meet", "1>2 meet")
	wantTick(t, c, 0, 2000, api.OK, 2000)
	wantUnder(t, c, "1>4 meet", "1>2 meet")
	wantTick(t, c, 1, 1, api.OK, 540)
	wantUnder(t, c, "1>4 meet", "1>2 meet", "1>2 ping", "1>4 ping")
}

// P20.2: each command is done, and what is wrong with it is the answer.
func TestCommands(t *testing.T) {
	c := clusterOf(t, 1000, 2, 1)
	for _, w := range []struct {
		line string
		e    api.Errno
	}{
		{"MEET 1", api.ErrSelf}, {"meet 0", api.ErrForm}, {"MEET 2", api.OK}, {"Meet 2", api.ErrKnown}, {"MEET 7", api.OK},
		{"ADDSLOTS 0-3 9", api.OK}, {"ADDSLOTS 9", api.ErrBusy}, {"DELSLOTS 3", api.OK}, {"DELSLOTS 3", api.ErrSlot},
		{"REPLICATE 9", api.ErrNode}, {"REPLICATE 2", api.ErrBusy}, {"BUMP", api.OK}, {"TAKEOVER", api.ErrRole},
		{"OFFSET 281474976710657", api.ErrForm}, {"OFFSET 70", api.OK}, {"FORGET 7", api.OK}, {"FORGET 7", api.ErrNode}, {"MEET 7", api.ErrBanned},
	} {
		wantLine(t, c, 1, w.line, w.e, "")
	}
	s := c.Node(1).State()
	if s.Table.Of(1) != 1<<9|7 || s.Epochs.Config != 1 || c.Node(1).Offset() != 70 || c.Node(0).Offset() != 0 {
		t.Fatalf("%+v", s)
	}
	wantUnder(t, c, "1>2 meet", "1>7 meet")
	wantMembers(t, c, 0)
	wantLine(t, c, 1, "RESET", api.OK, "")
	wantLine(t, c, 1, "MEET 7", api.OK, "")
	wantLine(t, c, 1, "REPLICATE 7", api.OK, "")
	wantLine(t, c, 1, "FORGET 7", api.ErrBusy, "")
	if s = c.Node(1).State(); s.Master != 7 {
		t.Fatalf("%+v", s)
	}
	wantLine(t, c, 1, "TAKEOVER", api.OK, "")
	wantUnder(t, c, "1>2 meet", "1>7 meet", "1>7 meet", "1>7 pong")
	if s = c.Node(1).State(); s.Master != 0 || s.Epochs.Config != 2 {
		t.Fatalf("%+v", s)
	}
}

// P20.2: each question is answered, and nothing is under way for it.
func TestQuestions(t *testing.T) {
	c := clusterOf(t, 1000, 2, 1)
	wantLine(t, c, 0, "ADDSLOTS 1-3 63", api.OK, "")
	for _, w := range [][2]string{
		{"KEYSLOT foo", "22\n"}, {"KEYSLOT ", "0\n"}, {"myid", "2\n"}, {"NODES", "2 myself 0 0 1-3 63\n"}, {"slots", "2 1-3 63\n"},
		{"INFO", "state fail\nassigned 4\nknown 1\nservers 1\nepoch 0\n"}, {"COUNT 5", "0\n"},
	} {
		wantLine(t, c, 0, w[0], api.OK, w[1])
	}
	wantLine(t, c, 1, "SLOTS", api.OK, "")
	wantUnder(t, c)
}

// P20.2: a line that is none is refused, but where the node is off or stopped that is the answer.
func TestLinesRefused(t *testing.T) {
	c := clusterOf(t, 1000, 1, 2, 3)
	want(t, c, cluster.Op{Kind: off, Node: 1}, api.OK, "")
	stop(t, c, 2)
	long := "KEYSLOT " + string(bytes.Repeat([]byte("a"), 8192-8))
	lines := map[string]api.Errno{
		"": api.ErrWord, "x": api.ErrWord, " MEET 2": api.ErrWord, "MEET": api.ErrArgs, "MEET 07": api.ErrArgs, "RESET now": api.ErrArgs,
		"ADDSLOTS 64": api.ErrArgs, "KEYSLOT": api.ErrArgs, long + "a": api.ErrBig, "INFO": api.OK, "RESET": api.OK, long: api.OK,
	}
	for line, e := range lines {
		if a := c.Play(cluster.Op{Kind: order, Line: line}); a.E != e || (a.Reply == "") != (e != api.OK || line == "RESET") {
			t.Errorf("%.20q: %d, %q", line, a.E, a.Reply)
		}
		wantLine(t, c, 1, line, api.ErrDown, "")
		wantLine(t, c, 2, line, api.ErrDown, "")
	}
}

// P20.2: an armed disk does that many calls more; then the node's next save is refused, and it stops.
func TestArm(t *testing.T) {
	for n := range 7 {
		c := clusterOf(t, 1000, 1, 2)
		want(t, c, cluster.Op{Kind: arm, Node: 1, N: n}, api.OK, "")
		for k := 1; k <= 3; k++ {
			wantLine(t, c, 0, fmt.Sprint("MEET ", 10+k), api.OK, "")
			e := api.OK
			if n < 3*k { // a save is three calls
				e = api.ErrDown
			}
			wantLine(t, c, 1, fmt.Sprint("MEET ", 10+k), e, "")
			if c.Node(1).Stopped() != (e != api.OK) || c.Node(0).Stopped() {
				t.Fatal(n, k)
			}
		}
		if d := c.Disk(1); !d.Down() || c.Disk(0).Down() {
			t.Fatal(n)
		}
	}
}

// P20.2: a disk that is armed with a number below 0 isn't armed; and it may be armed while the node is off, or stopped.
func TestArmAnyhow(t *testing.T) {
	for _, n := range []int{math.MinInt, -1} {
		c := clusterOf(t, 1000, 1)
		want(t, c, cluster.Op{Kind: arm}, api.OK, "")
		want(t, c, cluster.Op{Kind: arm, N: n}, api.OK, "")
		wantLine(t, c, 0, "MEET 9", api.OK, "")
		stop(t, c, 0)
		want(t, c, cluster.Op{Kind: arm, N: n}, api.OK, "")
		want(t, c, cluster.Op{Kind: off}, api.OK, "")
		want(t, c, cluster.Op{Kind: arm, N: 5}, api.OK, "")
		if !c.Disk(0).Down() {
			t.Fatal(n)
		}
		want(t, c, cluster.Op{Kind: on}, api.OK, "")
		want(t, c, cluster.Op{Kind: off}, api.OK, "")
		want(t, c, cluster.Op{Kind: arm}, api.OK, "")
		if e := c.Disk(0).Write("x", nil); e != api.ErrDown {
			t.Fatal(n, e)
		}
		want(t, c, cluster.Op{Kind: on}, api.OK, "")
		for id := 10; id < 20; id++ {
			wantLine(t, c, 0, fmt.Sprint("MEET ", id), api.OK, "")
		}
	}
}

// P20.2: a node that is off answers nothing, and stays off; its disk is as it was.
func TestOff(t *testing.T) {
	c := clusterOf(t, 1000, 1, 2)
	wantLine(t, c, 1, "MEET 1", api.OK, "")
	before, _ := c.Disk(1).Read("state")
	for range 2 {
		want(t, c, cluster.Op{Kind: off, Node: 1}, api.OK, "")
		wantLine(t, c, 1, "INFO", api.ErrDown, "")
		want(t, c, cluster.Op{Kind: inject, Node: 1, Data: []byte("x")}, api.ErrDown, "")
		want(t, c, cluster.Op{Kind: deliver}, api.OK, "")
		wantUnder(t, c, "1>2 pong")
		want(t, c, cluster.Op{Kind: deliver}, api.ErrDown, "")
		put(t, c, 1, string(bytesOf(t, wire.Packet{Kind: 3, From: 2})))
	}
	if b, e := c.Disk(1).Read("state"); e != api.OK || !bytes.Equal(b, before) {
		t.Fatalf("%q, %d", b, e)
	}
	if c.Node(0) == nil || c.Node(1) != nil {
		t.Fatal(c.Node(0), c.Node(1))
	}
}

// P20.2: a node that is started anew, be it off, stopped or on, has what it kept, and nothing else; at its clock, which goes on.
func TestOn(t *testing.T) {
	ways := []func(c *cluster.Cluster){
		func(c *cluster.Cluster) {},
		func(c *cluster.Cluster) { want(t, c, cluster.Op{Kind: off, Node: 1}, api.OK, "") },
		func(c *cluster.Cluster) { stop(t, c, 1) },
		func(c *cluster.Cluster) { c.Disk(1).Arm(1) },
	}
	for _, way := range ways {
		c := clusterOf(t, 1000, 1, 2)
		for _, line := range []string{"MEET 9", "MEET 7", "ADDSLOTS 5-8", "BUMP", "OFFSET 70"} {
			wantLine(t, c, 1, line, api.OK, "")
		}
		wantTick(t, c, 1, 333, api.OK, 333)
		was, old := c.Node(1).State(), c.Node(1)
		way(c)
		want(t, c, cluster.Op{Kind: on, Node: 1}, api.OK, "")
		n := c.Node(1)
		if s := n.State(); n == old || s.Table != was.Table || s.Epochs != was.Epochs || !slices.Equal(s.Known, was.Known) || n.Offset() != 0 || n.Stopped() || c.Disk(1).Down() {
			t.Fatalf("%+v, not %+v", s, was)
		}
		wantClock(t, c, 1, 333)
		want(t, c, cluster.Op{Kind: drop}, api.OK, "")
		wantLine(t, c, 1, "FORGET 7", api.OK, "") // which is saved, as the disk isn't armed
		want(t, c, cluster.Op{Kind: drop}, api.OK, "")
		wantDueAt(t, c, 1, 333, "2>9 ping")
	}
}

// P20.2: what a crash leaves of a file that wasn't safe is as many bytes as Keep says.
func TestKeep(t *testing.T) {
	for _, keep := range [][]int{nil, {}, {-1}, {0}, {1}, {7, 9}, {41}, {math.MaxInt, 3}, {math.MinInt}} {
		c := clusterOf(t, 1000, 1, 2)
		stop(t, c, 1)
		given := slices.Clone(keep)
		want(t, c, cluster.Op{Kind: on, Node: 1, Keep: given}, api.OK, "")
		text := "self 2 master 0 current 0 vote 0 config 0\nnode 99 master 0 config 0\n"
		if len(keep) == 0 {
			keep = []int{0}
		}
		text = text[:min(max(keep[0], 0), len(text))]
		if b, e := c.Disk(1).Read("next"); string(b) != text || e != api.OK || !slices.Equal(given, keep[:len(given)]) {
			t.Fatalf("%v: %q, %d", keep, b, e)
		}
		wantMembers(t, c, 1)
	}
}

// P20.2: a node that can't be started anew is off, and what Start says is the answer; the disk has crashed all the same.
func TestOnRefused(t *testing.T) {
	for _, w := range []struct {
		text string
		e    api.Errno
	}{{"self", api.ErrSyntax}, {"", api.ErrSyntax}, {"self 7 master 0 current 0 vote 0 config 0\n", api.ErrNode}} {
		c := clusterOf(t, 1000, 1, 2)
		good, _ := c.Disk(1).Read("state")
		c.Disk(1).Write("state", []byte(w.text))
		c.Disk(1).Arm(0)
		for range 2 {
			want(t, c, cluster.Op{Kind: on, Node: 1, Keep: []int{999}}, w.e, "")
			if c.Node(1) != nil || c.Node(0) == nil || c.Table(1) != (claims.Table{}) {
				t.Fatal(w)
			}
			wantTick(t, c, 1, 5, api.ErrDown, c.Clock(1)+5)
			wantLine(t, c, 1, "INFO", api.ErrDown, "")
		}
		if e := c.Disk(1).Write("state", good); e != api.OK {
			t.Fatal(e)
		}
		want(t, c, cluster.Op{Kind: on, Node: 1, Keep: []int{999}}, api.OK, "")
		wantClock(t, c, 1, 10)
	}
}

// P20.2: bytes that are injected come to the node of the place, from whom they say they are.
func TestInject(t *testing.T) {
	c := clusterOf(t, 1000, 2, 1)
	put(t, c, 2, "a")
	want(t, c, cluster.Op{Kind: inject, Node: 1, Data: bytesOf(t, wire.Packet{Kind: 3, From: 77})}, api.OK, "")
	wantUnder(t, c, "1>2 a", "1>77 pong")
	wantMembers(t, c, 1, 77)
	wantMembers(t, c, 0)
	for _, data := range [][]byte{nil, {}, {0x47, 0x56, 0x01}, make([]byte, 100000)} {
		e := api.ErrEnd
		if len(data) > 3 {
			e = api.ErrForm
		}
		want(t, c, cluster.Op{Kind: inject, Node: 1, Data: data}, e, "")
	}
	stop(t, c, 1)
	want(t, c, cluster.Op{Kind: inject, Node: 1, Data: bytesOf(t, wire.Packet{Kind: 3, From: 78})}, api.ErrDown, "")
	wantUnder(t, c, "1>2 a", "1>77 pong")
}

// wantRound holds how many messages a round delivers.
func wantRound(t *testing.T, c *cluster.Cluster, ms, draw, must int) {
	t.Helper()
	if n := c.Round(ms, draw); n != must {
		t.Fatalf("%d were delivered, not %d", n, must)
	}
}

// P20.3: the chapter's example, at a timeout at which nobody is due yet: the meet and its pong; at a lesser one there is a ping, and its pong, too.
func TestRoundOfMeet(t *testing.T) {
	for timeout, must := range map[int]int{1 << 20: 2, 1002: 2, 1001: 4, 1000: 4} {
		c := clusterOf(t, timeout, 1, 2)
		wantLine(t, c, 0, "MEET 2", api.OK, "")
		wantRound(t, c, 500, 0, must)
		wantUnder(t, c)
		wantMembers(t, c, 0, 2)
		wantMembers(t, c, 1, 1)
		wantClock(t, c, 0, 500)
		wantClock(t, c, 1, 500)
	}
}

// P20.3: all nodes have their ticks, in order, ahead of all messages; then the first message is delivered each time.
func TestRoundOrder(t *testing.T) {
	c := clusterOf(t, 1000, 3, 1)
	for i, line := range []string{"MEET 1", "MEET 3"} {
		wantLine(t, c, i, line, api.OK, "")
		want(t, c, cluster.Op{Kind: drop}, api.OK, "")
	}
	for range 4095 {
		put(t, c, 9, "x")
	}
	wantRound(t, c, 500, 0, 4097) // with the ping of 3, which has the last place, and its pong
	if n := c.Net().Lost(); n != 1 {
		t.Fatal(n) // the ping of 1
	}
	for i, told := range []string{"1 well 0 0 \n3 myself 0 0 \n", "1 myself 0 0 \n3 late 0 0 \n"} {
		wantTick(t, c, i, 1001, api.OK, 1501)
		wantLine(t, c, i, "NODES", api.OK, told)
	}

	// 1 hears of a claim of 8's, and behind it of one of 7's, of one epoch: whose comes first has the slot.
	c = clusterOf(t, 1000, 1)
	wantLine(t, c, 0, "MEET 7", api.OK, "")
	wantLine(t, c, 0, "MEET 8", api.OK, "")
	want(t, c, cluster.Op{Kind: drop}, api.OK, "")
	want(t, c, cluster.Op{Kind: drop}, api.OK, "")
	for _, id := range []int{8, 7} {
		put(t, c, 1, string(bytesOf(t, wire.Packet{Kind: 2, From: id, Slots: 1 << 5})))
	}
	wantRound(t, c, 0, 0, 2)
	if owner := c.Table(0).Owner[5]; owner != 8 {
		t.Fatal(owner)
	}
}

// P20.3: messages that are lost as they are delivered count, too.
func TestRoundCountsLost(t *testing.T) {
	c := clusterOf(t, 1000, 1, 2)
	want(t, c, cluster.Op{Kind: off, Node: 1}, api.OK, "")
	put(t, c, 2, "a", "b")
	put(t, c, 7, "c")
	put(t, c, 1, "d")
	wantRound(t, c, 0, 0, 4)
	wantRound(t, c, 0, 0, 0)
	wantClock(t, c, 0, 0)
	wantUnder(t, c)
}

// P20.3: a round of what is no tick's length lets no time pass, but delivers; clocks of nodes that are off or stopped go on.
func TestRoundTicks(t *testing.T) {
	c := clusterOf(t, 1000, 1, 2, 3)
	want(t, c, cluster.Op{Kind: off, Node: 1}, api.OK, "")
	stop(t, c, 2)
	for _, ms := range []int{math.MinInt, -1, 1<<20 + 1, math.MaxInt} {
		put(t, c, 1, "a")
		wantRound(t, c, ms, 0, 1)
		wantClock(t, c, 0, 0)
	}
	for k, ms := range []int{1 << 20, 1 << 20, 1 << 20} {
		wantRound(t, c, ms, math.MinInt, 0)
		for i := range 3 {
			wantClock(t, c, i, (k+1)<<20)
		}
	}
}

// quarrel is a cluster in which 1 and 2 tell one another for ever, as a packet is under way, of claims of others whom they don't know: 1 of 3's, who is ahead of 2, and 2 of 4's, who is ahead of 1.
func quarrel(t *testing.T) *cluster.Cluster {
	t.Helper()
	c := clusterOf(t, 1000, 1, 2)
	for i, line := range []string{"ADDSLOTS 0-1", "ADDSLOTS 2-3"} {
		wantLine(t, c, i, line, api.OK, "")
		if i == 1 {
			wantLine(t, c, i, "BUMP", api.OK, "") // as of two with one epoch one would yield, and that would end it
		}
		wantLine(t, c, i, fmt.Sprint("MEET ", 2-i), api.OK, "")
		wantLine(t, c, i, fmt.Sprint("MEET ", 4-i), api.OK, "")
		wantLine(t, c, i, fmt.Sprint("FORGET ", 4-i), api.OK, "") // who is banned, so that no section makes it known
		wantLine(t, c, i, fmt.Sprint("MEET ", 3+i), api.OK, "")
		for c.Net().Len() > 0 {
			want(t, c, cluster.Op{Kind: drop}, api.OK, "")
		}
		want(t, c, cluster.Op{Kind: inject, Node: i, Data: bytesOf(t, wire.Packet{Kind: 2, From: 3 + i, Epoch: 9, Config: 9, Slots: 1 << (2 - 2*i)})}, api.OK, "")
	}
	return c
}

// P20.3: a round ends behind 100000 messages, and leaves what is under way then.
func TestRoundEnds(t *testing.T) {
	c := quarrel(t)
	wantUnder(t, c)
	put(t, c, 2, string(bytesOf(t, wire.Packet{Kind: 2, From: 1, Epoch: 9, Slots: 3})))
	wantRound(t, c, 0, 0, 100000)
	wantUnder(t, c, "1>2 update")
	want(t, c, cluster.Op{Kind: deliver}, api.OK, "")
	wantUnder(t, c, "2>1 update")
	want(t, c, cluster.Op{Kind: drop}, api.OK, "")
	wantRound(t, c, 0, 0, 0)
	for k := range 4096 {
		put(t, c, 5, fmt.Sprint(k))
	}
	wantRound(t, c, 0, 0, 4096)
}

// P20.4: of no place there is no node, no time, no table.
func TestNoPlaceIsTold(t *testing.T) {
	c := clusterOf(t, 1000, 1, 2)
	wantLine(t, c, 0, "ADDSLOTS 0-63", api.OK, "")
	wantLine(t, c, 1, "ADDSLOTS 0-63", api.OK, "")
	wantRound(t, c, 50, 0, 0)
	for _, i := range numbers {
		if i == 0 || i == 1 {
			continue
		}
		if c.Node(i) != nil || c.Table(i) != (claims.Table{}) {
			t.Fatal(i)
		}
		wantClock(t, c, i, 0)
	}
}

// P20.4: a node that is on is told, and its clock and table; a table of one that is off or stopped is empty.
func TestTold(t *testing.T) {
	c := clusterOf(t, 1000, 1, 2, 3)
	for i, line := range []string{"ADDSLOTS 0", "ADDSLOTS 1-2", "ADDSLOTS 3"} {
		wantLine(t, c, i, line, api.OK, "")
		wantTick(t, c, i, 10+i, api.OK, 10+i)
	}
	nodes := []*node.Node{c.Node(0), c.Node(1), c.Node(2)}
	stop(t, c, 2)
	for i, n := range nodes {
		if c.Node(i) != n || n.State().ID != i+1 {
			t.Fatal(i)
		}
	}
	for i := range 2 {
		if tb := c.Table(i); tb != c.Node(i).State().Table || tb.Owner[i] != i+1 || tb.Owner[3] != 0 {
			t.Fatal(i, tb)
		}
	}
	if c.Table(2) != (claims.Table{}) {
		t.Fatal(c.Table(2))
	}
	want(t, c, cluster.Op{Kind: off, Node: 1}, api.OK, "")
	if c.Node(1) != nil || c.Table(1) != (claims.Table{}) {
		t.Fatal(c.Node(1))
	}
	for i := range 3 {
		want(t, c, cluster.Op{Kind: on, Node: i}, api.OK, "")
		wantClock(t, c, i, 10+i)
		if tb := c.Table(i); c.Node(i) == nodes[i] || tb.Of(i+1) != []slots.Set{1, 6, 8}[i] {
			t.Fatal(i, tb)
		}
	}
}

// P20.4: the net that is told is the one between the nodes.
func TestNet(t *testing.T) {
	c := clusterOf(t, 1000, 1, 2)
	n := c.Net()
	wantLine(t, c, 0, "MEET 2", api.OK, "")
	if n.Len() != 1 || c.Net() != n {
		t.Fatal(n.Len())
	}
	m, _ := n.Take(0)
	want(t, c, cluster.Op{Kind: deliver}, api.ErrPick, "")
	m.From = 77 // which nobody looks at
	n.Put(m)
	want(t, c, cluster.Op{Kind: deliver}, api.OK, "")
	wantUnder(t, c, "2>1 pong")
}
