package cluster_test

import (
	"fmt"
	"slices"
	"strings"
	"testing"

	"grapevine/api"
	"grapevine/cluster"
	"grapevine/node"
	"grapevine/route"
	"grapevine/wire"
)

// sent is a packet that was under way, and the clock of its sender then.
type sent struct {
	at, to int
	p      wire.Packet
}

// four is the cluster of the document's examples: 1, 2, 3, masters of a third of the slots each, and 4, a replica of 1, at the places 0 to 3, that know one another.
func four(t *testing.T) *cluster.Cluster {
	t.Helper()
	c := clusterOf(t, 1000, 1, 2, 3, 4)
	for _, w := range []struct {
		at   int
		line string
	}{{0, "MEET 2"}, {0, "MEET 3"}, {0, "MEET 4"}, {0, "ADDSLOTS 0-20"}, {1, "ADDSLOTS 21-41"}, {2, "ADDSLOTS 42-63"}} {
		wantLine(t, c, w.at, w.line, api.OK, "")
	}
	for range 12 {
		c.Round(250, 0)
	}
	wantLine(t, c, 3, "REPLICATE 1", api.OK, "")
	for range 12 {
		c.Round(250, 0)
	}
	for i := range 4 {
		s := c.Node(i).State()
		if len(s.Known) != 3 || s.Table.Of(1) != 1<<21-1 || s.Table.Of(2) != 1<<42-1<<21 || s.Table.Of(4) != 0 {
			t.Fatalf("%+v", s)
		}
	}
	if len(c.Events()) != 0 || c.Node(3).State().Master != 1 {
		t.Fatal(c.Events())
	}
	return c
}

// pass lets a tenth of a second pass at all nodes, and delivers all; it tells what was sent.
func pass(t *testing.T, c *cluster.Cluster, draw int) []sent {
	t.Helper()
	var list []sent
	look := func(under int) {
		for _, m := range c.Net().List()[under:] {
			p, e := wire.Decode(m.Data)
			if e != api.OK || p.From != m.From {
				t.Fatalf("%+v: %d", m, e)
			}
			list = append(list, sent{c.Clock(p.From - 1), m.To, p})
		}
	}
	for i := range 4 {
		under := c.Net().Len()
		c.Play(cluster.Op{Kind: tick, Node: i, N: 100, Draw: draw})
		look(under)
	}
	for c.Net().Len() > 0 {
		under := c.Net().Len() - 1
		c.Play(cluster.Op{Kind: deliver})
		look(under)
	}
	return list
}

// passes is pass, many times.
func passes(t *testing.T, c *cluster.Cluster, n int) []sent {
	t.Helper()
	var list []sent
	for range n {
		list = append(list, pass(t, c, 0)...)
	}
	return list
}

// first is the first one of which something is so.
func first(t *testing.T, list []sent, is func(s sent) bool) sent {
	t.Helper()
	i := slices.IndexFunc(list, is)
	if i < 0 {
		t.Fatal("nothing like it was sent")
	}
	return list[i]
}

// ofKind are the packets of a kind of a sender.
func ofKind(list []sent, kind, from int) []sent {
	return slices.DeleteFunc(slices.Clone(list), func(s sent) bool { return s.p.Kind != kind || s.p.From != from })
}

// tos are to whom they are.
func tos(list []sent) []int {
	var ids []int
	for _, s := range list {
		ids = append(ids, s.to)
	}
	slices.Sort(ids)
	return ids
}

// eventsOf are the events of a kind.
func eventsOf(c *cluster.Cluster, kind int) []node.Event {
	return slices.DeleteFunc(c.Events(), func(v node.Event) bool { return v.Kind != kind })
}

// wantRoute holds where a node sends a key.
func wantRoute(t *testing.T, c *cluster.Cluster, at int, key, must string) {
	t.Helper()
	if got := route.Text(route.Route(c.Node(at), key)); got != must {
		t.Fatalf("%q at %d is %q, not %q", key, at, got, must)
	}
}

// P3, example 1: a key is asked of who has its slot.
func TestExampleKeys(t *testing.T) {
	c := four(t)
	for _, key := range []string{"foo", "{foo}x"} {
		wantRoute(t, c, 0, key, "MOVED 22 2")
		wantRoute(t, c, 1, key, "HERE 22")
		wantRoute(t, c, 2, key, "MOVED 22 2")
		wantRoute(t, c, 3, key, "MOVED 22 2")
	}
}

// P3, examples 2 and 3: who is off is missed behind a second, which is told in sections; and when two of three miss it, it has failed, and all are told so.
func TestExampleFailed(t *testing.T) {
	c := four(t)
	passes(t, c, 10)
	quiet := c.Clock(1)
	want(t, c, cluster.Op{Kind: off}, api.OK, "")
	list := passes(t, c, 18)
	for by := 2; by <= 3; by++ {
		ping := first(t, list, func(s sent) bool { return s.p.Kind == 1 && s.p.From == by && s.to == 1 })
		told := first(t, list, func(s sent) bool {
			return s.p.From == by && slices.Contains(s.p.Section, wire.Entry{ID: 1, State: 1})
		})
		if told.at <= ping.at+1000 || told.at > ping.at+1500 || ping.at > quiet+500 {
			t.Fatalf("%d pings at %d, and misses 1 at %d", by, ping.at, told.at)
		}
	}
	events := c.Events()
	if len(events) == 0 || events[0].Kind != 2 || events[0].About != 1 || !slices.Equal(events[0].Who, []int{2, 3}) {
		t.Fatalf("%+v", events)
	}
	by := events[0].By
	all := []int{1, 2, 3, 4}
	if fails := ofKind(list, 4, by); fails[0].p.About != 1 || !slices.Equal(tos(fails[:3]), slices.DeleteFunc(all, func(id int) bool { return id == by })) {
		t.Fatalf("%+v", fails)
	}
	for i := 1; i <= 3; i++ {
		if m := c.Node(i).Members()[0]; m.ID != 1 || m.FailAt < quiet+1000 || m.FailAt > c.Clock(i) {
			t.Fatalf("%d: %+v", i, m)
		}
	}
}

// P3, examples 4 and 6: the replica stands half a second to a second behind the failure, as is drawn, in the next epoch; it wins with two of three votes, and all tables follow.
func TestExampleWins(t *testing.T) {
	for _, draw := range []int{0, 100, 300, 499, 500, 800} {
		c := four(t)
		was := c.Node(3).State().Epochs
		want(t, c, cluster.Op{Kind: off}, api.OK, "")
		var list []sent
		for range 40 {
			list = append(list, pass(t, c, draw)...)
		}
		fails, asks := ofKind(list, 4, eventsOf(c, 2)[0].By), ofKind(list, 6, 4)
		since := fails[0].at
		planned := (since+99)/100*100 + 100 // at the next tick at the latest
		if at := asks[0].at; at < since+500+draw%500 || at > planned+500+draw%500+100 {
			t.Fatalf("%d: fails at %d, asks at %d", draw, since, at)
		}
		if !slices.Equal(tos(asks), []int{1, 2, 3}) || asks[0].p.Epoch != was.Current+1 {
			t.Fatalf("%+v", asks)
		}
		votes, wins := eventsOf(c, 1), eventsOf(c, 3)
		if !sameEvents(votes, []node.Event{{Kind: 1, By: 2, About: 4, Epoch: was.Current + 1}, {Kind: 1, By: 3, About: 4, Epoch: was.Current + 1}}) {
			t.Fatalf("%+v", votes)
		}
		if !sameEvents(wins, []node.Event{{Kind: 3, By: 4, About: 1, Epoch: was.Current + 1, Who: []int{1, 2, 3}}}) {
			t.Fatalf("%+v", wins)
		}
		for i := 1; i <= 3; i++ {
			if tb := c.Table(i); tb.Of(4) != 1<<21-1 || tb.Of(1) != 0 || tb.Epoch[0] != was.Current+1 {
				t.Fatalf("%d: %v", i, tb)
			}
		}
	}
}

// asked is the four, where 4 has just asked 1, 2, 3 for their votes, which is under way, and nothing else, and the epoch.
func asked(t *testing.T) (*cluster.Cluster, int) {
	t.Helper()
	c := four(t)
	want(t, c, cluster.Op{Kind: off}, api.OK, "")
	for range 100 {
		for i := 1; i < 4; i++ {
			c.Play(cluster.Op{Kind: tick, Node: i, N: 100})
		}
		for k := 0; k < c.Net().Len(); {
			if m := c.Net().List()[k]; strings.HasSuffix(brief(m), "ask") {
				k++
			} else {
				c.Play(cluster.Op{Kind: deliver, N: k})
			}
		}
		if c.Net().Len() > 0 {
			wantUnder(t, c, "4>1 ask", "4>2 ask", "4>3 ask")
			return c, c.Node(3).State().Epochs.Current
		}
	}
	t.Fatal("4 doesn't ask")
	return nil, 0
}

// P3, example 5: a vote is kept ahead of its answer, and isn't given once more in that epoch, not when the node is started anew either.
func TestExampleVotesOnce(t *testing.T) {
	for _, crash := range []bool{false, true} {
		c, epoch := asked(t)
		want(t, c, cluster.Op{Kind: double, N: 1}, api.OK, "")
		want(t, c, cluster.Op{Kind: deliver, N: 1}, api.OK, "", node.Event{Kind: 1, By: 2, About: 4, Epoch: epoch})
		wantUnder(t, c, "4>1 ask", "4>3 ask", "4>2 ask", "2>4 ack")
		if b, e := c.Disk(1).Read("state"); e != api.OK || !strings.Contains(string(b), fmt.Sprint(" vote ", epoch, " ")) {
			t.Fatalf("%q, %d", b, e)
		}
		if crash {
			want(t, c, cluster.Op{Kind: on, Node: 1}, api.OK, "")
			// It has forgotten that 1 has failed, and must hear of it again, as else it refuses for that.
			want(t, c, cluster.Op{Kind: inject, Node: 1, Data: bytesOf(t, wire.Packet{Kind: 4, From: 3, Epoch: epoch, About: 1, Slots: 1<<64 - 1<<42})}, api.OK, "")
		}
		want(t, c, cluster.Op{Kind: deliver, N: 2}, api.OK, "")
		wantUnder(t, c, "4>1 ask", "4>3 ask", "2>4 ack")
	}
}

// P3, example 7: who comes back with its old epoch is told so, has nothing left, and follows who has it.
func TestExampleComesBack(t *testing.T) {
	c := four(t)
	want(t, c, cluster.Op{Kind: off}, api.OK, "")
	passes(t, c, 40)
	want(t, c, cluster.Op{Kind: on}, api.OK, "")
	if s := c.Node(0).State(); s.Table.Of(1) != 1<<21-1 || s.Master != 0 {
		t.Fatalf("%+v", s)
	}
	list := passes(t, c, 20)
	told := first(t, list, func(s sent) bool { return s.p.Kind == 5 && s.to == 1 })
	if told.p.About != 4 || told.p.AboutSlots != 1<<21-1 {
		t.Fatalf("%+v", told)
	}
	for i := range 4 {
		if tb := c.Table(i); tb.Of(4) != 1<<21-1 || tb.Of(1) != 0 {
			t.Fatalf("%d: %v", i, tb)
		}
	}
	if s := c.Node(0).State(); s.Master != 4 {
		t.Fatalf("%+v", s)
	}
	wantLine(t, c, 2, "INFO", api.OK, fmt.Sprintf("state ok\nassigned 64\nknown 4\nservers 3\nepoch %d\n", c.Node(2).State().Epochs.Current))
}

// P3, example 8: who can't keep its vote doesn't answer, and has not voted when it is started anew.
func TestExampleDiskDown(t *testing.T) {
	for n := range 3 {
		for _, keep := range [][]int{nil, {0}, {20}, {9999}} {
			c, epoch := asked(t)
			was := c.Node(1).State().Epochs
			want(t, c, cluster.Op{Kind: arm, Node: 1, N: n}, api.OK, "")
			want(t, c, cluster.Op{Kind: deliver, N: 1}, api.ErrDown, "")
			wantUnder(t, c, "4>1 ask", "4>3 ask")
			if !c.Node(1).Stopped() {
				t.Fatal(n)
			}
			want(t, c, cluster.Op{Kind: on, Node: 1, Keep: keep}, api.OK, "")
			if s := c.Node(1).State().Epochs; s != was || s.Vote >= epoch {
				t.Fatalf("%+v, not %+v", s, was)
			}
		}
	}
}

// P3, example 9: a replica that is told to take over has its master's slots with an epoch of its own making, and its master follows it.
func TestExampleTakeover(t *testing.T) {
	c := four(t)
	was := c.Node(3).State().Epochs
	wantLine(t, c, 3, "TAKEOVER", api.OK, "")
	wantUnder(t, c, "4>1 pong", "4>2 pong", "4>3 pong")
	passes(t, c, 10)
	for i := range 4 {
		if tb := c.Table(i); tb.Of(4) != 1<<21-1 || tb.Of(1) != 0 || tb.Epoch[0] != was.Current+1 {
			t.Fatalf("%d: %v", i, tb)
		}
	}
	if c.Node(0).State().Master != 4 || c.Node(3).State().Master != 0 || len(c.Events()) != 0 {
		t.Fatal(c.Events())
	}
}

// P3, example 10: of two masters with one epoch the one of the lower id takes the next one.
func TestExampleYields(t *testing.T) {
	for _, ids := range [][]int{{3, 8}, {8, 3}} {
		c := clusterOf(t, 1000, ids...)
		for i, line := range []string{"ADDSLOTS 0-31", "ADDSLOTS 32-63"} {
			wantLine(t, c, i, line, api.OK, "")
		}
		wantLine(t, c, 0, fmt.Sprint("MEET ", ids[1]), api.OK, "")
		c.Round(500, 0)
		c.Round(500, 0) // in which the other one hears of the new epoch
		low := slices.Index(ids, 3)
		for i := range 2 {
			tb := c.Table(i)
			if s := c.Node(low).State(); s.Epochs.Config != 1 || len(tb.Owners()) != 2 || tb.Epoch[32*low] != 1 || tb.Epoch[63-32*low] != 0 {
				t.Fatalf("%d: %+v, %v", i, s, tb)
			}
		}
		if s := c.Node(1 - low).State(); s.Epochs.Config != 0 || s.Epochs.Current != 1 {
			t.Fatalf("%+v", s)
		}
	}
}
