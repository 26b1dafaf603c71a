package cluster_test

import (
	"fmt"
	"math/rand"
	"reflect"
	"slices"
	"testing"

	"grapevine/api"
	"grapevine/claims"
	"grapevine/cluster"
	"grapevine/command"
	"grapevine/disk"
	"grapevine/net"
	"grapevine/node"
	"grapevine/wire"
)

// model is a cluster as the chapter words it, of the layers below, with a plain list for a net.
type model struct {
	ids     []int
	timeout int
	disks   []*disk.Disk
	clocks  []int
	nodes   []*node.Node
	list    []net.Message
	lost    int
	events  []node.Event
}

// modelOf is a new model.
func modelOf(t *testing.T, timeout int, ids ...int) *model {
	t.Helper()
	m := &model{ids: ids, timeout: timeout, clocks: make([]int, len(ids))}
	for i, id := range ids {
		m.disks = append(m.disks, disk.New(65536))
		n, e := node.Start(node.Config{ID: id, Timeout: timeout}, m.disks[i], 0)
		if e != api.OK {
			t.Fatal(e)
		}
		m.nodes = append(m.nodes, n)
	}
	return m
}

// heed is what a node's call comes to.
func (m *model) heed(i int, a node.Answer) cluster.Answer {
	for _, o := range a.Out {
		b, _ := wire.Encode(o.Packet)
		if len(m.list) == 4096 {
			m.lost++
		} else {
			m.list = append(m.list, net.Message{From: m.ids[i], To: o.To, Data: b})
		}
	}
	m.events = append(m.events, a.Events...)
	return cluster.Answer{E: a.E, Events: a.Events}
}

// play plays an op.
func (m *model) play(o cluster.Op) cluster.Answer {
	switch {
	case o.Kind < 1 || o.Kind > 9:
		return cluster.Answer{E: api.ErrLine}
	case o.Kind <= 3:
		return m.playMessage(o)
	case o.Node < 0 || o.Node >= len(m.ids):
		return cluster.Answer{E: api.ErrPick}
	}
	i := o.Node
	n := m.nodes[i]
	switch {
	case o.Kind == tick && (o.N < 0 || o.N > 1<<20):
		return cluster.Answer{E: api.ErrForm}
	case o.Kind == tick:
		m.clocks[i] = min(m.clocks[i]+o.N, 1<<38)
		if n == nil {
			return cluster.Answer{E: api.ErrDown}
		}
		return m.heed(i, n.Tick(m.clocks[i], o.Draw))
	case o.Kind == arm:
		m.disks[i].Arm(o.N)
	case o.Kind == off:
		m.nodes[i] = nil
	case o.Kind == on:
		m.disks[i].Crash(o.Keep)
		n, e := node.Start(node.Config{ID: m.ids[i], Timeout: m.timeout}, m.disks[i], m.clocks[i])
		m.nodes[i] = n
		return cluster.Answer{E: e}
	case n == nil || o.Kind == order && n.Stopped():
		return cluster.Answer{E: api.ErrDown}
	case o.Kind == inject:
		return m.heed(i, n.Deliver(o.Data, m.clocks[i]))
	default:
		return m.playLine(i, o.Line)
	}
	return cluster.Answer{}
}

// playMessage plays an op of a message.
func (m *model) playMessage(o cluster.Op) cluster.Answer {
	if len(m.list) == 0 {
		return cluster.Answer{E: api.ErrPick}
	}
	k := sign(o.N, len(m.list))
	one := m.list[k]
	if o.Kind == double {
		if len(m.list) == 4096 {
			return cluster.Answer{E: api.ErrFull}
		}
		m.list = append(m.list, one)
		return cluster.Answer{}
	}
	m.list = slices.Delete(m.list, k, k+1)
	if o.Kind == drop {
		return cluster.Answer{}
	}
	i := slices.Index(m.ids, one.To)
	if i < 0 || m.nodes[i] == nil {
		return cluster.Answer{E: api.ErrDown}
	}
	return m.heed(i, m.nodes[i].Deliver(one.Data, m.clocks[i]))
}

// playLine does a line, or answers it.
func (m *model) playLine(i int, text string) cluster.Answer {
	l, e := command.Parse(text)
	if e != api.OK {
		return cluster.Answer{E: e}
	}
	if l.Kind < 10 {
		return m.heed(i, m.nodes[i].Do(node.Command{Kind: l.Kind, ID: l.ID, Set: l.Set}, m.clocks[i]))
	}
	reply, e := command.Ask(m.nodes[i], l)
	return cluster.Answer{E: e, Reply: reply}
}

// round is a round.
func (m *model) round(ms, draw int) int {
	for i := range m.ids {
		m.play(cluster.Op{Kind: tick, Node: i, N: ms, Draw: draw})
	}
	n := 0
	for ; n < 100000 && len(m.list) > 0; n++ {
		m.play(cluster.Op{Kind: deliver})
	}
	return n
}

// wantSame holds that a cluster tells what a model has.
func wantSame(t *testing.T, c *cluster.Cluster, m *model) {
	t.Helper()
	same := func(a, b net.Message) bool { return a.From == b.From && a.To == b.To && slices.Equal(a.Data, b.Data) }
	if list := c.Net().List(); !slices.EqualFunc(list, m.list, same) || c.Net().Lost() != m.lost {
		t.Fatalf("%v, %d, not %v, %d", list, c.Net().Lost(), m.list, m.lost)
	}
	if all := c.Events(); !sameEvents(all, m.events) {
		t.Fatalf("%+v, not %+v", all, m.events)
	}
	for i, n := range m.nodes {
		wantClock(t, c, i, m.clocks[i])
		got := c.Node(i)
		if (got == nil) != (n == nil) {
			t.Fatalf("%d: %v", i, got)
		}
		var table claims.Table
		if n != nil && n.Stopped() != got.Stopped() {
			t.Fatalf("%d: %v", i, got.Stopped())
		}
		if n != nil && !n.Stopped() {
			table = n.State().Table
			if !reflect.DeepEqual(got.State(), n.State()) || !slices.Equal(got.Members(), n.Members()) || !slices.Equal(got.Late(), n.Late()) || got.Offset() != n.Offset() {
				t.Fatalf("%d: %+v, not %+v", i, got.State(), n.State())
			}
		}
		if c.Table(i) != table {
			t.Fatalf("%d: %v, not %v", i, c.Table(i), table)
		}
	}
}

// anyOp is an op that may be wrong.
func anyOp(r *rand.Rand, ids []int) cluster.Op {
	o := cluster.Op{Node: r.Intn(len(ids)), N: r.Intn(900) - 100, Draw: r.Intn(1200) - 100}
	id := ids[r.Intn(len(ids))]
	o.Line = []string{
		fmt.Sprint("MEET ", id), fmt.Sprint("MEET ", id), fmt.Sprint("FORGET ", id), fmt.Sprint("REPLICATE ", id), fmt.Sprint("replicate ", id), "TAKEOVER", "BUMP", "RESET",
		fmt.Sprintf("ADDSLOTS %d-%d", r.Intn(33), 33+r.Intn(33)), fmt.Sprintf("ADDSLOTS %d", r.Intn(64)), fmt.Sprintf("DELSLOTS %d", r.Intn(64)), fmt.Sprint("OFFSET ", r.Intn(9)),
		"NODES", "slots", "INFO", "MYID", "KEYSLOT x", fmt.Sprint("COUNT ", id), "?", "MEET 07",
	}[r.Intn(20)]
	if r.Intn(20) == 0 {
		o.N = numbers[r.Intn(len(numbers))]
		o.Draw = numbers[r.Intn(len(numbers))]
	}
	if r.Intn(60) == 0 {
		o.Node = numbers[r.Intn(len(numbers))]
	}
	p := wire.Packet{Kind: 1 + r.Intn(7), From: 1 + r.Intn(12), Epoch: 5, Config: r.Intn(5), Slots: 1 << r.Intn(64)}
	if p.Kind == 4 || p.Kind == 5 {
		p.About = id
	}
	o.Data, _ = wire.Encode(p)
	if r.Intn(3) == 0 {
		o.Data = o.Data[:r.Intn(len(o.Data))]
	}
	for range r.Intn(3) {
		o.Keep = append(o.Keep, r.Intn(200)-20)
	}
	switch k := r.Intn(1000); {
	case k < 600:
		o.Kind = deliver
	case k < 615:
		o.Kind = drop
	case k < 640:
		o.Kind = double
	case k < 940:
		o.Kind = tick
	case k < 960:
		o.Kind = order
	case k < 966:
		o.Kind = arm
		o.N = r.Intn(12) - 2
	case k < 972:
		o.Kind = off
	case k < 986:
		o.Kind = on
	case k < 992:
		o.Kind = inject
	default:
		o.Kind = numbers[r.Intn(len(numbers))]
	}
	return o
}

// begin are ops that make nodes know one another, and masters of three of them.
func begin(ids []int) []cluster.Op {
	var ops []cluster.Op
	for i := range ids {
		for _, id := range ids {
			ops = append(ops, cluster.Op{Kind: order, Node: i, Line: fmt.Sprint("MEET ", id)})
		}
		if i < 3 {
			ops = append(ops, cluster.Op{Kind: order, Node: i, Line: fmt.Sprintf("ADDSLOTS %d-%d", 20*i, 20*i+19)})
		} else {
			ops = append(ops, cluster.Op{Kind: order, Node: i, Line: fmt.Sprint("REPLICATE ", ids[i%3])})
		}
	}
	return ops
}

// P20.1 to P20.4: any ops and rounds in any order come to what the chapter's words come to, done one by one.
func TestAnyOps(t *testing.T) {
	r := rand.New(rand.NewSource(201))
	seen := map[string]int{}
	for range 60 {
		ids := r.Perm(10)[:1+r.Intn(8)]
		for i := range ids {
			ids[i]++
		}
		timeout := 2 + r.Intn(2000)
		c, m := clusterOf(t, timeout, ids...), modelOf(t, timeout, ids...)
		ops := begin(ids)[r.Intn(2):]
		for k := range 1500 {
			if r.Intn(100) == 0 {
				ms, draw := r.Intn(400)-10, r.Intn(999)
				wantRound(t, c, ms, draw, m.round(ms, draw))
				continue
			}
			o := anyOp(r, ids)
			if len(ops) > 0 {
				o, ops = ops[0], ops[1:]
			}
			a, must := c.Play(o), m.play(o)
			if a.E != must.E || a.Reply != must.Reply || !sameEvents(a.Events, must.Events) {
				t.Fatalf("%+v: %+v, not %+v", o, a, must)
			}
			seen[fmt.Sprintf("%d: %d", o.Kind, a.E)]++
			if k%20 == 0 {
				wantSame(t, c, m)
			}
		}
		wantSame(t, c, m)
		for _, v := range m.events {
			seen[fmt.Sprint("event ", v.Kind)]++
		}
	}
	for what, n := range seen {
		t.Log(what, n)
	}
	for _, what := range []string{"1: 0", "1: 30", "1: 50", "2: 0", "3: 0", "4: 0", "4: 10", "4: 50", "4: 70", "5: 0", "5: 50", "5: 62", "6: 0", "7: 0", "8: 0", "9: 0", "9: 50", "10: 71", "event 1", "event 2"} {
		if seen[what] < 5 {
			t.Errorf("%s was there %d times only", what, seen[what])
		}
	}
}

// spoilEvents overwrites events, their lists, and the room behind them.
func spoilEvents(events []node.Event) {
	for _, v := range events {
		who := v.Who[:cap(v.Who)]
		for i := range who {
			who[i] = -7
		}
	}
	events = events[:cap(events)]
	for i := range events {
		events[i] = node.Event{Kind: -7, Who: []int{-7}}
	}
}

// P20.2, P20.4: events that are told are new memory: no answer shares any with another one, nor with what is kept.
func TestEventsAreNew(t *testing.T) {
	c := four(t)
	want(t, c, cluster.Op{Kind: off}, api.OK, "")
	var must []node.Event
	for range 60 {
		for i := range 4 {
			a := c.Play(cluster.Op{Kind: tick, Node: i, N: 100})
			must = append(must, keptOf(a.Events)...)
			spoilEvents(a.Events)
		}
		for c.Net().Len() > 0 {
			a := c.Play(cluster.Op{Kind: deliver})
			must = append(must, keptOf(a.Events)...)
			spoilEvents(a.Events)
		}
		first, second := c.Events(), c.Events()
		if !sameEvents(first, must) || !sameEvents(second, must) {
			t.Fatalf("%+v, %+v, not %+v", first, second, must)
		}
		spoilEvents(first)
		if !sameEvents(second, must) || !sameEvents(c.Events(), must) {
			t.Fatalf("%+v, %+v, not %+v", second, c.Events(), must)
		}
	}
	with := 0
	for _, v := range must {
		if len(v.Who) > 0 {
			with++
		}
	}
	if with < 2 {
		t.Fatalf("%+v", must)
	}
}

// keptOf are events with lists of their own.
func keptOf(events []node.Event) []node.Event {
	var list []node.Event
	for _, v := range events {
		v.Who = slices.Clone(v.Who)
		list = append(list, v)
	}
	return list
}

// P20.1, P20.2: what is handed in is neither changed nor kept, the room behind it neither.
func TestHandedIn(t *testing.T) {
	ids := []int{7, 4, 9, 3, 8}
	c := clusterOf(t, 1000, ids[1:3]...)
	if !slices.Equal(ids, []int{7, 4, 9, 3, 8}) {
		t.Fatal(ids)
	}
	ids[1], ids[2] = 1, 2
	for i, id := range []int{4, 9} {
		want(t, c, cluster.Op{Kind: on, Node: i}, api.OK, "")
		wantLine(t, c, i, "MYID", api.OK, fmt.Sprintln(id))
	}
	wantLine(t, c, 0, "MEET 9", api.OK, "")
	want(t, c, cluster.Op{Kind: deliver}, api.OK, "")
	wantMembers(t, c, 1, 4)

	for _, p := range []wire.Packet{{Kind: 3, From: 5, Section: []wire.Entry{{ID: 6}, {ID: 7}}}, {Kind: 2, From: 5, Slots: 9}, {Kind: 9}} {
		b, _ := wire.Encode(p)
		data := append(slices.Clone(b), "more"...)
		given := slices.Clone(data)
		c.Play(cluster.Op{Kind: inject, Node: 1, Data: data[:len(b)]})
		if !slices.Equal(data, given) {
			t.Fatalf("%q, not %q", data, given)
		}
		clear(data)
		wantMembers(t, c, 1, 4, 5, 6, 7)
	}
	if c.Table(1).Of(5) != 9 {
		t.Fatal(c.Table(1))
	}

	keep := []int{5, 7, 8}
	stop(t, c, 1)
	want(t, c, cluster.Op{Kind: on, Node: 1, Keep: keep[:1]}, api.OK, "")
	if !slices.Equal(keep, []int{5, 7, 8}) {
		t.Fatal(keep)
	}
	clear(keep)
	if b, _ := c.Disk(1).Read("next"); string(b) != "self " {
		t.Fatalf("%q", b)
	}
}

// P20.4: tables that are told are values: who changes one changes no other.
func TestTablesAreNew(t *testing.T) {
	c := clusterOf(t, 1000, 1)
	wantLine(t, c, 0, "ADDSLOTS 0-3", api.OK, "")
	tb := c.Table(0)
	tb.Owner[0], tb.Epoch[1] = 77, 77
	if again := c.Table(0); again.Owner[0] != 1 || again.Epoch[1] != 0 {
		t.Fatal(again)
	}
}
