package route_test

import (
	"math"
	"reflect"
	"strconv"
	"strings"
	"testing"

	"grapevine/api"
	"grapevine/conf"
	"grapevine/disk"
	"grapevine/epoch"
	"grapevine/keep"
	"grapevine/node"
	"grapevine/route"
	"grapevine/slot"
	"grapevine/slots"
	"grapevine/wire"
)

// The kinds of ways.
const (
	here = iota + 1
	moved
	down
)

// topID is the greatest id.
const topID = 4294967296

// all are all slots.
const all slots.Set = math.MaxUint64

// noKinds are numbers that are no kinds of ways.
var noKinds = []int{math.MinInt, -2, -1, 0, 4, 5, 22, 256 + 1, 1<<32 + 2, math.MaxInt}

// of starts a node with the timeout 1000 at 0 that has a state.
func of(t *testing.T, s conf.State) *node.Node {
	t.Helper()
	d := disk.New(api.MaxDisk)
	if e := keep.Save(d, s); e != api.OK {
		t.Fatalf("%+v: %d", s, e)
	}
	n, e := node.Start(node.Config{ID: s.ID, Timeout: 1000}, d, 0)
	if e != api.OK {
		t.Fatal(e)
	}
	return n
}

// thirds is the state of one of the masters 1, 2, 3, which have a third of the slots each, of 4, a replica of 1, 5, one of 2, or the greatest id, a master without slots.
func thirds(self int) conf.State {
	s := conf.State{ID: self, Epochs: epoch.Epochs{Current: 9, Vote: 6}}
	for _, k := range []conf.Known{{ID: 1, Config: 1}, {ID: 2, Config: 2}, {ID: 3, Config: 3}, {ID: 4, Master: 1}, {ID: 5, Master: 2, Config: 5}, {ID: topID, Config: 7}} {
		if k.ID <= 3 {
			share, _ := slots.Share(3, k.ID-1)
			s.Table, _, _ = s.Table.Claim(k.ID, k.Config, share)
		}
		if k.ID == self {
			s.Master, s.Epochs.Config = k.Master, k.Config
		} else {
			s.Known = append(s.Known, k)
		}
	}
	return s
}

// who is a packet of a kind of one of the nodes of thirds.
func who(kind, id int) wire.Packet {
	s := thirds(id)
	p := wire.Packet{Kind: kind, From: id, Epoch: 9, Config: s.Epochs.Config, Master: s.Master}
	if s.Master == 0 {
		p.Slots = s.Table.Of(id)
	}
	return p
}

// hear delivers a packet.
func hear(t *testing.T, n *node.Node, p wire.Packet, now int) {
	t.Helper()
	b, e := wire.Encode(p)
	if e != api.OK {
		t.Fatalf("%+v: %d", p, e)
	}
	wantDone(t, n.Deliver(b, now))
}

// fails has a node told by another one that a third one has failed.
func fails(t *testing.T, n *node.Node, by, about, now int) {
	t.Helper()
	p := who(4, by)
	p.About = about
	hear(t, n, p, now)
}

// wantDone holds that a call was answered OK.
func wantDone(t *testing.T, a node.Answer) {
	t.Helper()
	if a.E != api.OK {
		t.Fatal(a.E)
	}
}

// keys are a key for each slot.
func keys(t *testing.T) [64]string {
	t.Helper()
	h, list, have := slot.New(), [64]string{}, 0
	for i := 0; have < 64; i++ {
		key := "key " + strconv.Itoa(i)
		if at := h.Slot(key); list[at] == "" {
			list[at] = key
			have++
		}
	}
	return list
}

// wantWay holds where a node sends a key, each time that it is asked.
func wantWay(t *testing.T, n *node.Node, key string, must route.Way) {
	t.Helper()
	for range 2 {
		if got := route.Route(n, key); got != must {
			t.Fatalf("Route of %.40q = %v, want %v", key, got, must)
		}
	}
}

// wantWays holds where a node sends a key of each slot of a stretch.
func wantWays(t *testing.T, n *node.Node, first, last, kind, to int) {
	t.Helper()
	list := keys(t)
	for at := first; at <= last; at++ {
		wantWay(t, n, list[at], route.Way{Kind: kind, Slot: at, To: to})
	}
}

// P18.1: the slot is the key's, whatever the key is.
func TestSlotOfKeys(t *testing.T) {
	master, none := of(t, thirds(2)), of(t, conf.State{ID: 7})
	for key, must := range map[string]int{"foo": 22, "{foo}x": 22, "x{foo}": 22, "": 0, "{}": -1, "{}foo": -1, "a{b{c}d}": -1, " ": -1, "\x00": -1, "\xff\xfe": -1, "FOO": -1, strings.Repeat("k", 100000): -1} {
		if must < 0 {
			must = slot.New().Slot(key)
		}
		wantWay(t, none, key, route.Way{Kind: down, Slot: must})
		switch {
		case must <= 20:
			wantWay(t, master, key, route.Way{Kind: moved, Slot: must, To: 1})
		case must <= 41:
			wantWay(t, master, key, route.Way{Kind: here, Slot: must})
		default:
			wantWay(t, master, key, route.Way{Kind: moved, Slot: must, To: 3})
		}
	}
}

// P18.1: each slot by who has it, of masters, replicas and who has nothing.
func TestWaysOfThirds(t *testing.T) {
	for _, self := range []int{1, 2, 3, 4, 5, topID} {
		n := of(t, thirds(self))
		for owner, ends := range map[int][2]int{1: {0, 20}, 2: {21, 41}, 3: {42, 63}} {
			if owner == self {
				wantWays(t, n, ends[0], ends[1], here, 0)
			} else {
				wantWays(t, n, ends[0], ends[1], moved, owner)
			}
		}
	}
}

// P18.1: the examples.
func TestWaysOfExamples(t *testing.T) {
	s := conf.State{ID: 1, Known: []conf.Known{{ID: 2}}}
	s.Table, _, _ = s.Table.Claim(1, 0, all)
	n := of(t, s)
	wantWays(t, n, 0, 63, here, 0)
	if got := route.Text(route.Route(n, "foo")); got != "HERE 22" {
		t.Error(got)
	}
	s.Table, _, _ = s.Table.Claim(2, 1, all)
	n = of(t, s)
	wantWays(t, n, 0, 63, moved, 2)
	if got := route.Text(route.Route(n, "foo")); got != "MOVED 22 2" {
		t.Error(got)
	}
}

// P18.1: what nobody has is down, of masters and replicas, of who knows nobody too.
func TestWaysOfNobody(t *testing.T) {
	wantWays(t, of(t, conf.State{ID: 1}), 0, 63, down, 0)
	wantWays(t, of(t, conf.State{ID: 1, Master: 2}), 0, 63, down, 0)
	wantWays(t, of(t, conf.State{ID: topID, Known: []conf.Known{{ID: 1}, {ID: 2}}}), 0, 63, down, 0)
	n := of(t, thirds(2))
	wantDone(t, n.Do(node.Command{Kind: 4, Set: 1<<22 | 1<<41}, 0))
	wantWays(t, n, 21, 21, here, 0)
	wantWays(t, n, 22, 22, down, 0)
	wantWays(t, n, 23, 40, here, 0)
	wantWays(t, n, 41, 41, down, 0)
	wantDone(t, n.Do(node.Command{Kind: 2, ID: 3}, 0))
	wantWays(t, n, 0, 20, moved, 1)
	wantWays(t, n, 42, 63, down, 0)
	wantDone(t, n.Do(node.Command{Kind: 9}, 0))
	wantWays(t, n, 0, 63, down, 0)
}

// P18.1: what is the own of a node that is no master is down.
func TestWaysOfOwnReplica(t *testing.T) {
	s := conf.State{ID: 3, Master: 8, Known: []conf.Known{{ID: 8}}}
	s.Table, _, _ = s.Table.Claim(3, 0, 0b1111)
	s.Table, _, _ = s.Table.Claim(8, 0, 0b110000)
	n := of(t, s)
	wantWays(t, n, 0, 3, down, 0)
	wantWays(t, n, 4, 5, moved, 8)
	wantWays(t, n, 6, 63, down, 0)
	s.Master = 9 // whom it doesn't know
	n = of(t, s)
	wantWays(t, n, 0, 3, down, 0)
	wantWays(t, n, 4, 5, moved, 8)
	s.Master = 0
	wantWays(t, of(t, s), 0, 3, here, 0)
}

// P18.1: an owner is whom the table names, whether that one is a master or not, and whatever its id is.
func TestWaysOfOwners(t *testing.T) {
	s := conf.State{ID: 3, Known: []conf.Known{{ID: 1, Master: 3}, {ID: 2, Master: 1}, {ID: 10, Master: 77}, {ID: topID, Config: 1 << 48}}}
	s.Table, _, _ = s.Table.Claim(1, 1<<48, 1)
	s.Table, _, _ = s.Table.Claim(2, 0, 0b10)
	s.Table, _, _ = s.Table.Claim(10, 5, 0b100)
	s.Table, _, _ = s.Table.Claim(topID, 3, 1<<63)
	s.Table, _, _ = s.Table.Claim(3, 7, 0b1000)
	n := of(t, s)
	for at, owner := range []int{1, 2, 10} {
		wantWays(t, n, at, at, moved, owner)
	}
	wantWays(t, n, 3, 3, here, 0)
	wantWays(t, n, 4, 62, down, 0)
	wantWays(t, n, 63, 63, moved, topID)
}

// P18.1: an owner that has failed, at 0 too, is down, until it is held to be well again; others go on being moved.
func TestWaysOfFailed(t *testing.T) {
	for _, at := range []int{0, 1, 700} {
		n := of(t, thirds(2))
		fails(t, n, 3, 1, at)
		wantWays(t, n, 0, 20, down, 0)
		wantWays(t, n, 21, 41, here, 0)
		wantWays(t, n, 42, 63, moved, 3)
		fails(t, n, 3, 4, at) // who has nothing
		wantWays(t, n, 42, 63, moved, 3)
		hear(t, n, who(2, 1), at+2000)
		wantWays(t, n, 0, 20, down, 0)
		hear(t, n, who(2, 1), at+2001)
		wantWays(t, n, 0, 20, moved, 1)
	}
}

// P18.1: an owner that is late only is moved to.
func TestWaysOfLate(t *testing.T) {
	n := of(t, thirds(2))
	wantDone(t, n.Tick(500, 0))
	wantDone(t, n.Tick(1501, 0))
	if len(n.Late()) != 5 {
		t.Fatal(n.Late())
	}
	wantWays(t, n, 0, 20, moved, 1)
	wantWays(t, n, 21, 41, here, 0)
	wantWays(t, n, 42, 63, moved, 3)
}

// P18.1: a replica's master that has failed is down, and behind a takeover its slots are here.
func TestWaysOfTakeover(t *testing.T) {
	n := of(t, thirds(4))
	wantWays(t, n, 0, 20, moved, 1)
	fails(t, n, 3, 1, 0)
	wantWays(t, n, 0, 20, down, 0)
	wantDone(t, n.Do(node.Command{Kind: 6}, 0))
	wantWays(t, n, 0, 20, here, 0)
	wantWays(t, n, 21, 41, moved, 2)
}

// P18.1: a node that is asked stays as it is.
func TestWaysChangeNothing(t *testing.T) {
	n := of(t, thirds(2))
	fails(t, n, 3, 1, 10)
	state, members := n.State(), n.Members()
	for _, key := range keys(t) {
		route.Route(n, key)
		route.Follow([]*node.Node{n}, 2, key, 3)
	}
	if !reflect.DeepEqual(n.State(), state) || !reflect.DeepEqual(n.Members(), members) {
		t.Errorf("%v, %v", n.State(), n.Members())
	}
}

// P18.1: ways as texts, with any numbers.
func TestText(t *testing.T) {
	for _, c := range []struct {
		way  route.Way
		must string
	}{
		{route.Way{Kind: here, Slot: 22}, "HERE 22"},
		{route.Way{Kind: here}, "HERE 0"},
		{route.Way{Kind: here, Slot: 63, To: 5}, "HERE 63"},
		{route.Way{Kind: here, Slot: 64}, "HERE 64"},
		{route.Way{Kind: moved, Slot: 22, To: 2}, "MOVED 22 2"},
		{route.Way{Kind: moved, Slot: 7}, "MOVED 7 0"},
		{route.Way{Kind: moved, Slot: 63, To: topID}, "MOVED 63 4294967296"},
		{route.Way{Kind: moved, Slot: -1, To: -22}, "MOVED -1 -22"},
		{route.Way{Kind: moved, Slot: math.MaxInt, To: math.MinInt}, "MOVED 9223372036854775807 -9223372036854775808"},
		{route.Way{Kind: down, Slot: 22}, "DOWN 22"},
		{route.Way{Kind: down}, "DOWN 0"},
		{route.Way{Kind: down, Slot: 10, To: 2}, "DOWN 10"},
		{route.Way{Kind: down, Slot: math.MinInt}, "DOWN -9223372036854775808"},
	} {
		if got := route.Text(c.way); got != c.must {
			t.Errorf("Text(%v) = %q, want %q", c.way, got, c.must)
		}
	}
	for _, kind := range noKinds {
		for _, w := range []route.Way{{}, {Slot: 22}, {Slot: 22, To: 2}} {
			w.Kind = kind
			if got := route.Text(w); got != "" {
				t.Errorf("Text(%v) = %q", w, got)
			}
		}
	}
}
