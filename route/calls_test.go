package route_test

import (
	"fmt"
	"math"
	"math/rand"
	"slices"
	"testing"

	"grapevine/api"
	"grapevine/conf"
	"grapevine/epoch"
	"grapevine/node"
	"grapevine/roster"
	"grapevine/route"
	"grapevine/slot"
	"grapevine/slots"
	"grapevine/wire"
)

// told is where a node is to send a key, as the chapter words it, of what the node tells of itself.
func told(n *node.Node, key string) route.Way {
	s, at := n.State(), slot.New().Slot(key)
	owner := s.Table.Owner[at]
	if owner == s.ID && s.Master == 0 {
		return route.Way{Kind: here, Slot: at}
	}
	if slices.ContainsFunc(n.Members(), func(m roster.Member) bool { return m.ID == owner && m.FailAt == -1 }) {
		return route.Way{Kind: moved, Slot: at, To: owner}
	}
	return route.Way{Kind: down, Slot: at}
}

// wording is a way's text, as the chapter words it.
func wording(w route.Way) string {
	switch w.Kind {
	case here:
		return fmt.Sprintf("HERE %d", w.Slot)
	case moved:
		return fmt.Sprintf("MOVED %d %d", w.Slot, w.To)
	case down:
		return fmt.Sprintf("DOWN %d", w.Slot)
	}
	return ""
}

// followed are the ways of a key, as the chapter words it: one node is asked behind the other.
func followed(nodes []*node.Node, from int, key string, most int) ([]route.Way, api.Errno) {
	i := slices.IndexFunc(nodes, func(n *node.Node) bool { return n.State().ID == from })
	if i < 0 {
		return nil, api.ErrNode
	}
	if most < 1 {
		return nil, api.ErrBig
	}
	w := told(nodes[i], key)
	if w.Kind != moved {
		return []route.Way{w}, api.OK
	}
	behind, e := followed(nodes, w.To, key, most-1)
	return append([]route.Way{w}, behind...), e
}

// anySet is a set of slots.
func anySet(r *rand.Rand) slots.Set {
	switch r.Intn(3) {
	case 0:
		return slots.Set(r.Uint64())
	case 1:
		return slots.Set(1) << r.Intn(64)
	}
	return all
}

// anyState is a state of an id that knows some of 1 to 7.
func anyState(r *rand.Rand, self int) conf.State {
	s := conf.State{ID: self, Epochs: epoch.Epochs{Current: 30, Config: r.Intn(30)}}
	for id := 1; id <= 7; id++ {
		if id != self && r.Intn(4) > 0 {
			s.Known = append(s.Known, conf.Known{ID: id, Config: r.Intn(30)})
			s.Table, _, _ = s.Table.Claim(id, r.Intn(30), anySet(r))
		}
	}
	if r.Intn(2) == 0 {
		s.Table, _, _ = s.Table.Claim(self, r.Intn(30), anySet(r))
	}
	if r.Intn(4) == 0 {
		s.Master = 8
	}
	return s
}

// step makes any call of a node.
func step(r *rand.Rand, n *node.Node, now int) {
	members := n.Members()
	switch k := r.Intn(10); {
	case k < 1 || len(members) == 0:
		n.Tick(now, r.Intn(500))
	case k < 3:
		n.Do(node.Command{Kind: r.Intn(9), ID: 1 + r.Intn(8), Set: anySet(r)}, now)
	default:
		by := members[r.Intn(len(members))]
		p := wire.Packet{Kind: 1 + r.Intn(5), From: by.ID, Epoch: 30, Config: by.Config, Slots: n.State().Table.Of(by.ID)}
		about := members[r.Intn(len(members))].ID
		switch p.Kind {
		case 4:
			p.About = about
		case 5:
			p.About, p.AboutConfig, p.AboutSlots = about, r.Intn(30), anySet(r)
		}
		if b, e := wire.Encode(p); e == api.OK {
			n.Deliver(b, now)
		}
	}
}

// anyKey is a key.
func anyKey(r *rand.Rand) string {
	b := make([]byte, r.Intn(12))
	for i := range b {
		b[i] = "{}ab\x00\xff"[r.Intn(6)]
	}
	return string(b) + fmt.Sprint(r.Intn(100))
}

// P18.1, P18.2: whatever nodes came to, they send keys as the chapter words it.
func TestAnyWays(t *testing.T) {
	r := rand.New(rand.NewSource(20))
	kinds, ends, far := map[int]int{}, map[api.Errno]int{}, 0
	for range 1000 {
		var list []*node.Node
		for _, i := range r.Perm(7)[:1+r.Intn(6)] {
			list = append(list, of(t, anyState(r, 1+i)))
		}
		for now := range 40 {
			n, key := list[r.Intn(len(list))], anyKey(r)
			step(r, n, now*r.Intn(200))
			must := told(n, key)
			kinds[must.Kind]++
			wantWay(t, n, key, must)
			if got := route.Text(must); got != wording(must) {
				t.Fatalf("Text(%v) = %q", must, got)
			}
			from, most := 1+r.Intn(8), r.Intn(9)-1
			ways, e := followed(list, from, key, most)
			ends[e]++
			if len(ways) > 2 {
				far++
			}
			if got, ge := route.Follow(list, from, key, most); ge != e || !slices.Equal(got, ways) {
				t.Fatalf("Follow from %d, at most %d, of %q: %v, %d, want %v, %d", from, most, key, got, ge, ways, e)
			}
		}
	}
	t.Log(kinds, ends, far)
	for _, n := range []int{kinds[here], kinds[moved], kinds[down], ends[api.OK], ends[api.ErrNode], ends[api.ErrBig], far} {
		if n < 500 {
			t.Error(kinds, ends, far)
		}
	}
}

// P18.1: any ways are written as the chapter words it.
func TestAnyTexts(t *testing.T) {
	r := rand.New(rand.NewSource(21))
	number := func() int {
		return []int{math.MinInt, -1, 0, r.Intn(64), r.Intn(topID), int(r.Uint64()), math.MaxInt}[r.Intn(7)]
	}
	for range 20000 {
		w := route.Way{Kind: r.Intn(6) - 1, Slot: number(), To: number()}
		if got := route.Text(w); got != wording(w) {
			t.Fatalf("Text(%v) = %q, want %q", w, got, wording(w))
		}
	}
}
