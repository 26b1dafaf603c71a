package node_test

import (
	"fmt"
	"math/rand"
	"slices"
	"testing"

	"grapevine/api"
	"grapevine/claims"
	"grapevine/conf"
	"grapevine/disk"
	"grapevine/epoch"
	"grapevine/keep"
	"grapevine/node"
	"grapevine/slots"
	"grapevine/wire"
)

// letter is bytes under way to a node.
type letter struct {
	to int
	b  []byte
}

// many are nodes, each with its model, their clocks, and what is under way between them.
type many struct {
	*rand.Rand
	t      *testing.T
	nodes  map[int]*pair
	clocks map[int]int
	off    map[int]bool
	way    []letter
	events []node.Event
}

// manyOf are three masters of a third of the slots each, and replicas of them, that know one another.
func manyOf(t *testing.T, r *rand.Rand, n int, seen map[string]int) *many {
	m := &many{Rand: r, t: t, nodes: map[int]*pair{}, clocks: map[int]int{}, off: map[int]bool{}}
	for id := 1; id <= n; id++ {
		d := disk.New(api.MaxDisk)
		if e := keep.Save(d, thirds(id, n)); e != api.OK {
			t.Fatal(e)
		}
		m.nodes[id] = paired(t, d, node.Config{ID: id, Timeout: 1000}, 0, seen)
	}
	return m
}

// thirds is the state of one of n nodes of which 1, 2 and 3 have a third of the slots each, with the epochs 1, 2 and 3, and the others follow 1, 2, 3, 1 and so on.
func thirds(self, n int) conf.State {
	s := conf.State{ID: self, Epochs: epoch.Epochs{Current: 5, Vote: 4}}
	for id := 1; id <= n; id++ {
		k := conf.Known{ID: id}
		if id <= 3 {
			k.Config = id
			s.Table, _, _ = s.Table.Claim(id, id, share(id))
		} else {
			k.Master = 1 + (id-1)%3
		}
		if id == self {
			s.Master, s.Epochs.Config = k.Master, k.Config
		} else {
			s.Known = append(s.Known, k)
		}
	}
	return s
}

// share is the slots of the master 1, 2 or 3 of thirds.
func share(id int) slots.Set {
	s, _ := slots.Share(3, id-1)
	return s
}

// heed puts what a call sends under way.
func (m *many) heed(a node.Answer) {
	for _, o := range a.Out {
		b, e := wire.Encode(o.Packet)
		if e != api.OK {
			m.t.Fatalf("%+v: %d", o, e)
		}
		m.way = append(m.way, letter{o.To, b})
	}
	m.events = append(m.events, a.Events...)
}

// deliver delivers what is under way at a place.
func (m *many) deliver(i, armed int) {
	l := m.way[i]
	m.way = slices.Delete(m.way, i, i+1)
	if p := m.nodes[l.to]; !m.off[l.to] {
		m.heed(p.deliver(l.b, m.clocks[l.to], armed))
	}
}

// tick lets a node's time pass.
func (m *many) tick(id, ms, armed int) {
	m.clocks[id] += ms
	if !m.off[id] {
		m.heed(m.nodes[id].tick(m.clocks[id], m.Intn(1000), armed))
	}
}

// trouble is a step in which anything may happen.
func (m *many) trouble() {
	id, armed := 1+m.Intn(len(m.nodes)), -1
	if m.Intn(15) == 0 || m.nodes[id].m.plan >= 0 && m.Intn(6) == 0 {
		armed = m.Intn(3)
	}
	switch k := m.Intn(100); {
	case k < 20:
		m.tick(id, m.Intn(500), armed)
	case k < 21:
		m.off[id] = !m.off[id]
	case k < 22 && !m.off[id]:
		c := node.Command{Kind: 6 + m.Intn(3), ID: m.Intn(9)}
		m.heed(m.nodes[id].do(c, m.clocks[id], armed))
	case len(m.way) == 0:
	case k < 28:
		i := m.Intn(len(m.way))
		m.way = slices.Delete(m.way, i, i+1)
	case k < 34:
		m.way = append(m.way, m.way[m.Intn(len(m.way))])
	default:
		m.deliver(m.Intn(len(m.way)), armed)
	}
}

// peace lets all nodes go on without faults.
func (m *many) peace() {
	clear(m.off)
	for range 80 {
		for id := 1; id <= len(m.nodes); id++ {
			m.tick(id, 250, -1)
		}
		for len(m.way) > 0 {
			m.deliver(0, -1)
		}
	}
}

// wantOneTable holds that all have the same owners, and that those who claim slots are these.
func (m *many) wantOneTable() {
	m.t.Helper()
	var first claims.Table
	for id := 1; id <= len(m.nodes); id++ {
		s := m.nodes[id].n.State()
		if id == 1 {
			first = s.Table
		}
		if s.Table.Owner != first.Owner || s.Master != 0 && s.Table.Of(id) != 0 {
			m.t.Fatalf("%d has %v of the master %d, not %v", id, s.Table.Owner, s.Master, first.Owner)
		}
	}
}

// wantFounded holds that nobody voted twice in an epoch, and nobody won without the votes of more than half.
func (m *many) wantFounded() {
	m.t.Helper()
	votes := map[[2]int]int{} // by the voter and the epoch, for whom
	wins := map[string]int{}  // by the epoch and the voters, who
	for _, v := range m.events {
		switch v.Kind {
		case 1:
			if votes[[2]int{v.By, v.Epoch}] != 0 {
				m.t.Fatalf("%+v is one of two", v)
			}
			votes[[2]int{v.By, v.Epoch}] = v.About
		case 3:
			n := 0
			for _, id := range v.Who {
				if votes[[2]int{id, v.Epoch}] == v.By {
					n++
				}
			}
			key := fmt.Sprint(v.Epoch, v.Who)
			if 2*n <= len(v.Who) || wins[key] != 0 {
				m.t.Fatalf("%+v with %d votes, behind one of %d", v, n, wins[key])
			}
			wins[key] = v.By
		}
	}
}

// P16.4 and P3: whatever befalls many nodes, each is as the chapter says, nobody votes twice or wins without votes, and all agree once no more faults come.
func TestMany(t *testing.T) {
	r := rand.New(rand.NewSource(3))
	seen := map[string]int{}
	for range 20 {
		m := manyOf(t, r, 4+r.Intn(4), seen)
		for range 2500 {
			m.trouble()
		}
		m.wantFounded()
		m.peace()
		m.wantFounded()
		m.wantOneTable()
	}
	for _, what := range []string{"event 1", "event 2", "event 3", "packet 5", "de50"} {
		t.Logf("%s: %d", what, seen[what])
		if seen[what] < 10 {
			t.Errorf("%s was there %d times only", what, seen[what])
		}
	}
}
