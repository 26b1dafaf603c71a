package cluster_test

import (
	"fmt"
	"math/rand"
	"reflect"
	"testing"

	"grapevine/api"
	"grapevine/cluster"
	"grapevine/conf"
	"grapevine/net"
	"grapevine/node"
	"grapevine/quorum"
	"grapevine/wire"
)

// watched is a cluster to which anything may happen, and what is known of it from ahead.
type watched struct {
	*rand.Rand
	t    *testing.T
	c    *cluster.Cluster
	ids  []int
	last []conf.State // with which each node answered last
	seen map[string]int
	told int // how many events were looked at
}

// watch begins a cluster of masters with a third of the slots each, and replicas of them, that know one another.
func watch(t *testing.T, r *rand.Rand, seen map[string]int) *watched {
	w := &watched{Rand: r, t: t, ids: r.Perm(9)[:4+r.Intn(5)], seen: seen}
	for i := range w.ids {
		w.ids[i]++
	}
	w.c = clusterOf(t, 1000, w.ids...)
	w.last = make([]conf.State, len(w.ids))
	for i, id := range w.ids {
		w.last[i] = conf.State{ID: id}
	}
	for i, share := range []string{"0-20", "21-41", "42-63"} {
		w.play(cluster.Op{Kind: order, Node: i, Line: "ADDSLOTS " + share})
	}
	w.meetAll()
	w.rounds(10)
	for i := 3; i < len(w.ids); i++ {
		w.play(cluster.Op{Kind: order, Node: i, Line: fmt.Sprint("REPLICATE ", w.ids[i%3])})
	}
	w.rounds(10)
	return w
}

// play plays an op, and looks at what came of it.
func (w *watched) play(o cluster.Op) cluster.Answer {
	w.t.Helper()
	under := w.c.Net().Len()
	if o.Kind == deliver || o.Kind == drop {
		under = max(under-1, 0) // as one is taken
	}
	a := w.c.Play(o)
	w.seen[fmt.Sprintf("op %d error %d", o.Kind, a.E)]++
	for i := range w.ids {
		w.lookAt(i, o)
	}
	w.wantKept(w.c.Net().List()[under:])
	w.wantFounded()
	return a
}

// lookAt holds that a node that was started anew has the state with which it last answered, and that no epoch goes down.
func (w *watched) lookAt(i int, o cluster.Op) {
	w.t.Helper()
	n := w.c.Node(i)
	if n == nil || n.Stopped() {
		return
	}
	s, was := n.State(), w.last[i]
	if o.Kind == on && o.Node == i && !reflect.DeepEqual(s, was) {
		w.t.Fatalf("started anew with %+v, not %+v", s, was)
	}
	if s.Epochs.Current < was.Epochs.Current || s.Epochs.Vote < was.Epochs.Vote || s.Epochs.Config < was.Epochs.Config {
		w.t.Fatalf("%+v: %+v behind %+v", o, s.Epochs, was.Epochs)
	}
	for _, m := range n.Members() {
		if m.FailAt >= 0 {
			w.wantMissed(m.ID)
		}
	}
	w.last[i] = s
}

// wantMissed holds that somebody saw that a node has failed.
func (w *watched) wantMissed(id int) {
	w.t.Helper()
	for _, v := range w.c.Events() {
		if v.Kind == 2 && v.About == id {
			return
		}
	}
	w.t.Fatalf("nobody saw that %d has failed", id)
}

// wantKept holds that no packet has an epoch above what its sender keeps.
func (w *watched) wantKept(sent []net.Message) {
	w.t.Helper()
	for _, m := range sent {
		p, e := wire.Decode(m.Data)
		if s := w.last[w.placeOf(m.From)]; e != api.OK || p.From != m.From || p.Epoch > s.Epochs.Current || p.Config > s.Epochs.Config {
			w.t.Fatalf("%+v of %+v: %d", p, s, e)
		}
	}
}

// placeOf is the place of an id.
func (w *watched) placeOf(id int) int {
	for i := range w.ids {
		if w.ids[i] == id {
			return i
		}
	}
	w.t.Fatalf("%d is none of %v", id, w.ids)
	return 0
}

// wantFounded holds of the events that are new what must be so of each: that nobody votes twice in an epoch, and that nobody fails or wins but by more than half.
func (w *watched) wantFounded() {
	w.t.Helper()
	all := w.c.Events()
	for ; w.told < len(all); w.told++ {
		v := all[w.told]
		w.seen[fmt.Sprint("event ", v.Kind)]++
		switch v.Kind {
		case 1:
			for _, u := range all[:w.told] {
				if u.Kind == 1 && u.By == v.By && u.Epoch == v.Epoch {
					w.t.Fatalf("%+v behind %+v", v, u)
				}
			}
		case 2:
			if owners := w.c.Table(w.placeOf(v.By)).Owners(); !quorum.Majority(owners, v.Who) {
				w.t.Fatalf("%+v of %v", v, owners)
			}
		case 3:
			if votes := votesFor(v, all[:w.told]); !quorum.Majority(v.Who, votes) {
				w.t.Fatalf("%+v by %v", v, votes)
			}
		}
	}
}

// votesFor are those who voted for a win.
func votesFor(win node.Event, ahead []node.Event) []int {
	var list []int
	for _, v := range ahead {
		if v.Kind == 1 && v.About == win.By && v.Epoch == win.Epoch {
			list = append(list, v.By)
		}
	}
	return list
}

// meetAll makes all nodes know one another.
func (w *watched) meetAll() {
	for i := range w.ids {
		for _, id := range w.ids {
			w.play(cluster.Op{Kind: order, Node: i, Line: fmt.Sprint("MEET ", id)})
		}
	}
}

// rounds lets time pass without faults.
func (w *watched) rounds(n int) {
	for range n {
		for i := range w.ids {
			w.play(cluster.Op{Kind: tick, Node: i, N: 250, Draw: w.Intn(1000)})
		}
		for w.c.Net().Len() > 0 {
			w.play(cluster.Op{Kind: deliver})
		}
	}
}

// line is a command.
func (w *watched) line() string {
	id := w.ids[w.Intn(len(w.ids))]
	switch k := w.Intn(20); {
	case k < 3:
		return fmt.Sprint("MEET ", id)
	case k < 4:
		return fmt.Sprint("FORGET ", id)
	case k < 6:
		return fmt.Sprintf("ADDSLOTS %d-%d", w.Intn(32), 32+w.Intn(32))
	case k < 8:
		return fmt.Sprint("DELSLOTS ", w.Intn(64))
	case k < 12:
		return fmt.Sprint("REPLICATE ", id)
	case k < 14:
		return "TAKEOVER"
	case k < 16:
		return "BUMP"
	case k < 18:
		return fmt.Sprint("OFFSET ", w.Intn(9))
	case k < 19 && w.Intn(3) == 0:
		return "RESET"
	}
	return []string{"NODES", "SLOTS", "INFO", fmt.Sprint("COUNT ", id), "MYID", "KEYSLOT a"}[w.Intn(6)]
}

// trouble is an op of any kind but injects; the victim is off most of the time.
func (w *watched) trouble(victim int) cluster.Op {
	o := cluster.Op{Node: w.Intn(len(w.ids)), N: w.Intn(1000)}
	switch k := w.Intn(1000); {
	case k < 650:
		o.Kind = deliver
	case k < 670:
		o.Kind = drop
	case k < 700:
		o.Kind = double
	case k < 974:
		o.Kind, o.N, o.Draw = tick, w.Intn(400), w.Intn(1000)
	case k < 978:
		o.Kind, o.Line = order, w.line()
	case k < 980:
		o.Kind, o.N = arm, w.Intn(4)
	case k < 989:
		o.Kind, o.Node = off, victim
	case k < 996 && o.Node != victim || k < 990:
		o.Kind, o.Keep = on, []int{w.Intn(400)}
	default:
		o.Kind = 10 // of which nothing comes
	}
	return o
}

// victim is a node that others follow, if there is one; who has nothing and follows nobody follows somebody from here on.
func (w *watched) victim() int {
	victim := w.Intn(len(w.ids))
	owners := w.c.Table(0).Owners()
	for i := range w.ids {
		s := w.c.Node(i).State()
		if len(owners) > 0 && s.Master == 0 && s.Table.Of(s.ID) == 0 {
			w.play(cluster.Op{Kind: order, Node: i, Line: fmt.Sprint("REPLICATE ", owners[w.Intn(len(owners))])})
		}
		if m := w.c.Node(i).State().Master; m != 0 {
			victim = w.placeOf(m)
		}
	}
	return victim
}

// peace ends all faults: who is off or stopped, and at times all others, too, are started anew; all that was forgotten is known again, and time passes.
func (w *watched) peace() {
	all := w.Intn(2) == 0
	for i := range w.ids {
		if n := w.c.Node(i); all || n == nil || n.Stopped() {
			w.play(cluster.Op{Kind: on, Node: i})
		}
		w.play(cluster.Op{Kind: arm, Node: i, N: -1})
		w.play(cluster.Op{Kind: tick, Node: i, N: 61000})
	}
	w.meetAll()
	w.rounds(30)
}

// wantOneTable holds that all have the same table, in which no replica has a slot.
func (w *watched) wantOneTable() {
	w.t.Helper()
	first := w.c.Table(0)
	for i, id := range w.ids {
		if s := w.c.Node(i).State(); s.Table.Owner != first.Owner || s.Master != 0 && s.Table.Of(id) != 0 {
			w.t.Fatalf("%d has %v of the master %d, not %v", id, s.Table.Owner, s.Master, first.Owner)
		}
	}
}

// P3: whatever befalls a cluster, nobody votes twice, fails or wins without more than half, forgets, or tells what it doesn't keep; and all come to one table once no more faults come.
func TestWhole(t *testing.T) {
	r := rand.New(rand.NewSource(20))
	seen := map[string]int{}
	for range 20 {
		w := watch(t, r, seen)
		for range 4 {
			victim := w.victim()
			for range 900 {
				w.play(w.trouble(victim))
			}
			w.peace()
			w.wantOneTable()
		}
	}
	for _, what := range []string{"event 1", "event 2", "event 3", "op 1 error 0", "op 1 error 50", "op 2 error 0", "op 3 error 0", "op 4 error 0", "op 5 error 0", "op 5 error 50", "op 6 error 0", "op 7 error 0", "op 8 error 0"} {
		t.Logf("%s: %d", what, seen[what])
		if seen[what] < 10 {
			t.Errorf("%s was there %d times only", what, seen[what])
		}
	}
}
