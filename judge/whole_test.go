package judge_test

import (
	"math/rand"
	"slices"
	"testing"

	"grapevine/api"
	"grapevine/claims"
	"grapevine/cluster"
	"grapevine/judge"
	"grapevine/node"
)

// The kinds of ops that befall the cluster here, as layer 20 numbers them.
const (
	deliver = 1
	drop    = 2
	double  = 3
	tick    = 4
	order   = 5
	off     = 7
	on      = 8
)

// ids are those of the cluster.
var ids = []int{1, 2, 3, 4, 5}

// five is a cluster of 1, 2 and 3, masters of a third of the slots each, and 4 and 5, replicas of 1, that know one another.
func five(t *testing.T) *cluster.Cluster {
	t.Helper()
	c, e := cluster.New(cluster.Setup{IDs: ids, Timeout: 1000})
	if e != api.OK {
		t.Fatal(e)
	}
	tell := func(at int, line string) {
		if a := c.Play(cluster.Op{Kind: order, Node: at, Line: line}); a.E != api.OK {
			t.Fatal(at, line, a.E)
		}
	}
	for i, line := range []string{"ADDSLOTS 0-20", "ADDSLOTS 21-41", "ADDSLOTS 42-63"} {
		tell(i, line)
	}
	for _, line := range []string{"MEET 2", "MEET 3", "MEET 4", "MEET 5"} {
		tell(0, line)
	}
	rounds(c)
	tell(3, "REPLICATE 1")
	tell(4, "REPLICATE 1")
	rounds(c)
	return c
}

// rounds lets time pass without faults.
func rounds(c *cluster.Cluster) {
	for range 30 {
		c.Round(250, 0)
	}
}

// trouble is a time in which packets are late, lost and doubled, and clocks go as they like.
func trouble(c *cluster.Cluster, r *rand.Rand) {
	for range 800 {
		o := cluster.Op{Kind: deliver, N: r.Intn(1000)}
		switch k := r.Intn(100); {
		case k < 3:
			o.Kind = drop
		case k < 6:
			o.Kind = double
		case k < 30:
			o = cluster.Op{Kind: tick, Node: r.Intn(len(ids)), N: r.Intn(300), Draw: r.Intn(1000)}
		}
		c.Play(o)
	}
}

// tablesOf are the tables of all nodes.
func tablesOf(c *cluster.Cluster) []claims.Table {
	var list []claims.Table
	for i := range ids {
		list = append(list, c.Table(i))
	}
	return list
}

// firstOf is the place of the first event of a kind.
func firstOf(kind int, events []node.Event) int {
	return slices.IndexFunc(events, func(v node.Event) bool { return v.Kind == kind })
}

// P3, P21.1 to P21.3: nothing is found in what happens in a cluster, but in what is forged of it: votes and wins that are there once more, wins without their votes, and wins of another one.
func TestWholeEvents(t *testing.T) {
	wins := 0
	for seed := range 12 {
		r, c := rand.New(rand.NewSource(int64(seed))), five(t)
		for range 4 {
			victim := c.Table(0).Owner[r.Intn(64)] - 1
			c.Play(cluster.Op{Kind: off, Node: victim})
			trouble(c, r)
			c.Play(cluster.Op{Kind: on, Node: victim})
			rounds(c)
		}
		events := c.Events()
		wantTwice(t, -1, events...)
		wantClash(t, -1, -1, events...)
		wantUnfounded(t, -1, events...)
		first := firstOf(3, events)
		if first < 0 {
			continue
		}
		wins++
		other := events[first]
		other.By = 99
		wantTwice(t, len(events), append(events, events[first])...)
		wantTwice(t, len(events), append(events, events[firstOf(1, events)])...)
		wantTwice(t, -1, append(events, events[firstOf(2, events)])...)
		wantClash(t, first, len(events), append(events, other)...)
		wantUnfounded(t, len(events), append(events, other)...)
		voteless := slices.DeleteFunc(slices.Clone(events), func(v node.Event) bool { return v.Kind == 1 })
		wantUnfounded(t, firstOf(3, voteless), voteless...)
	}
	if wins < 6 {
		t.Errorf("in %d clusters only somebody won", wins)
	}
}

// P3, P21.4: once no more faults come all tables agree, each slot has one who claims it, and the newest table is that which all have; but who goes on its own way, unheard, agrees with nobody.
func TestWholeTables(t *testing.T) {
	for seed := range 12 {
		r, c := rand.New(rand.NewSource(int64(seed))), five(t)
		c.Play(cluster.Op{Kind: off})
		trouble(c, r)
		c.Play(cluster.Op{Kind: on})
		rounds(c)
		tables := tablesOf(c)
		if !judge.Agreed(tables) || judge.Newest(ids, tables).Owner != tables[0].Owner {
			t.Fatal(tables)
		}
		for slot := range 64 {
			wantClaimants(t, ids, tables, slot, tables[0].Owner[slot])
		}
		at := slices.IndexFunc(ids, func(id int) bool { return tables[0].Of(id) == 0 })
		if a := c.Play(cluster.Op{Kind: order, Node: at, Line: "TAKEOVER"}); a.E != api.OK {
			t.Fatal(a.E)
		}
		was, tables := tables, tablesOf(c)
		taken := tables[at].Of(ids[at]).List()
		if judge.Agreed(tables) || len(taken) == 0 {
			t.Fatal(tables)
		}
		for _, slot := range taken {
			both := []int{was[0].Owner[slot], ids[at]}
			slices.Sort(both)
			wantClaimants(t, ids, tables, slot, both...)
		}
		wantNewest(t, ids, tables, tables[at])
		rounds(c)
		if tables = tablesOf(c); !judge.Agreed(tables) || tables[0].Owner[taken[0]] != ids[at] {
			t.Fatal(tables)
		}
	}
}
