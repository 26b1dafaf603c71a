package command_test

import (
	"fmt"
	"math/rand"
	"slices"
	"strconv"
	"strings"
	"testing"

	"grapevine/api"
	"grapevine/claims"
	"grapevine/command"
	"grapevine/conf"
	"grapevine/disk"
	"grapevine/keep"
	"grapevine/node"
	"grapevine/slots"
	"grapevine/wire"
)

// digits is a number's text.
func digits(n int) string { return strconv.Itoa(n) }

// slotsText is the text of what somebody has in a table, as layer 2 words it.
func slotsText(table claims.Table, id int) string {
	var parts []string
	for i := 0; i < 64; i++ {
		if table.Owner[i] != id {
			continue
		}
		j := i
		for j < 63 && table.Owner[j+1] == id {
			j++
		}
		if i == j {
			parts = append(parts, fmt.Sprint(i))
		} else {
			parts = append(parts, fmt.Sprintf("%d-%d", i, j))
		}
		i = j
	}
	return strings.Join(parts, " ")
}

// ownersOf are all that have slots, and how many nobody has.
func ownersOf(table claims.Table) (list []int, free int) {
	for _, id := range table.Owner {
		switch {
		case id == 0:
			free++
		case !slices.Contains(list, id):
			list = append(list, id)
		}
	}
	slices.Sort(list)
	return list, free
}

// told is what a node is to answer, as the chapter words it, of what the node tells of itself.
func told(n *node.Node, kind int) string {
	s := n.State()
	var lines []string
	switch kind {
	case askNodes:
		of := map[int]string{s.ID: fmt.Sprintf("%d myself %d %d %s\n", s.ID, s.Master, s.Epochs.Config, slotsText(s.Table, s.ID))}
		ids := []int{s.ID}
		for _, m := range n.Members() {
			how := "well"
			if slices.Contains(n.Late(), m.ID) {
				how = "late"
			}
			if m.FailAt >= 0 {
				how = "failed"
			}
			of[m.ID] = fmt.Sprintf("%d %s %d %d %s\n", m.ID, how, m.Master, m.Config, slotsText(s.Table, m.ID))
			ids = append(ids, m.ID)
		}
		slices.Sort(ids)
		for _, id := range ids {
			lines = append(lines, of[id])
		}
	case askSlots:
		owners, _ := ownersOf(s.Table)
		for _, id := range owners {
			lines = append(lines, fmt.Sprintf("%d %s\n", id, slotsText(s.Table, id)))
		}
	case askInfo:
		owners, free := ownersOf(s.Table)
		state, well := "fail", 0
		for _, id := range owners {
			if id == s.ID || slices.ContainsFunc(s.Known, func(k conf.Known) bool { return k.ID == id }) && !hasFailed(n, id) {
				well++
			}
		}
		if free == 0 && 2*well > len(owners) {
			state = "ok"
		}
		lines = append(lines, fmt.Sprintf("state %s\nassigned %d\nknown %d\nservers %d\nepoch %d\n", state, 64-free, 1+len(s.Known), len(owners), s.Epochs.Current))
	}
	return strings.Join(lines, "")
}

// hasFailed tells whether a node holds somebody to have failed.
func hasFailed(n *node.Node, id int) bool {
	for _, m := range n.Members() {
		if m.ID == id {
			return m.FailAt != -1
		}
	}
	return false
}

// anySet is a set of slots.
func anySet(r *rand.Rand) slots.Set {
	s, _ := slots.Share(4, r.Intn(4))
	switch r.Intn(4) {
	case 0:
		return slots.Set(r.Uint64())
	case 1:
		return slots.Set(1) << r.Intn(64)
	}
	return s
}

// anyState is a state of a node that knows some others.
func anyState(r *rand.Rand) conf.State {
	ids := r.Perm(20)[:1+r.Intn(8)]
	s := conf.State{ID: 1 + ids[0]}
	slices.Sort(ids)
	s.Epochs.Current = 1 + r.Intn(30)
	s.Epochs.Config = r.Intn(1 + s.Epochs.Current)
	owners := 1 + r.Intn(3)
	for i, id := range ids {
		if i < owners {
			s.Table, _, _ = s.Table.Claim(1+id, i, anySet(r)|slots.Set(r.Uint64()))
		}
		if 1+id != s.ID {
			s.Known = append(s.Known, conf.Known{ID: 1 + id, Config: r.Intn(30)})
		}
	}
	if r.Intn(2) == 0 {
		s.Table, _, _ = s.Table.Claim(1+ids[0], 0, 1<<64-1)
	}
	if r.Intn(3) == 0 {
		s.Master = 30
	}
	return s
}

// step makes any call of a node.
func step(r *rand.Rand, n *node.Node, now int) {
	members := n.Members()
	switch k := r.Intn(10); {
	case k < 3 || len(members) == 0:
		n.Tick(now, r.Intn(500))
	case k < 4:
		n.Do(node.Command{Kind: r.Intn(10), ID: 1 + r.Intn(21), Set: anySet(r)}, now)
	default:
		by := members[r.Intn(len(members))]
		p := wire.Packet{Kind: 1 + r.Intn(5), From: by.ID, Epoch: 30, Config: by.Config, Slots: n.State().Table.Of(by.ID)}
		if r.Intn(10) == 0 {
			p.Master, p.Slots = 30, 0
		}
		about := members[r.Intn(len(members))].ID
		switch {
		case p.Kind == 4:
			p.About = about
		case p.Kind == 5:
			p.About, p.AboutConfig, p.AboutSlots = about, r.Intn(30), anySet(r)
		case about != by.ID:
			p.Section = []wire.Entry{{ID: about, State: r.Intn(3)}}
		}
		if b, e := wire.Encode(p); e == api.OK {
			n.Deliver(b, now)
		}
	}
}

// P17.2: whatever a node came to, it is answered as the chapter words it.
func TestAnyAnswers(t *testing.T) {
	r := rand.New(rand.NewSource(19))
	seen := map[string]int{}
	for range 400 {
		d, s, now := disk.New(api.MaxDisk), anyState(r), 0
		if e := keep.Save(d, s); e != api.OK {
			t.Fatal(e)
		}
		n, e := node.Start(node.Config{ID: s.ID, Timeout: 100}, d, 0)
		if e != api.OK {
			t.Fatal(e)
		}
		for range 40 {
			now += r.Intn(60)
			step(r, n, now)
			wantTold(t, n, command.Line{Kind: askMyID}, digits(s.ID)+"\n")
			for _, kind := range []int{askNodes, askSlots, askInfo} {
				must := told(n, kind)
				wantTold(t, n, command.Line{Kind: kind}, must)
				for _, word := range []string{" well ", " late ", " failed ", "state ok", "state fail"} {
					seen[word] += strings.Count(must, word)
				}
			}
			for id := range 23 {
				must := digits(len(n.Reports(id))) + "\n"
				seen["count "+must]++
				wantTold(t, n, command.Line{Kind: askCount, ID: id}, must)
			}
		}
	}
	for _, what := range []string{" well ", " late ", " failed ", "state ok", "state fail", "count 0\n", "count 1\n", "count 2\n"} {
		t.Logf("%q: %d", what, seen[what])
		if seen[what] < 50 {
			t.Errorf("%q was there %d times only", what, seen[what])
		}
	}
}
