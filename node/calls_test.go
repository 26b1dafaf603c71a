package node_test

import (
	"fmt"
	"math"
	"math/rand"
	"reflect"
	"slices"
	"testing"

	"grapevine/api"
	"grapevine/claims"
	"grapevine/conf"
	"grapevine/disk"
	"grapevine/epoch"
	"grapevine/keep"
	"grapevine/node"
	"grapevine/slots"
	"grapevine/wire"
)

// textOf is what is told of a thing, alike of nil and empty lists.
func textOf(thing any) string { return fmt.Sprintf("%+v", thing) }

// isSame tells whether two things are the same. (Their texts alone would tell it too, but slowly.)
func isSame(a, b any) bool { return reflect.DeepEqual(a, b) || textOf(a) == textOf(b) }

// wantSame holds that two things are the same.
func wantSame(t *testing.T, what string, got, must any) {
	t.Helper()
	if !isSame(got, must) {
		t.Fatalf("%s:\n%+v, want\n%+v", what, got, must)
	}
}

// pair is a node, its model and their disk.
type pair struct {
	t    *testing.T
	d    *disk.Disk
	n    *node.Node
	m    *model
	seen map[string]int // how often each answer was there
}

// paired starts a node and its model on a disk.
func paired(t *testing.T, d *disk.Disk, c node.Config, now int, seen map[string]int) *pair {
	t.Helper()
	n, e := node.Start(c, d, now)
	if n == nil || e != api.OK {
		t.Fatalf("Start(%v, %d) = %v, %d", c, now, n, e)
	}
	s, e := keep.Load(d)
	if e != api.OK {
		t.Fatalf("nothing is kept: %d", e)
	}
	p := &pair{t, d, n, modelOf(s, c.Timeout, now), seen}
	p.wantAlike("Start")
	return p
}

// wantAlike holds all that a node tells against its model.
func (p *pair) wantAlike(what string) {
	p.t.Helper()
	wantSame(p.t, what+": State", p.n.State(), p.m.state())
	wantSame(p.t, what+": Members", p.n.Members(), p.m.list())
	wantSame(p.t, what+": Late", p.n.Late(), p.m.late())
	for id := range 8 {
		wantSame(p.t, what+": Reports", p.n.Reports(id), p.m.by(id))
	}
	wantSame(p.t, what+": Offset, Stopped", []any{p.n.Offset(), p.n.Stopped()}, []any{p.m.offset, false})
}

// wantKept holds that a disk has a state.
func wantKept(t *testing.T, what string, d *disk.Disk, must conf.State) {
	t.Helper()
	kept, e := keep.Load(d)
	wantSame(t, what+": what is kept", []any{kept, e}, []any{must, api.OK})
}

// wantAnswer holds an answer, and what is kept ahead of it, against the model's; a node that is stopped by it is started anew.
func (p *pair) wantAnswer(what string, was conf.State, got, must node.Answer) node.Answer {
	p.t.Helper()
	wantSame(p.t, what, got, must)
	p.seen[what[:2]+fmt.Sprint(got.E)]++
	for _, v := range got.Events {
		p.seen[fmt.Sprint("event ", v.Kind)]++
	}
	for _, o := range got.Out {
		p.seen[fmt.Sprint("packet ", o.Packet.Kind)]++
		if s := p.m.epochs; !o.Packet.Right() || o.Packet.Epoch > s.Current || o.Packet.Config > s.Config {
			p.t.Fatalf("%s: %+v of %+v", what, o, s)
		}
	}
	if p.d.Down() {
		return p.again(what, was, got)
	}
	p.d.Arm(-1)
	p.wantAlike(what)
	if !isSame(was, p.n.State()) {
		wantKept(p.t, what, p.d, p.n.State())
	}
	if !keep.Carry(was, p.n.State()) {
		p.t.Fatalf("%s: an epoch went down: %+v, %+v", what, was.Epochs, p.n.State().Epochs)
	}
	return got
}

// again starts a node anew whose disk went down.
func (p *pair) again(what string, was conf.State, got node.Answer) node.Answer {
	p.t.Helper()
	for _, a := range []node.Answer{p.n.Tick(-1, 0), p.n.Deliver(nil, p.m.now), p.n.Do(node.Command{}, 0)} {
		wantSame(p.t, what+": stopped", a, node.Answer{E: api.ErrDown})
	}
	if !p.n.Stopped() {
		p.t.Fatalf("%s: it isn't stopped", what)
	}
	p.d.Crash([]int{p.m.now % 300})
	*p = *paired(p.t, p.d, node.Config{ID: p.m.id, Timeout: p.m.timeout}, p.m.now, p.seen)
	wantSame(p.t, what+": what is kept behind a crash", p.n.State(), was)
	return got
}

// arm lets the disk go down at one of its next calls, and tells what that comes to for who saves.
func (p *pair) arm(n int) api.Errno {
	p.d.Arm(n)
	if n >= 0 && n < 3 {
		return api.ErrDown
	}
	return api.OK
}

// deliver delivers bytes to both.
func (p *pair) deliver(b []byte, now int, armed int) node.Answer {
	p.t.Helper()
	was, e := p.n.State(), p.arm(armed)
	must := p.m.call(now, e, func() api.Errno { return p.m.deliver(b) })
	return p.wantAnswer(fmt.Sprint("deliver ", b), was, p.n.Deliver(slices.Clone(b), now), must)
}

// tick lets time pass for both.
func (p *pair) tick(now, draw int, armed int) node.Answer {
	p.t.Helper()
	was, e := p.n.State(), p.arm(armed)
	must := p.m.call(now, e, func() api.Errno { p.m.tick(draw); return api.OK })
	return p.wantAnswer(fmt.Sprint("tick ", now, draw), was, p.n.Tick(now, draw), must)
}

// do does a command at both.
func (p *pair) do(c node.Command, now int, armed int) node.Answer {
	p.t.Helper()
	was, e := p.n.State(), p.arm(armed)
	must := p.m.call(now, e, func() api.Errno { return p.m.do(c) })
	return p.wantAnswer(fmt.Sprint("command ", c), was, p.n.Do(c, now), must)
}

// world is of which numbers a run makes its packets and commands.
type world struct {
	*rand.Rand
	ids, epoch int // how many nodes there are, and the least epoch
}

func (w world) id() int {
	if w.Intn(60) == 0 {
		return []int{math.MinInt, -1, 0, 1 << 32, 1<<32 + 1, math.MaxInt}[w.Intn(6)]
	}
	return 1 + w.Intn(w.ids)
}

// set is mostly a share of one of three, and now and then any slots.
func (w world) set() slots.Set {
	switch w.Intn(8) {
	case 0:
		return slots.Set(w.Uint64())
	case 1:
		return 0
	case 2:
		return slots.Set(1) << w.Intn(64)
	}
	s, _ := slots.Share(3, w.Intn(3))
	return s
}

// now is a time that is mostly later than the last one.
func (w world) now(m *model) int {
	switch w.Intn(60) {
	case 0:
		return m.now - w.Intn(2*m.timeout)
	case 1:
		return []int{math.MinInt, -1, 1<<38 + 1, math.MaxInt}[w.Intn(4)]
	case 2:
		return min(m.now+30000*w.Intn(3), 1<<38)
	}
	return min(m.now+w.Intn(1+m.timeout/2), 1<<38)
}

// near is an epoch near to those that a node has.
func (w world) near(m *model) int {
	e := []int{m.epochs.Current, m.epochs.Config, m.epochs.Vote, w.epoch}[w.Intn(4)] + w.Intn(4) - 1
	return min(max(e, 0), 1<<48)
}

// packet is a packet of somebody, mostly such as a node would be sent.
func (w world) packet(m *model) []byte {
	p := wire.Packet{Kind: 1 + w.Intn(7), From: 1 + w.Intn(w.ids), Epoch: w.near(m), Offset: w.Intn(5)}
	if p.From == m.id && w.Intn(10) > 0 {
		p.From = 1 + p.From%w.ids
	}
	if m.stand.epoch != 0 && w.Intn(2) == 0 {
		p.Kind, p.From, p.Epoch = 7, m.stand.voters[w.Intn(len(m.stand.voters))], m.stand.epoch
	}
	if o, is := m.members[p.From]; is && w.Intn(4) > 0 {
		p.Master, p.Slots, p.Config = o.Master, m.has(p.From), o.Config
	} else if w.Intn(2) == 0 {
		p.Slots, p.Config = w.set(), w.near(m)
	} else if p.Master = 1 + w.Intn(w.ids); p.Master == p.From {
		p.Master = 0
	}
	if p.Master != 0 {
		p.Slots = 0
	}
	p.Epoch = max(p.Epoch, p.Config)
	switch p.Kind {
	case 1, 2, 3:
		for _, k := range w.Perm(w.ids)[:w.Intn(4)] {
			if k+1 != p.From {
				p.Section = append(p.Section, wire.Entry{ID: k + 1, State: w.Intn(3)})
			}
		}
	case 4:
		p.About = 1 + w.Intn(w.ids)
		if m.master != 0 {
			p.About = m.master
		}
	case 5:
		p.About, p.AboutConfig, p.AboutSlots = 1+w.Intn(w.ids), w.near(m), w.set()
	case 6:
		p.Epoch = min(m.epochs.Current+w.Intn(2), 1<<48)
	case 7:
		p.Epoch = max(p.Epoch, p.Config)
	}
	b, e := wire.Encode(p)
	if e != api.OK {
		return []byte{0x47}
	}
	if w.Intn(50) == 0 {
		b[w.Intn(len(b))] ^= 1 << w.Intn(8)
	}
	return b
}

// command is a command, of any kind, but seldom one that ends all.
func (w world) command(m *model) node.Command {
	c := node.Command{Kind: w.Intn(11), ID: w.id(), Set: w.set()}
	switch {
	case w.Intn(100) == 0:
		c.Kind = []int{math.MinInt, -1, 10, math.MaxInt}[w.Intn(4)]
	case c.Kind == 9 && w.Intn(10) > 0 || c.Kind == 2 && w.Intn(3) > 0:
		c.Kind = 1
	case c.Kind == 4 && w.Intn(2) == 0:
		c.Set &= m.has(m.id)
	case c.Kind == 8 && w.Intn(2) == 0:
		c.ID = []int{-1, 0, 1 << 48, 1<<48 + 1}[w.Intn(4)]
	}
	return c
}

// step makes a call of both.
func (w world) step(p *pair) {
	p.t.Helper()
	now, armed := w.now(p.m), w.Intn(120)-5
	switch k := w.Intn(100); {
	case k < 60:
		p.deliver(w.packet(p.m), now, armed)
	case k < 85:
		if p.m.plan >= 0 && p.m.plan <= now && w.Intn(3) == 0 {
			armed = w.Intn(3)
		}
		p.tick(now, []int{-1, 0, 499, 500, math.MaxInt, math.MinInt}[w.Intn(6)], armed)
	case k < 99:
		p.do(w.command(p.m), now, armed)
	default:
		*p = *paired(p.t, p.d, node.Config{ID: p.m.id, Timeout: p.m.timeout}, p.m.now, p.seen)
	}
}

// anyState is a state that was kept: mostly of three masters and some replicas.
func (w world) anyState(id int) conf.State {
	s := conf.State{ID: id, Epochs: epoch.Epochs{Current: min(w.epoch+w.Intn(4), 1<<48)}}
	s.Epochs.Config, s.Epochs.Vote = max(0, s.Epochs.Current-w.Intn(2)), max(0, s.Epochs.Current-w.Intn(2))
	for k := range min(w.ids, 16) {
		master := 0
		if k >= 3 {
			master = 1 + k%3
		} else {
			set, _ := slots.Share(3, k)
			s.Table, _, _ = s.Table.Claim(k+1, min(w.epoch+k, 1<<48), set)
		}
		if k+1 == id {
			s.Master = master
		} else {
			s.Known = append(s.Known, conf.Known{ID: k + 1, Master: master, Config: min(w.epoch+k, 1<<48)})
		}
	}
	if w.Intn(5) == 0 {
		s.Known, s.Table, s.Master = nil, claims.Table{}, 0
	}
	return s
}

// P16.1 to P16.4: any calls in any order answer and keep what the chapter says.
func TestCalls(t *testing.T) {
	r := rand.New(rand.NewSource(16))
	seen := map[string]int{}
	for range 300 {
		w := world{r, []int{4, 5, 6, 7, 20}[r.Intn(5)], []int{0, 0, 0, 5, 1<<48 - 12}[r.Intn(5)]}
		d := disk.New(api.MaxDisk)
		id := 1 + r.Intn(6)
		if e := keep.Save(d, w.anyState(min(id, w.ids))); e != api.OK {
			t.Fatal(e)
		}
		timeout := []int{2, 3, 100, 1000, 1000, 1 << 20}[r.Intn(6)]
		p := paired(t, d, node.Config{ID: min(id, w.ids), Timeout: timeout}, []int{0, 1, 5000, 1<<38 - 100000}[r.Intn(4)], seen)
		for range 300 {
			w.step(p)
		}
	}
	for _, what := range []string{
		"de0", "de10", "de11", "de14", "de30", "de31", "de33", "de34", "de50", "ti0", "ti10", "ti50",
		"co0", "co10", "co20", "co21", "co30", "co31", "co32", "co33", "co34", "co35", "co12", "co13", "co50",
		"packet 1", "packet 2", "packet 3", "packet 4", "packet 5", "packet 6", "packet 7", "event 1", "event 2", "event 3",
	} {
		t.Logf("%s: %d", what, seen[what])
		if seen[what] < 20 {
			t.Errorf("%s was there %d times only", what, seen[what])
		}
	}
}
