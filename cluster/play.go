package cluster

import (
	"grapevine/api"
	"grapevine/command"
	"grapevine/net"
	"grapevine/node"
	"grapevine/wire"
)

// The kinds of ops: of the messages under way, and of one node.
const (
	opDeliver = iota + 1
	opDrop
	opDouble
	opTick
	opCommand
	opArm
	opOff
	opOn
	opInject
)

// By how much a clock goes on in one tick, and how far in all.
const (
	maxTick  = 1 << 20
	maxClock = 1 << 38
)

// lastCommand is the last kind of lines that are a node's commands; the others are questions.
const lastCommand = 9

// Play does what befalls the cluster.
func (c *Cluster) Play(o Op) Answer {
	switch {
	case o.Kind >= opDeliver && o.Kind <= opDouble:
		return c.playOnNet(o)
	case o.Kind >= opTick && o.Kind <= opInject:
		return c.playOnNode(o)
	}
	return Answer{E: api.ErrLine}
}

// pick is the place of some that a number names.
func pick(n, some int) int {
	n %= some // ahead of the sign, as the least number has no counterpart
	return max(n, -n)
}

// playOnNet does what befalls a message under way.
func (c *Cluster) playOnNet(o Op) Answer {
	some := c.net.Len()
	if some == 0 {
		return Answer{E: api.ErrPick}
	}
	i := pick(o.N, some)
	switch o.Kind {
	case opDeliver:
		return c.deliver(i)
	case opDrop:
		c.net.Take(i)
	case opDouble:
		if !c.net.Double(i) {
			return Answer{E: api.ErrFull}
		}
	}
	return Answer{}
}

// deliver lets a message come to its node; that of nobody is lost.
func (c *Cluster) deliver(i int) Answer {
	message, _ := c.net.Take(i)
	for _, m := range c.machines {
		if m.config.ID == message.To {
			return c.hand(m, message.Data)
		}
	}
	return Answer{E: api.ErrDown}
}

// playOnNode does what befalls a node, its disk or its clock.
func (c *Cluster) playOnNode(o Op) Answer {
	if !c.has(o.Node) {
		return Answer{E: api.ErrPick}
	}
	m := c.machines[o.Node]
	switch o.Kind {
	case opTick:
		return c.tick(m, o.N, o.Draw)
	case opCommand:
		return c.order(m, o.Line)
	case opArm:
		m.disk.Arm(o.N)
	case opOff:
		m.node = nil
	case opOn:
		m.disk.Crash(o.Keep)
		return Answer{E: m.start()}
	case opInject:
		return c.hand(m, o.Data)
	}
	return Answer{}
}

// hand hands bytes to a node.
func (c *Cluster) hand(m *machine, b []byte) Answer {
	if m.node == nil {
		return Answer{E: api.ErrDown}
	}
	return c.heed(m, m.node.Deliver(b, m.clock))
}

// tick lets a node's time pass; its clock goes on while it is off, too.
func (c *Cluster) tick(m *machine, ms, draw int) Answer {
	if ms < 0 || ms > maxTick {
		return Answer{E: api.ErrForm}
	}
	m.clock = min(m.clock+ms, maxClock)
	if m.node == nil {
		return Answer{E: api.ErrDown}
	}
	return c.heed(m, m.node.Tick(m.clock, draw))
}

// order does what an administrator writes to a node, or answers it.
func (c *Cluster) order(m *machine, text string) Answer {
	if m.node == nil || m.node.Stopped() {
		return Answer{E: api.ErrDown}
	}
	l, e := command.Parse(text)
	switch {
	case e != api.OK:
		return Answer{E: e}
	case l.Kind <= lastCommand:
		return c.heed(m, m.node.Do(node.Command{Kind: l.Kind, ID: l.ID, Set: l.Set}, m.clock))
	}
	reply, e := command.Ask(m.node, l)
	return Answer{E: e, Reply: reply}
}

// heed sends what a node's call sends, and keeps its events.
func (c *Cluster) heed(m *machine, a node.Answer) Answer {
	for _, out := range a.Out {
		c.send(m.config.ID, out)
	}
	c.events = append(c.events, copied(a.Events)...) // copied, as the answer tells them, too
	return Answer{E: a.E, Events: a.Events}
}

// send puts a packet on its way. A node makes none that isn't right; and where the net is full, the net counts what is lost.
func (c *Cluster) send(from int, out node.Out) {
	b, _ := wire.Encode(out.Packet)
	c.net.Put(net.Message{From: from, To: out.To, Data: b})
}
