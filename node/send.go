package node

import (
	"slices"

	"grapevine/api"
	"grapevine/wire"
)

// The kinds of packets.
const (
	packetPing = iota + 1
	packetPong
	packetMeet
	packetFail
	packetUpdate
	packetAsk
	packetAck
)

// The states of a section's entries.
const (
	stateWell = iota
	stateSuspect
	stateFailed
)

// header is a packet of a kind that says who self is, and no more.
func (n *Node) header(kind int) wire.Packet {
	p := wire.Packet{
		Kind: kind, From: n.self(), Epoch: n.epochs.Current, Config: n.epochs.Config,
		Master: n.master, Offset: n.offset,
	}
	if n.master == nobody {
		p.Slots = n.table.Of(n.self())
	}
	return p
}

// hasSection tells whether packets of a kind speak of other members.
func hasSection(kind int) bool {
	return kind == packetPing || kind == packetPong || kind == packetMeet
}

// stateOfMember is what is told of a member.
func (n *Node) stateOfMember(id int) int {
	switch {
	case n.hasFailed(id):
		return stateFailed
	case n.isLate(id):
		return stateSuspect
	}
	return stateWell
}

// section is what is told to somebody of those of whom it is time to speak.
func (n *Node) section(to int) []wire.Entry {
	var list []wire.Entry
	for _, id := range n.roster.Next(api.MaxSection, to) {
		list = append(list, wire.Entry{ID: id, State: n.stateOfMember(id)})
	}
	return list
}

// send sends a packet to a member.
func (t *turn) send(to int, p wire.Packet) {
	if hasSection(p.Kind) {
		p.Section = t.section(to)
	}
	t.answer.Out = append(t.answer.Out, Out{To: to, Packet: p})
}

// sendAll sends a packet to each member.
func (t *turn) sendAll(p wire.Packet) {
	for _, m := range t.roster.List() {
		t.send(m.ID, p)
	}
}

// sendUpdate tells somebody what another one has.
func (t *turn) sendUpdate(to, about int) {
	p := t.header(packetUpdate)
	p.About, p.AboutSlots = about, t.table.Of(about)
	for _, slot := range p.AboutSlots.List() {
		p.AboutConfig = max(p.AboutConfig, t.table.Epoch[slot])
	}
	t.send(to, p)
}

// sendFail tells all that somebody has failed.
func (t *turn) sendFail(about int) {
	p := t.header(packetFail)
	p.About = about
	t.sendAll(p)
}

// sendAsk asks all voters that are members for their votes.
func (t *turn) sendAsk(voters []int) {
	for _, m := range t.roster.List() {
		if slices.Contains(voters, m.ID) {
			t.send(m.ID, t.header(packetAsk))
		}
	}
}

// tell tells of an event.
func (t *turn) tell(e Event) {
	e.By = t.self()
	t.answer.Events = append(t.answer.Events, e)
}
