package node

import (
	"grapevine/api"
	"grapevine/epoch"
	"grapevine/slots"
	"grapevine/wire"
)

// take takes a packet.
func (t *turn) take(b []byte) api.Errno {
	p, e := wire.Decode(b)
	if e != api.OK {
		return e
	}
	if e := t.know(p); e != api.OK {
		return e
	}
	t.learn(p)
	if p.Master == nobody {
		t.hearMaster(p)
	} else {
		t.hearReplica(p)
	}
	t.hearSection(p)
	t.hearKind(p)
	return api.OK
}

// know makes a sender whom it doesn't know a member, or tells why not.
func (t *turn) know(p wire.Packet) api.Errno {
	if p.From == t.self() {
		return api.ErrSelf
	}
	if _, is := t.roster.Get(p.From); is {
		return api.OK
	}
	if p.Kind != packetMeet {
		return api.ErrNode
	}
	return t.admit(p.From)
}

// learn takes over what a packet says of its sender.
func (t *turn) learn(p wire.Packet) {
	t.epochs, _ = t.epochs.See(p.Epoch)
	m, _ := t.roster.Get(p.From)
	m.Master, m.Config, m.Offset = p.Master, max(m.Config, p.Config), p.Offset
	t.roster.Set(m)
}

// hearMaster takes over what a master's packet says of its slots.
func (t *turn) hearMaster(p wire.Packet) {
	t.drop(p.From, p.Slots)
	t.takeOver(p.From, p.Config, p.Slots)
	if newer := t.table.Newer(p.From, p.Config, p.Slots); newer != nobody {
		t.sendUpdate(p.From, newer)
	}
	if t.serves() && p.Slots != 0 && epoch.Yields(t.self(), p.From, t.epochs.Config, p.Config) {
		t.claimAnew() // at the greatest epoch there is no new one, and nothing happens
	}
}

// hearReplica takes over what a replica's packet says: that it has no slots, and whom it follows.
func (t *turn) hearReplica(p wire.Packet) {
	t.drop(p.From, 0)
	if p.From != t.master {
		return
	}
	t.master = p.Master
	if t.master == t.self() {
		t.master = nobody
	}
}

// takeOver makes a claim of another one in the table, whom self follows if that took its last slots.
func (t *turn) takeOver(id, epoch int, set slots.Set) {
	had := t.isServer(t.self())
	t.claim(id, epoch, set)
	if had && !t.isServer(t.self()) {
		t.master, t.plan = id, never
	}
}

// hearSection takes over what a packet says of others.
func (t *turn) hearSection(p wire.Packet) {
	counts := p.Master == nobody && t.isServer(p.From)
	for _, entry := range p.Section {
		if entry.ID == t.self() {
			continue
		}
		_, is := t.roster.Get(entry.ID)
		switch {
		case is && counts:
			t.hearReport(p.From, entry)
		case !is && entry.State == stateWell:
			t.admit(entry.ID) // or not, if the roster doesn't take it
		}
	}
}

// hearReport takes over what a voter says of a member.
func (t *turn) hearReport(by int, entry wire.Entry) {
	if entry.State == stateWell {
		t.book.Clear(entry.ID, by)
		return
	}
	t.book.Note(entry.ID, by, t.time)
	t.look(entry.ID)
}

// hearKind does what packets of each kind are for.
func (t *turn) hearKind(p wire.Packet) {
	switch p.Kind {
	case packetPing, packetMeet:
		t.send(p.From, t.header(packetPong))
	case packetPong:
		t.hearPong(p.From)
	case packetFail:
		t.hearFail(p.About)
	case packetUpdate:
		t.hearUpdate(p)
	case packetAsk:
		t.hearAsk(p)
	case packetAck:
		t.hearAck(p)
	}
}

// hearPong notes that a member answered: whom nobody needs to replace is well at once, who has slots only once a replica had its time.
func (t *turn) hearPong(from int) {
	t.watch.Pong(from, t.time)
	m, _ := t.roster.Get(from)
	if m.FailAt != never && (!t.isServer(from) || t.time-m.FailAt > 2*t.config.Timeout) {
		m.FailAt = never
		t.roster.Set(m)
	}
}

// hearFail notes that somebody is said to have failed.
func (t *turn) hearFail(about int) {
	if m, is := t.roster.Get(about); is && m.FailAt == never {
		m.FailAt = t.time
		t.roster.Set(m)
	}
}

// hearUpdate takes over what somebody else is said to have.
func (t *turn) hearUpdate(p wire.Packet) {
	m, is := t.roster.Get(p.About)
	if !is {
		return
	}
	m.Config = max(m.Config, p.AboutConfig)
	t.roster.Set(m)
	t.takeOver(p.About, p.AboutConfig, p.AboutSlots)
}

// hearAsk gives a vote, if it may.
func (t *turn) hearAsk(p wire.Packet) {
	if !t.serves() || !t.hasFailed(p.Master) || !t.ballot.May(p.Master, t.time) {
		return
	}
	next, e := t.epochs.Grant(p.Epoch)
	if e != api.OK {
		return
	}
	t.epochs = next
	t.ballot.Gave(p.Master, t.time)
	t.send(p.From, t.header(packetAck))
	t.tell(Event{Kind: eventVote, About: p.From, Epoch: p.Epoch})
}

// hearAck counts a vote.
func (t *turn) hearAck(p wire.Packet) {
	voters := t.ballot.Voters() // which it hasn't any more once it is won
	if t.ballot.Ack(p.From, p.Epoch, t.time) {
		t.win(p.Epoch, voters)
	}
}

// win takes its master's place in an epoch.
func (t *turn) win(epoch int, voters []int) {
	next, e := t.epochs.Win(epoch)
	if e != api.OK {
		return
	}
	t.epochs = next
	t.tell(Event{Kind: eventWin, About: t.master, Epoch: epoch, Who: voters})
	t.promote()
}

// promote makes it a master that claims what its old one has, and tells all.
func (t *turn) promote() {
	set := t.table.Of(t.master)
	t.master, t.plan = nobody, never
	t.claim(t.self(), t.epochs.Config, set)
	t.sendAll(t.header(packetPong))
}
