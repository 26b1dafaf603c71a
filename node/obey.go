package node

import (
	"grapevine/api"
	"grapevine/slots"
)

// The kinds of commands.
const (
	commandMeet = iota + 1
	commandForget
	commandAdd
	commandDelete
	commandReplicate
	commandTakeover
	commandBump
	commandOffset
	commandReset
)

// obey does a command.
func (t *turn) obey(c Command) api.Errno {
	switch c.Kind {
	case commandMeet:
		return t.meet(c.ID)
	case commandForget:
		return t.forget(c.ID)
	case commandAdd:
		return t.add(c.Set)
	case commandDelete:
		return t.delete(c.Set)
	case commandReplicate:
		return t.replicate(c.ID)
	case commandTakeover:
		return t.takeover()
	case commandBump:
		return t.bumpSlots()
	case commandOffset:
		return t.setOffset(c.ID)
	case commandReset:
		t.clear()
		return api.OK
	}
	return api.ErrKind
}

// meet takes somebody up, and tells it so.
func (t *turn) meet(id int) api.Errno {
	e := t.admit(id)
	if e == api.OK {
		t.send(id, t.header(packetMeet))
	}
	return e
}

// forget takes somebody away, and all that is known of it.
func (t *turn) forget(id int) api.Errno {
	if id != nobody && id == t.master {
		return api.ErrBusy
	}
	if e := t.roster.Forget(id, t.time); e != api.OK {
		return e
	}
	t.watch.Remove(id)
	t.book.Forget(id)
	t.drop(id, 0)
	return api.OK
}

// add claims slots that nobody has.
func (t *turn) add(set slots.Set) api.Errno {
	switch {
	case t.master != nobody:
		return api.ErrRole
	case set&^t.table.Of(nobody) != 0:
		return api.ErrBusy
	}
	t.claim(t.self(), t.epochs.Config, set)
	return api.OK
}

// delete gives slots up.
func (t *turn) delete(set slots.Set) api.Errno {
	has := t.table.Of(t.self())
	if set&^has != 0 {
		return api.ErrSlot
	}
	t.drop(t.self(), has&^set)
	return api.OK
}

// replicate makes it a replica of a member.
func (t *turn) replicate(id int) api.Errno {
	m, is := t.roster.Get(id)
	switch {
	case !is:
		return api.ErrNode
	case m.Master != nobody:
		return api.ErrRole
	case t.isServer(t.self()):
		return api.ErrBusy
	}
	t.master, t.plan = id, never
	return api.OK
}

// takeover takes its master's place without any votes.
func (t *turn) takeover() api.Errno {
	if t.master == nobody {
		return api.ErrRole
	}
	e := t.bump()
	if e == api.OK {
		t.ballot.Stop()
		t.promote()
	}
	return e
}

// bumpSlots claims its slots with a new epoch.
func (t *turn) bumpSlots() api.Errno {
	if !t.serves() {
		return api.ErrRole
	}
	return t.claimAnew()
}

// setOffset sets how much of its master's data it has.
func (t *turn) setOffset(offset int) api.Errno {
	if offset < 0 || offset > api.MaxOffset {
		return api.ErrForm
	}
	t.offset = offset
	return api.OK
}
