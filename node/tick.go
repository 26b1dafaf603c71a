package node

import (
	"slices"

	"grapevine/api"
	"grapevine/quorum"
	"grapevine/rank"
)

// standAgain is how many timeouts it waits until it stands once more.
const standAgain = 4

// tick lets time pass.
func (t *turn) tick(draw int) {
	for _, id := range t.watch.Due(t.time) {
		t.watch.Ping(id, t.time)
		t.send(id, t.header(packetPing))
	}
	for _, id := range t.Late() {
		t.look(id)
	}
	t.book.Expire(t.time)
	t.follow(draw)
}

// look looks at a member, whether it has failed.
func (t *turn) look(id int) {
	m, _ := t.roster.Get(id)
	if m.FailAt != never || !t.isLate(id) {
		return
	}
	voters, missing := t.table.Owners(), t.missing(id)
	if !quorum.Majority(voters, missing) {
		return
	}
	m.FailAt = t.time
	t.roster.Set(m)
	t.sendFail(id)
	t.tell(Event{Kind: eventFailed, About: id, Epoch: t.epochs.Current, Who: among(voters, missing)})
}

// missing are those who miss somebody that is late: who reports it, and self, if it serves.
func (t *turn) missing(id int) []int {
	list := t.Reports(id)
	if t.serves() {
		list = append(list, t.self())
	}
	return list
}

// among are those of a list that are in another one.
func among(list, others []int) []int {
	return slices.DeleteFunc(slices.Clone(list), func(id int) bool { return !slices.Contains(others, id) })
}

// follow looks whether its master's place is free, and plans to stand for it, or stands.
func (t *turn) follow(draw int) {
	switch {
	case !t.isWanted():
		t.plan = never
	case t.plan == never:
		t.plan = t.time + t.delay(draw)
	case t.plan <= t.time:
		t.stand()
	}
}

// isWanted tells whether its master has failed, with slots, and so lately that self may take its place.
func (t *turn) isWanted() bool {
	m, _ := t.roster.Get(t.master)
	return t.hasFailed(t.master) && t.isServer(t.master) && rank.Fresh(t.time-m.FailAt, t.config.Timeout)
}

// delay is how long it waits until it stands, as the replicas of its master stand. They are right, and self is one.
func (t *turn) delay(draw int) int {
	replicas := []rank.Replica{{ID: t.self(), Offset: t.offset}}
	for _, m := range t.roster.List() {
		if m.Master == t.master {
			replicas = append(replicas, rank.Replica{ID: m.ID, Offset: m.Offset})
		}
	}
	place, _ := rank.Rank(replicas, t.self())
	delay, _ := rank.Delay(place, max(draw, 0))
	return delay
}

// stand stands in a new epoch, if there is one, and asks for votes.
func (t *turn) stand() {
	if _, stands := t.ballot.Standing(t.time); stands {
		return
	}
	next, e := t.epochs.Stand()
	if e != api.OK {
		return
	}
	t.epochs = next
	voters := t.table.Owners()
	t.ballot.Stand(next.Current, voters, t.time)
	t.sendAsk(voters)
	t.plan = t.time + standAgain*t.config.Timeout
}
