package watch_test

import (
	"math/rand"
	"slices"
	"testing"

	"grapevine/api"
	"grapevine/watch"
)

// peer is a peer as the chapter words it, sent being below 0 where no ping waits.
type peer struct{ id, sent, pinged, heard int }

// model is a watch as the chapter words it: peers one behind the other, as they were added.
type model struct {
	timeout int
	list    []peer
}

// in tells whether a number is from one to another one.
func in(n, from, to int) bool { return from <= n && n <= to }

// areRight tells whether two numbers are an id and a time.
func areRight(id, now int) bool { return in(id, 1, topID) && in(now, 0, topTime) }

// place is where a peer is, or below 0.
func (m *model) place(id int) int {
	return slices.IndexFunc(m.list, func(p peer) bool { return p.id == id })
}

// add adds a peer.
func (m *model) add(id, now int) api.Errno {
	switch {
	case !areRight(id, now):
		return api.ErrForm
	case m.place(id) >= 0:
		return api.ErrKnown
	case len(m.list) >= mostPeers:
		return api.ErrFull
	}
	m.list = append(m.list, peer{id: id, sent: -1, pinged: now, heard: now})
	return api.OK
}

// remove takes a peer away.
func (m *model) remove(id int) bool {
	i := m.place(id)
	if i < 0 {
		return false
	}
	m.list = slices.Delete(m.list, i, i+1)
	return true
}

// note does something to a peer.
func (m *model) note(id, now int, do func(p *peer)) api.Errno {
	if !areRight(id, now) {
		return api.ErrForm
	}
	i := m.place(id)
	if i < 0 {
		return api.ErrNode
	}
	do(&m.list[i])
	return api.OK
}

// ping pings a peer.
func (m *model) ping(id, now int) api.Errno {
	return m.note(id, now, func(p *peer) {
		if now > p.pinged {
			p.pinged = now
		}
		if p.sent < 0 {
			p.sent = now
		}
	})
}

// pong hears a peer.
func (m *model) pong(id, now int) api.Errno {
	return m.note(id, now, func(p *peer) {
		if now > p.heard {
			p.heard = now
		}
		p.sent = -1
	})
}

// those are the ids of such peers, rising.
func (m *model) those(are func(p peer) bool) []int {
	var list []int
	for _, p := range m.list {
		if are(p) {
			list = append(list, p.id)
		}
	}
	slices.Sort(list)
	return list
}

// isDue tells whether a peer is due: behind each of the two times, so behind the later one.
func (m *model) isDue(p peer, now int) bool {
	half := m.timeout / 2
	return now >= 0 && now-p.pinged >= half && now-p.heard >= half
}

// isLate tells whether a peer is late.
func (m *model) isLate(p peer, now int) bool {
	return p.sent >= 0 && now >= 0 && now-p.sent > m.timeout
}

// anyID is mostly one of few ids, so that they often meet, and now and then one at a limit, or none.
func anyID(r *rand.Rand) int {
	switch r.Intn(20) {
	case 0:
		return noIDs[r.Intn(len(noIDs))]
	case 1:
		return ids[r.Intn(len(ids))]
	}
	return 1 + r.Intn(20)
}

// anyTime is mostly a time near others, and now and then one at a limit, or none.
func anyTime(r *rand.Rand) int {
	switch r.Intn(40) {
	case 0:
		return noTimes[r.Intn(len(noTimes))]
	case 1:
		return times[r.Intn(len(times))]
	}
	return r.Intn(60)
}

// number is 1 for what is so.
func number(is bool) int {
	if is {
		return 1
	}
	return 0
}

// step makes one call of both, and tells what each answered.
func step(r *rand.Rand, w *watch.Watch, m *model) (what string, got, must int) {
	id, now := anyID(r), anyTime(r)
	switch r.Intn(10) {
	case 0:
		return "Remove", number(w.Remove(id)), number(m.remove(id))
	case 1, 2, 3:
		return "Add", int(w.Add(id, now)), int(m.add(id, now))
	case 4, 5, 6:
		return "Pong", int(w.Pong(id, now)), int(m.pong(id, now))
	}
	return "Ping", int(w.Ping(id, now)), int(m.ping(id, now))
}

// wantSame holds all that a watch tells against the chapter.
func wantSame(t *testing.T, r *rand.Rand, w *watch.Watch, m *model) {
	t.Helper()
	wantPeers(t, w, m.those(func(peer) bool { return true })...)
	for range 3 {
		now := anyTime(r)
		wantDue(t, w, now, m.those(func(p peer) bool { return m.isDue(p, now) })...)
		wantLate(t, w, now, m.those(func(p peer) bool { return m.isLate(p, now) })...)
	}
	id := anyID(r)
	must := peer{sent: -1}
	if i := m.place(id); i >= 0 {
		must = m.list[i]
	}
	if since, waits := w.Waits(id); since != max(must.sent, 0) || waits != (must.sent >= 0) {
		t.Fatalf("Waits(%d) = %d, %v of %+v", id, since, waits, must)
	}
}

// P9.1, P9.2, P9.3: any calls in any order answer what the chapter says.
func TestCalls(t *testing.T) {
	r := rand.New(rand.NewSource(3))
	full := 0
	for range 200 {
		m := &model{timeout: []int{2, 3, 10, 11, 30, topTimeout}[r.Intn(6)]}
		w := opened(t, m.timeout)
		for range 300 {
			what, got, must := step(r, w, m)
			if got != must {
				t.Fatalf("%s = %d, want %d", what, got, must)
			}
			full += number(must == int(api.ErrFull))
			wantSame(t, r, w, m)
		}
	}
	if full == 0 {
		t.Error("no watch was ever full")
	}
}
