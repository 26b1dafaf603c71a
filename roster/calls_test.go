package roster_test

import (
	"math/rand"
	"slices"
	"testing"

	"grapevine/api"
	"grapevine/roster"
)

// ban is a ban as the chapter words it.
type ban struct{ id, end int }

// model is a roster as the chapter words it: members and bans one behind the other, as they came.
type model struct {
	self    int
	members []roster.Member
	bans    []ban
	cursor  int
}

// in tells whether a number is from one to another one.
func in(n, from, to int) bool { return from <= n && n <= to }

// place is where a member is, or below 0.
func (m *model) place(id int) int {
	return slices.IndexFunc(m.members, func(x roster.Member) bool { return x.ID == id })
}

// banned tells whether a ban holds.
func (m *model) banned(id, now int) bool {
	return slices.ContainsFunc(m.bans, func(b ban) bool { return b.id == id && !(b.end < now) })
}

// pardon takes bans away.
func (m *model) pardon(id int) {
	m.bans = slices.DeleteFunc(m.bans, func(b ban) bool { return b.id == id })
}

// add adds a member.
func (m *model) add(id, now int) api.Errno {
	switch {
	case !in(id, 1, topID) || !in(now, 0, topTime):
		return api.ErrForm
	case id == m.self:
		return api.ErrSelf
	case m.place(id) >= 0:
		return api.ErrKnown
	case m.banned(id, now):
		return api.ErrBanned
	case len(m.members) >= mostMembers:
		return api.ErrFull
	}
	m.members = append(m.members, added(id))
	m.pardon(id)
	return api.OK
}

// forget takes a member away.
func (m *model) forget(id, now int) api.Errno {
	switch {
	case !in(id, 1, topID) || !in(now, 0, topTime):
		return api.ErrForm
	case id == m.self:
		return api.ErrSelf
	case m.place(id) < 0:
		return api.ErrNode
	}
	m.members = slices.DeleteFunc(m.members, func(x roster.Member) bool { return x.ID == id })
	m.pardon(id)
	m.bans = append(m.bans, ban{id, now + banFor})
	return api.OK
}

// set sets a member.
func (m *model) set(x roster.Member) api.Errno {
	i := m.place(x.ID)
	switch {
	case i < 0:
		return api.ErrNode
	case x.Master != 0 && (!in(x.Master, 1, topID) || x.Master == x.ID):
		return api.ErrForm
	case !in(x.Config, 0, topEpoch) || !in(x.Offset, 0, topOffset) || !in(x.FailAt, -1, topTime):
		return api.ErrForm
	}
	m.members[i] = x
	return api.OK
}

// all are the members, rising.
func (m *model) all() []roster.Member {
	list := slices.Clone(m.members)
	slices.SortFunc(list, func(a, b roster.Member) int { return a.ID - b.ID })
	return list
}

// next are those to speak of next: one step after the other, until there are enough or one would come twice.
func (m *model) next(n, not int) []int {
	var ids, list []int
	for _, x := range m.all() {
		if x.ID != not {
			ids = append(ids, x.ID)
		}
	}
	at := 0
	for k := 0; k < m.cursor && len(ids) > 0; k++ {
		if at++; at == len(ids) {
			at = 0
		}
	}
	for len(list) < n && len(list) < len(ids) {
		list = append(list, ids[at])
		m.cursor++
		if at++; at == len(ids) {
			at = 0
		}
	}
	return list
}

// anyOf is mostly a number below a bound, so that the same often come, and now and then another one.
func anyOf(r *rand.Rand, bound int, others ...[]int) int {
	if r.Intn(20) > 0 {
		return r.Intn(bound)
	}
	list := others[r.Intn(len(others))]
	return list[r.Intn(len(list))]
}

// anyID is mostly one of few ids.
func anyID(r *rand.Rand) int { return anyOf(r, 22, ids, noIDs) }

// anyTime is mostly a time of few bans.
func anyTime(r *rand.Rand) int { return anyOf(r, 4*banFor, times, noTimes) }

// anyMember is mostly one that may be.
func anyMember(r *rand.Rand) roster.Member {
	return roster.Member{
		ID:     anyID(r),
		Master: anyOf(r, 22, ids, noIDs),
		Config: anyOf(r, 50, []int{-1, topEpoch, topEpoch + 1}),
		Offset: anyOf(r, 50, []int{-1, topOffset, topOffset + 1}),
		FailAt: anyOf(r, 50, []int{-2, -1, -1, -1}, times, noTimes),
	}
}

// step makes one call of both, and tells what each answered.
func step(r *rand.Rand, x *roster.Roster, m *model) (what string, got, must api.Errno) {
	id, now := anyID(r), anyTime(r)
	switch r.Intn(10) {
	case 0, 1, 2:
		return "Forget", x.Forget(id, now), m.forget(id, now)
	case 3, 4:
		s := anyMember(r)
		return "Set", x.Set(s), m.set(s)
	}
	return "Add", x.Add(id, now), m.add(id, now)
}

// wantSame holds all that a roster tells against the chapter.
func wantSame(t *testing.T, r *rand.Rand, x *roster.Roster, m *model) {
	t.Helper()
	wantMembers(t, x, m.all()...)
	for range 3 {
		id, now := anyID(r), anyTime(r)
		if got, must := x.Banned(id, now), m.banned(id, now); got != must {
			t.Fatalf("Banned(%d, %d) = %v, want %v", id, now, got, must)
		}
		if m.place(id) < 0 {
			wantNone(t, x, id)
		}
	}
	n, not := anyOf(r, 6, ids, noIDs), anyID(r)
	wantNext(t, x, n, not, m.next(n, not)...)
	if x.Self() != m.self {
		t.Fatalf("Self = %d, want %d", x.Self(), m.self)
	}
}

// P10.1, P10.2, P10.3, P10.4, P10.5: any calls in any order answer what the chapter says.
func TestCalls(t *testing.T) {
	r := rand.New(rand.NewSource(3))
	told := map[api.Errno]int{}
	for range 100 {
		m := &model{self: []int{1, 5, 21, topID}[r.Intn(4)]}
		x := opened(t, m.self)
		for range 300 {
			what, got, must := step(r, x, m)
			if got != must {
				t.Fatalf("%s = %d, want %d", what, got, must)
			}
			told[must]++
			wantSame(t, r, x, m)
		}
	}
	for _, e := range []api.Errno{api.OK, api.ErrForm, api.ErrSelf, api.ErrKnown, api.ErrBanned, api.ErrFull, api.ErrNode} {
		if told[e] == 0 {
			t.Errorf("%d was never answered", e)
		}
	}
}
