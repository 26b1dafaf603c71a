package report_test

import (
	"math/rand"
	"slices"
	"testing"

	"grapevine/api"
	"grapevine/report"
)

// model is a book as the chapter words it: reports one behind the other, at most one of each two.
type model struct {
	window int
	list   []note
}

// in tells whether a number is from one to another one.
func in(n, from, to int) bool { return from <= n && n <= to }

// note notes a report.
func (m *model) note(about, by, at int) api.Errno {
	switch {
	case !in(about, 1, topID) || !in(by, 1, topID) || !in(at, 0, topTime):
		return api.ErrForm
	case about == by:
		return api.ErrSelf
	}
	for i, n := range m.list {
		if n.about == about && n.by == by {
			if at > n.at {
				m.list[i].at = at
			}
			return api.OK
		}
	}
	m.list = append(m.list, note{about, by, at})
	return api.OK
}

// without takes away what goes, and tells how many these are.
func (m *model) without(goes func(n note) bool) int {
	had := len(m.list)
	m.list = slices.DeleteFunc(m.list, goes)
	return had - len(m.list)
}

// expired tells whether a report doesn't count.
func (m *model) expired(n note, now int) bool { return now > n.at && now-n.at > m.window }

// by is who told of somebody.
func (m *model) by(about, now int) []int {
	var list []int
	for _, n := range m.list {
		if n.about == about && !m.expired(n, now) {
			list = append(list, n.by)
		}
	}
	slices.Sort(list)
	return list
}

// failing tells whether more than half of voters, which are a set of voters, told of somebody.
func (m *model) failing(about, now int, voters []int) bool {
	told := m.by(about, now)
	n := 0
	for _, id := range voters {
		if slices.Contains(told, id) {
			n++
		}
	}
	return 2*n > len(voters)
}

// anyID is mostly one of few ids, so that they often meet, and now and then no id.
func anyID(r *rand.Rand) int {
	if r.Intn(20) == 0 {
		return noIDs[r.Intn(len(noIDs))]
	}
	return ids[r.Intn(len(ids))]
}

// anyTime is mostly a time near others, and now and then one at a limit, or none.
func anyTime(r *rand.Rand) int {
	switch r.Intn(20) {
	case 0:
		return noTimes[r.Intn(len(noTimes))]
	case 1:
		return times[r.Intn(len(times))]
	}
	return r.Intn(60)
}

// anyVoters is a set of few or many of the ids.
func anyVoters(r *rand.Rand) []int {
	var list []int
	for _, k := range r.Perm(len(ids))[:r.Intn(len(ids)+1)] {
		list = append(list, ids[k])
	}
	return list
}

// step makes one call of both, and tells what each answered.
func step(r *rand.Rand, b *report.Book, m *model) (what string, got, must int) {
	about, by, at := anyID(r), anyID(r), anyTime(r)
	switch r.Intn(12) {
	case 0:
		return "Forget", b.Forget(about), m.without(func(n note) bool { return n.about == about || n.by == about })
	case 1:
		return "Expire", b.Expire(at), m.without(func(n note) bool { return m.expired(n, at) })
	case 2, 3:
		cleared := 0
		if b.Clear(about, by) {
			cleared = 1
		}
		return "Clear", cleared, m.without(func(n note) bool { return n.about == about && n.by == by })
	}
	return "Note", int(b.Note(about, by, at)), int(m.note(about, by, at))
}

// P8.1, P8.2, P8.3: any calls in any order answer what the chapter says.
func TestCalls(t *testing.T) {
	r := rand.New(rand.NewSource(2))
	for range 150 {
		m := &model{window: []int{1, 2, 10, 30, topWindow}[r.Intn(5)]}
		b := opened(t, m.window)
		for range 150 {
			if what, got, must := step(r, b, m); got != must {
				t.Fatalf("%s = %d, want %d", what, got, must)
			}
			wantLen(t, b, len(m.list))
			for range 3 {
				about, now, voters := anyID(r), anyTime(r), anyVoters(r)
				wantBy(t, b, about, now, m.by(about, now)...)
				if got, must := b.Failing(about, now, voters), m.failing(about, now, voters); got != must {
					t.Fatalf("Failing(%d, %d, %v) = %v", about, now, voters, got)
				}
			}
		}
	}
}

// P8.2: in whatever order reports come, the latest one of each two stands.
func TestAnyOrder(t *testing.T) {
	r := rand.New(rand.NewSource(3))
	for range 300 {
		latest := map[[2]int]int{}
		var list []note
		for range 40 {
			n := note{1 + r.Intn(4), 5 + r.Intn(4), r.Intn(50)}
			two := [2]int{n.about, n.by}
			latest[two] = max(latest[two], n.at)
			list = append(list, n)
		}
		var must []note
		for two, at := range latest {
			must = append(must, note{two[0], two[1], at})
		}
		wantReports(t, with(t, 10, list...), 10, must...)
	}
}
