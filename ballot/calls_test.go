package ballot_test

import (
	"math/rand"
	"slices"
	"testing"

	"grapevine/api"
	"grapevine/ballot"
)

// vote is that a vote was given to a replica of somebody.
type vote struct{ master, at int }

// model is a ballot as the chapter words it: who granted and what was given stand one behind the other, as they came.
type model struct {
	timeout, epoch, end int // the epoch is 0 where it doesn't stand
	voters, granted     []int
	gave                []vote
}

// in tells whether a number is from one to another one.
func in(n, from, to int) bool { return from <= n && n <= to }

// areVoters tells whether ids are a set of voters.
func areVoters(list []int) bool {
	for _, id := range list {
		if !in(id, 1, topID) {
			return false
		}
	}
	sorted := slices.Sorted(slices.Values(list))
	return len(list) <= mostVoters && len(slices.Compact(sorted)) == len(list)
}

// standing tells in which epoch it stands at a time, or 0.
func (m *model) standing(now int) int {
	if now > m.end {
		return 0
	}
	return m.epoch
}

// stop ends a stand.
func (m *model) stop() { m.epoch, m.end, m.voters, m.granted = 0, 0, nil, nil }

// stand stands.
func (m *model) stand(epoch int, voters []int, now int) api.Errno {
	switch {
	case !in(epoch, 1, topEpoch) || !in(now, 0, topTime) || !areVoters(voters):
		return api.ErrForm
	case m.standing(now) != 0:
		return api.ErrBusy
	}
	m.epoch, m.end, m.voters, m.granted = epoch, now+m.timeout+m.timeout, slices.Sorted(slices.Values(voters)), nil
	return api.OK
}

// ack counts a vote.
func (m *model) ack(from, epoch, now int) bool {
	if m.standing(now) == 0 || m.epoch != epoch || !slices.Contains(m.voters, from) || slices.Contains(m.granted, from) {
		return false
	}
	m.granted = append(m.granted, from)
	if 2*len(m.granted) <= len(m.voters) {
		return false
	}
	m.stop()
	return true
}

// may tells whether a vote may be given: the last one that was counts.
func (m *model) may(master, now int) bool {
	for _, v := range slices.Backward(m.gave) {
		if v.master == master {
			return now >= 0 && now-v.at > 2*m.timeout
		}
	}
	return true
}

// give gives a vote.
func (m *model) give(master, now int) api.Errno {
	if !in(master, 1, topID) || !in(now, 0, topTime) {
		return api.ErrForm
	}
	m.gave = append(m.gave, vote{master, now})
	return api.OK
}

// anyOf is mostly a number from 1 to few, so that they often meet, and now and then one of those at the limits.
func anyOf(r *rand.Rand, few int, right, wrong []int) int {
	switch r.Intn(40) {
	case 0:
		return wrong[r.Intn(len(wrong))]
	case 1:
		return right[r.Intn(len(right))]
	}
	return 1 + r.Intn(few)
}

// anyID is an id, or now and then none.
func anyID(r *rand.Rand) int { return anyOf(r, 7, ids, noIDs) }

// anyEpoch is an epoch, or now and then none.
func anyEpoch(r *rand.Rand) int { return anyOf(r, 2, epochs, noEpochs) }

// anyTime is a time, or now and then none.
func anyTime(r *rand.Rand) int { return anyOf(r, 80, times, noTimes) }

// anyVoters are mostly a set of few voters, and now and then of many, or none.
func anyVoters(r *rand.Rand) []int {
	var list []int
	for _, k := range r.Perm(7)[:r.Intn(8)] {
		list = append(list, k+1)
	}
	switch r.Intn(20) {
	case 0:
		return append(list, anyID(r))
	case 1:
		return r.Perm(20)[:14+r.Intn(5)]
	}
	return list
}

// number is 1 for what is so.
func number(is bool) int {
	if is {
		return 1
	}
	return 0
}

// answer is what a call answered, as a number.
type answer struct {
	what string
	n    int
}

// step makes one call of both, and tells what each answered.
func step(r *rand.Rand, b *ballot.Ballot, m *model) (what string, got, must int) {
	id, epoch, now := anyID(r), anyEpoch(r), anyTime(r)
	switch r.Intn(20) {
	case 0:
		b.Stop()
		m.stop()
		return "Stop", 0, 0
	case 1, 2, 3:
		voters := anyVoters(r)
		return "Stand", int(b.Stand(epoch, voters, now)), int(m.stand(epoch, voters, now))
	case 4, 5, 6, 7:
		return "Gave", int(b.Gave(id, now)), int(m.give(id, now))
	}
	return "Ack", number(b.Ack(id, epoch, now)), number(m.ack(id, epoch, now))
}

// wantSame holds all that a ballot tells against the chapter.
func wantSame(t *testing.T, r *rand.Rand, b *ballot.Ballot, m *model) {
	t.Helper()
	wantVoters(t, b, m.voters...)
	for range 3 {
		id, now := anyID(r), anyTime(r)
		if epoch := m.standing(now); epoch == 0 {
			wantNoStand(t, b, now)
		} else {
			wantStands(t, b, epoch, now)
		}
		wantMay(t, b, id, m.may(id, now), now)
	}
}

// P15.1 to P15.5: any calls in any order answer what the chapter says.
func TestCalls(t *testing.T) {
	r := rand.New(rand.NewSource(4))
	answers := map[answer]int{} // how often each was there, so that none of them goes untried
	for range 400 {
		m := &model{timeout: []int{2, 3, 10, 30, topTimeout}[r.Intn(5)]}
		b := opened(t, m.timeout)
		for range 200 {
			what, got, must := step(r, b, m)
			if got != must {
				t.Fatalf("%s = %d, want %d", what, got, must)
			}
			answers[answer{what, got}]++
			wantSame(t, r, b, m)
		}
	}
	for _, a := range []answer{{"Stop", 0}, {"Stand", 0}, {"Stand", 10}, {"Stand", 21}, {"Gave", 0}, {"Gave", 10}, {"Ack", 0}, {"Ack", 1}} {
		if answers[a] < 500 {
			t.Errorf("%v was there %d times only", a, answers[a])
		}
	}
}
