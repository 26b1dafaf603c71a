package ballot_test

import (
	"math"
	"math/rand"
	"slices"
	"testing"

	"grapevine/api"
	"grapevine/ballot"
)

// The greatest id, time, epoch and timeout, and how many voters there are at most, written out so that the limits themselves are held too.
const (
	topID      = 4294967296
	topTime    = 1099511627776
	topEpoch   = 281474976710656
	topTimeout = 1073741824
	mostVoters = 16
)

// Numbers at all limits: those that are ids, times, epochs and timeouts, and those that are none.
var (
	ids        = []int{1, 2, 3, 1<<31 - 1, 1 << 31, topID - 1, topID}
	noIDs      = []int{math.MinInt, -topID, -2, -1, 0, topID + 1, topID + 2, 2 * topID, math.MaxInt - 1, math.MaxInt}
	times      = []int{0, 1, 2, 1<<31 - 1, 1 << 31, 1 << 32, topTime - 2*topTimeout, topTime - 1, topTime}
	noTimes    = []int{math.MinInt, -topTime, -2, -1, topTime + 1, topTime + 2, 2 * topTime, math.MaxInt - 1, math.MaxInt}
	epochs     = []int{1, 2, 3, 1<<32 + 1, topEpoch - 1, topEpoch}
	noEpochs   = []int{math.MinInt, -topEpoch, -2, -1, 0, topEpoch + 1, topEpoch + 2, 2 * topEpoch, math.MaxInt - 1, math.MaxInt}
	timeouts   = []int{2, 3, 4, 10, 11, 1000, 1<<16 + 1, topTimeout - 1, topTimeout}
	noTimeouts = []int{math.MinInt, -topTimeout, -10, -2, -1, 0, 1, topTimeout + 1, topTimeout + 2, 2 * topTimeout, 1 << 32, 1<<32 + 10, math.MaxInt - 1, math.MaxInt}
)

// noVoters are lists that are no sets of voters.
func noVoters() [][]int {
	lists := [][]int{{1, 1}, {2, 3, 2}, {topID, 1, topID}, upTo(mostVoters + 1), upTo(1000), append(upTo(mostVoters-1), 1)}
	for _, bad := range noIDs {
		lists = append(lists, []int{bad}, []int{1, 2, bad}, []int{bad, 1, 2}, append(upTo(mostVoters-1), bad))
	}
	return lists
}

// upTo are the ids from 1 to n.
func upTo(n int) []int {
	list := make([]int, n)
	for i := range list {
		list[i] = i + 1
	}
	return list
}

// opened makes a ballot, which must be one.
func opened(t *testing.T, timeout int) *ballot.Ballot {
	t.Helper()
	b, e := ballot.New(timeout)
	if b == nil || e != api.OK {
		t.Fatalf("New(%d) = %v, %d", timeout, b, e)
	}
	return b
}

// stood makes a ballot with a timeout of 10 that stands in the epoch 5 from 100 on, so up to and with 120.
func stood(t *testing.T, voters ...int) *ballot.Ballot {
	t.Helper()
	b := opened(t, 10)
	wantStand(t, b, 5, voters, 100, api.OK)
	return b
}

// wantStand stands, and holds what is answered.
func wantStand(t *testing.T, b *ballot.Ballot, epoch int, voters []int, now int, must api.Errno) {
	t.Helper()
	if e := b.Stand(epoch, voters, now); e != must {
		t.Fatalf("Stand(%d, %v, %d) = %d, want %d", epoch, voters, now, e, must)
	}
}

// wantStands holds in which epoch it stands at each of some times.
func wantStands(t *testing.T, b *ballot.Ballot, must int, at ...int) {
	t.Helper()
	for _, now := range at {
		if epoch, stands := b.Standing(now); epoch != must || !stands {
			t.Fatalf("Standing(%d) = %d, %v, want %d, true", now, epoch, stands, must)
		}
	}
}

// wantNoStand holds that it doesn't stand at any of some times.
func wantNoStand(t *testing.T, b *ballot.Ballot, at ...int) {
	t.Helper()
	for _, now := range at {
		if epoch, stands := b.Standing(now); epoch != 0 || stands {
			t.Fatalf("Standing(%d) = %d, %v, want 0, false", now, epoch, stands)
		}
	}
}

// wantUpTo holds that it stands in an epoch up to and with a time.
func wantUpTo(t *testing.T, b *ballot.Ballot, epoch, last int) {
	t.Helper()
	wantStands(t, b, epoch, math.MinInt, -topTime, -1, 0, last-1, last)
	wantNoStand(t, b, last+1, last+2, 2*topTime, math.MaxInt)
}

// wantVoters holds with whom it stands.
func wantVoters(t *testing.T, b *ballot.Ballot, must ...int) {
	t.Helper()
	if got := b.Voters(); !slices.Equal(got, must) {
		t.Fatalf("Voters = %v, want %v", got, must)
	}
}

// wantNone holds that it doesn't stand at all.
func wantNone(t *testing.T, b *ballot.Ballot) {
	t.Helper()
	wantNoStand(t, b, times...)
	wantNoStand(t, b, noTimes...)
	wantVoters(t, b)
	for _, id := range slices.Concat(ids, noIDs) {
		for _, epoch := range []int{-1, 0, 1, 5, topEpoch} {
			wantAck(t, b, id, epoch, 0, false)
		}
	}
}

// wantAck counts a vote, and holds what is answered.
func wantAck(t *testing.T, b *ballot.Ballot, from, epoch, now int, must bool) {
	t.Helper()
	if got := b.Ack(from, epoch, now); got != must {
		t.Fatalf("Ack(%d, %d, %d) = %v, want %v", from, epoch, now, got, must)
	}
}

// wantGave gives a vote, and holds what is answered.
func wantGave(t *testing.T, b *ballot.Ballot, master, now int, must api.Errno) {
	t.Helper()
	if e := b.Gave(master, now); e != must {
		t.Fatalf("Gave(%d, %d) = %d, want %d", master, now, e, must)
	}
}

// wantMay holds whether a vote may be given to a replica of somebody at each of some times.
func wantMay(t *testing.T, b *ballot.Ballot, master int, must bool, at ...int) {
	t.Helper()
	for _, now := range at {
		if got := b.May(master, now); got != must {
			t.Fatalf("May(%d, %d) = %v, want %v", master, now, got, must)
		}
	}
}

// wantNotUpTo holds that no vote may be given to a replica of somebody up to and with a time.
func wantNotUpTo(t *testing.T, b *ballot.Ballot, master, last int) {
	t.Helper()
	wantMay(t, b, master, false, math.MinInt, -topTime, -1, 0, last-1, last)
	wantMay(t, b, master, true, last+1, last+2, 2*topTime, math.MaxInt)
}

// P15.1: a ballot is made for each timeout; it doesn't stand, remembers nothing, and each is another one.
func TestNew(t *testing.T) {
	for _, timeout := range timeouts {
		b, other := opened(t, timeout), opened(t, timeout)
		wantNone(t, b)
		for _, id := range slices.Concat(ids, noIDs) {
			wantMay(t, b, id, true, times...)
			wantMay(t, b, id, true, noTimes...)
		}
		wantStand(t, b, 1, upTo(3), 0, api.OK)
		wantGave(t, b, 1, 0, api.OK)
		wantStands(t, b, 1, 0)
		wantMay(t, b, 1, false, 0)
		wantNone(t, other)
		wantMay(t, other, 1, true, 0)
	}
}

// P15.1: what is no timeout is refused, and there is no ballot.
func TestNewRefuses(t *testing.T) {
	for _, timeout := range noTimeouts {
		if b, e := ballot.New(timeout); b != nil || e != api.ErrForm {
			t.Errorf("New(%d) = %v, %d, want nil, %d", timeout, b, e, api.ErrForm)
		}
	}
}

// P15.2: it stands in each epoch, from each time on, up to and with twice each timeout behind it.
func TestStand(t *testing.T) {
	for _, timeout := range timeouts {
		for _, epoch := range epochs {
			for _, now := range times {
				b := opened(t, timeout)
				wantStand(t, b, epoch, []int{3, 1, topID}, now, api.OK)
				wantUpTo(t, b, epoch, now+2*timeout)
				wantVoters(t, b, 1, 3, topID)
			}
		}
	}
}

// P15.2: it stands with each set of voters, and tells them rising, in whatever order they were handed in.
func TestVoters(t *testing.T) {
	r := rand.New(rand.NewSource(1))
	for n := range mostVoters + 1 {
		for range 20 {
			var voters []int
			for _, k := range r.Perm(n) {
				voters = append(voters, k+1)
			}
			wantVoters(t, stood(t, voters...), upTo(n)...)
		}
	}
	falling := slices.Clone(ids)
	slices.Reverse(falling)
	wantVoters(t, stood(t, falling...), ids...)
}

// P15.2: with nobody it stands, too, be the list nil or empty.
func TestStandWithNobody(t *testing.T) {
	for _, voters := range [][]int{nil, {}} {
		b := stood(t, voters...)
		wantUpTo(t, b, 5, 120)
		wantVoters(t, b)
		for _, id := range slices.Concat(ids, noIDs) {
			wantAck(t, b, id, 5, 100, false)
		}
		wantUpTo(t, b, 5, 120)
	}
}

// P15.2: what is no epoch, time or set of voters is refused, and it stands as little as ahead of that.
func TestStandRefuses(t *testing.T) {
	b := opened(t, 10)
	refused := func(epoch int, voters []int, now int) {
		t.Helper()
		wantStand(t, b, epoch, voters, now, api.ErrForm)
	}
	for _, bad := range noEpochs {
		for _, now := range slices.Concat(times, noTimes) {
			refused(bad, upTo(3), now)
			refused(bad, []int{1, 1}, now)
		}
	}
	for _, bad := range noTimes {
		for _, epoch := range epochs {
			refused(epoch, upTo(3), bad)
			refused(epoch, nil, bad)
			refused(epoch, []int{0}, bad)
		}
	}
	for _, bad := range noVoters() {
		for _, epoch := range epochs {
			refused(epoch, bad, 100)
		}
	}
	wantNone(t, b)
}

// P15.2: while it stands all of that is refused all the same, ahead of that it is busy, and it stands as it stood.
func TestStandRefusesWhileStanding(t *testing.T) {
	b := stood(t, 3, 1, 2)
	wantAck(t, b, 1, 5, 100, false)
	for _, now := range []int{0, 100, 120, 121, topTime} {
		for _, bad := range noEpochs {
			wantStand(t, b, bad, upTo(3), now, api.ErrForm)
		}
		for _, bad := range noVoters() {
			wantStand(t, b, 6, bad, now, api.ErrForm)
		}
	}
	for _, bad := range noTimes {
		wantStand(t, b, 6, upTo(3), bad, api.ErrForm)
	}
	wantUpTo(t, b, 5, 120)
	wantVoters(t, b, 1, 2, 3)
	wantAck(t, b, 1, 5, 120, false)
	wantAck(t, b, 3, 5, 120, true)
}

// P15.2: while it stands it doesn't stand anew, at an earlier time neither, and nothing of its stand is changed.
func TestStandBusy(t *testing.T) {
	b := stood(t, 1, 2, 3)
	wantAck(t, b, 2, 5, 100, false)
	for _, now := range []int{0, 1, 99, 100, 101, 119, 120} {
		for _, epoch := range []int{1, 5, 6, topEpoch} {
			wantStand(t, b, epoch, []int{7, 8, 9, 10}, now, api.ErrBusy)
			wantStand(t, b, epoch, nil, now, api.ErrBusy)
		}
	}
	wantUpTo(t, b, 5, 120)
	wantVoters(t, b, 1, 2, 3)
	wantAck(t, b, 7, 5, 110, false)
	wantAck(t, b, 2, 5, 110, false)
	wantAck(t, b, 1, 5, 110, true)
}

// P15.2: behind its time it stands anew, in any epoch, and nobody has granted then.
func TestStandAnew(t *testing.T) {
	for _, epoch := range []int{1, 5, 6, topEpoch} {
		for _, now := range []int{121, 122, 1000, topTime} {
			b := stood(t, 1, 2, 3)
			wantAck(t, b, 1, 5, 100, false)
			wantStand(t, b, epoch, []int{4, 2, 1}, now, api.OK)
			wantUpTo(t, b, epoch, now+20)
			wantVoters(t, b, 1, 2, 4)
			wantAck(t, b, 3, epoch, now, false) // who is no voter any more
			wantAck(t, b, 2, epoch, now, false) // and 1 granted the stand that is over
			wantAck(t, b, 1, epoch, now, true)
		}
	}
}

// P15.2: a stand whose time is over is told no more, but its voters are; and at a time at which it stood it does.
func TestVotersBehindTheTime(t *testing.T) {
	b := stood(t, 3, 1, 2)
	wantNoStand(t, b, 121, topTime)
	wantVoters(t, b, 1, 2, 3)
	wantAck(t, b, 1, 5, 121, false)
	wantVoters(t, b, 1, 2, 3)
	wantStands(t, b, 5, 120)
	wantStand(t, b, 6, upTo(3), 120, api.ErrBusy)
}

// P15.2: stopped it stands no more, at no time, has no voters, and may stand anew at once, in any epoch.
func TestStop(t *testing.T) {
	for _, epoch := range []int{1, 5, 6} {
		b := stood(t, 1, 2, 3)
		wantAck(t, b, 1, 5, 100, false)
		b.Stop()
		wantNone(t, b)
		b.Stop()
		wantNone(t, b)
		wantStand(t, b, epoch, upTo(3), 100, api.OK)
		wantUpTo(t, b, epoch, 120)
		wantAck(t, b, 2, epoch, 100, false)
		wantAck(t, b, 1, epoch, 100, true)
	}
	b := stood(t, 1, 2, 3)
	wantNoStand(t, b, 121)
	b.Stop() // though its time is over
	wantNone(t, b)
	b = opened(t, 10)
	b.Stop() // though it doesn't stand
	wantNone(t, b)
}

// P15.2: what is handed in is neither changed nor kept, its spare room neither.
func TestVotersNotKept(t *testing.T) {
	voters := []int{3, 1, 2, 77, 76}
	b := stood(t, voters[:3]...)
	wantStand(t, b, 5, voters[:3], 110, api.ErrBusy)
	wantStand(t, b, 0, voters[:3], 110, api.ErrForm)
	if !slices.Equal(voters, []int{3, 1, 2, 77, 76}) {
		t.Errorf("changed to %v", voters)
	}
	voters[0], voters[1], voters[2] = 7, 8, 9
	wantVoters(t, b, 1, 2, 3)
	wantAck(t, b, 7, 5, 100, false)
	wantAck(t, b, 8, 5, 100, false)
	wantAck(t, b, 3, 5, 100, false)
	wantAck(t, b, 1, 5, 100, true)
}

// P15.2: what is told is new memory each time, its spare room too, and stays as it is.
func TestVotersAreNew(t *testing.T) {
	b := stood(t, 9, 4, 6, 2, 8)
	one, other := b.Voters(), b.Voters()
	for i := range one[:cap(one)] {
		one[:cap(one)][i] = 77
	}
	if slices.Contains(other[:cap(other)], 77) {
		t.Errorf("two answers share memory: %v", other[:cap(other)])
	}
	wantVoters(t, b, 2, 4, 6, 8, 9)
	wantAck(t, b, 77, 5, 100, false)
	b.Stop()
	wantStand(t, b, 6, upTo(5), 100, api.OK)
	if !slices.Equal(other, []int{2, 4, 6, 8, 9}) {
		t.Errorf("what was told became %v", other)
	}
}

// P15.3: of each number of voters just the one by whom they are more than half wins, and then it stands no more.
func TestAck(t *testing.T) {
	r := rand.New(rand.NewSource(2))
	for n := 1; n <= mostVoters; n++ {
		for range 20 {
			b := stood(t, upTo(n)...)
			for i, k := range r.Perm(n) {
				granted := i + 1
				wins := 2*granted > n && 2*(granted-1) <= n
				if 2*granted <= n {
					wantStands(t, b, 5, 120)
				}
				wantAck(t, b, k+1, 5, 100+i%21, wins)
				wantAck(t, b, k+1, 5, 100, false)
				if 2*granted > n {
					wantNone(t, b)
				} else {
					wantUpTo(t, b, 5, 120)
					wantVoters(t, b, upTo(n)...)
				}
			}
		}
	}
}

// P15.3: one voter alone wins it at once, whoever it is.
func TestAckOfOne(t *testing.T) {
	for _, id := range ids {
		for _, epoch := range epochs {
			b := opened(t, 10)
			wantStand(t, b, epoch, []int{id}, 100, api.OK)
			for _, other := range slices.Concat(ids, noIDs) {
				if other != id {
					wantAck(t, b, other, epoch, 100, false)
				}
			}
			wantAck(t, b, id, epoch, 100, true)
			wantNone(t, b)
		}
	}
}

// P15.3: a vote of another epoch, behind the time, or of who is no voter, is none, and counts at no later vote neither.
func TestAckOfNoVote(t *testing.T) {
	b := stood(t, 1, 2, topID)
	for range 3 {
		for _, id := range []int{1, 2, topID} {
			for _, epoch := range append([]int{4, 6}, slices.Concat(epochs, noEpochs)...) {
				wantAck(t, b, id, epoch, 100, false)
			}
			for _, now := range []int{121, 122, topTime, topTime + 1, math.MaxInt} {
				wantAck(t, b, id, 5, now, false)
				wantAck(t, b, id, 0, now, false)
			}
		}
		for _, id := range append([]int{3, 4, topID - 1}, noIDs...) {
			wantAck(t, b, id, 5, 100, false)
		}
	}
	wantUpTo(t, b, 5, 120)
	wantVoters(t, b, 1, 2, topID)
	wantAck(t, b, topID, 5, 120, false)
	wantAck(t, b, 1, 5, 120, true)
}

// P15.3: a vote counts at each time at which it stands, also at one ahead of that from which on it does.
func TestAckAtEachTime(t *testing.T) {
	for _, now := range []int{math.MinInt, -topTime, -1, 0, 99, 100, 101, 119, 120} {
		b := stood(t, 1, 2, 3)
		wantAck(t, b, 1, 5, now, false)
		wantAck(t, b, 2, 5, now, true)
		wantNone(t, b)
	}
}

// P15.3: who granted once doesn't grant again, however often it is counted.
func TestAckTwice(t *testing.T) {
	b := stood(t, 1, 2, 3, 4)
	for _, id := range []int{4, 2} {
		for range 10 {
			wantAck(t, b, id, 5, 101, false)
		}
	}
	wantUpTo(t, b, 5, 120)
	wantAck(t, b, 3, 5, 120, true)
}

// P15.3: what is won may be stood for anew at once, in that epoch too, and nobody has granted.
func TestStandBehindWin(t *testing.T) {
	b := stood(t, 1, 2, 3)
	wantAck(t, b, 1, 5, 101, false)
	wantAck(t, b, 2, 5, 101, true)
	for range 3 {
		wantStand(t, b, 5, upTo(3), 101, api.OK)
		wantUpTo(t, b, 5, 121)
		wantAck(t, b, 3, 5, 101, false)
		wantAck(t, b, 1, 5, 101, true)
		wantNone(t, b)
	}
}

// P15.4: a vote to a replica of somebody stands against another one up to and with twice the timeout, for each timeout, id and time.
func TestGave(t *testing.T) {
	for _, timeout := range timeouts {
		for _, id := range ids {
			for _, now := range times {
				b := opened(t, timeout)
				wantGave(t, b, id, now, api.OK)
				wantNotUpTo(t, b, id, now+2*timeout)
				for _, other := range slices.Concat(ids, noIDs) {
					if other != id {
						wantMay(t, b, other, true, now, 0, -1, math.MinInt, math.MaxInt)
					}
				}
			}
		}
	}
}

// P15.4: what was remembered last counts, be it the earlier one.
func TestGaveAgain(t *testing.T) {
	b := opened(t, 10)
	wantGave(t, b, 3, 60, api.OK)
	for _, now := range []int{100, 100, 101, 99, 0, topTime, topTime - 1, 50} {
		wantGave(t, b, 7, now, api.OK)
		wantNotUpTo(t, b, 7, now+20)
		wantNotUpTo(t, b, 3, 80)
	}
}

// P15.4: what is no id or time is refused, and nothing that was remembered is changed.
func TestGaveRefuses(t *testing.T) {
	b := opened(t, 10)
	wantGave(t, b, 1, 50, api.OK)
	wantGave(t, b, topID, 60, api.OK)
	for _, bad := range noIDs {
		for _, now := range slices.Concat(times, noTimes) {
			wantGave(t, b, bad, now, api.ErrForm)
		}
		wantMay(t, b, bad, true, times...)
		wantMay(t, b, bad, true, noTimes...)
	}
	for _, bad := range noTimes {
		for _, id := range ids {
			wantGave(t, b, id, bad, api.ErrForm)
		}
	}
	wantNotUpTo(t, b, 1, 70)
	wantNotUpTo(t, b, topID, 80)
	for _, id := range []int{2, 3, 1 << 31, topID - 1} {
		wantMay(t, b, id, true, times...)
	}
}

// P15.4: many may be remembered, and to ask changes nothing.
func TestGaveMany(t *testing.T) {
	b := opened(t, 10)
	for id := 1; id <= 3000; id++ {
		wantGave(t, b, id, id, api.OK)
		wantMay(t, b, id, true, math.MaxInt)
	}
	for id := 3000; id >= 1; id-- {
		wantNotUpTo(t, b, id, id+20)
	}
	wantMay(t, b, 3001, true, 0)
}

// P15.2, P15.4: a stand and what is remembered don't touch each other.
func TestStandAndGaveApart(t *testing.T) {
	b := stood(t, 1, 2, 3)
	wantMay(t, b, 1, true, 100)
	wantAck(t, b, 1, 5, 100, false)
	wantMay(t, b, 1, true, 100)
	wantGave(t, b, 2, 110, api.OK)
	wantGave(t, b, 3, 90, api.OK)
	wantUpTo(t, b, 5, 120)
	wantVoters(t, b, 1, 2, 3)
	wantAck(t, b, 2, 5, 100, true)
	wantNotUpTo(t, b, 2, 130)
	b.Stop()
	wantStand(t, b, 6, upTo(3), 200, api.OK)
	wantNotUpTo(t, b, 2, 130)
	wantNotUpTo(t, b, 3, 110)
}

// P15.5: whatever votes come, a stand is won at most once, and just when more than half of its voters have granted.
func TestWonOnce(t *testing.T) {
	r := rand.New(rand.NewSource(3))
	for range 2000 {
		n := r.Intn(mostVoters + 1)
		b := stood(t, upTo(n)...)
		granted := map[int]bool{} // the voters whose votes count
		won := 0
		for range 60 {
			from, epoch, now := r.Intn(20), 4+r.Intn(3), 90+r.Intn(40)
			if from >= 1 && from <= n && epoch == 5 && now <= 120 {
				granted[from] = true
			}
			if b.Ack(from, epoch, now) {
				won++
				if 2*len(granted) <= n {
					t.Fatalf("%d of %d won", len(granted), n)
				}
			}
			if more := 2*len(granted) > n; won > 1 || more != (won == 1) {
				t.Fatalf("with %d of %d it was won %d times", len(granted), n, won)
			}
		}
	}
}

// P15.2, P15.3: the example of the chapter.
func TestExample(t *testing.T) {
	b := opened(t, 10)
	wantStand(t, b, 5, []int{1, 2, 3}, 100, api.OK)
	wantUpTo(t, b, 5, 120)
	wantAck(t, b, 1, 5, 101, false)
	wantAck(t, b, 1, 5, 102, false)
	wantAck(t, b, 2, 5, 103, true)
	wantAck(t, b, 3, 5, 104, false)
}
