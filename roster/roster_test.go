package roster_test

import (
	"math"
	"math/rand"
	"slices"
	"testing"

	"grapevine/api"
	"grapevine/roster"
)

// The greatest id, time, epoch and offset, how many members there are at most, and how long a ban is, written out so that the limits themselves are held too.
const (
	topID       = 4294967296
	topTime     = 1099511627776
	topEpoch    = 281474976710656
	topOffset   = 281474976710656
	mostMembers = 15
	banFor      = 60000
)

// Numbers at all limits: those that are ids and times, and those that are none.
var (
	ids     = []int{1, 2, 3, 1<<31 - 1, 1 << 31, topID - 1, topID}
	noIDs   = []int{math.MinInt, -topID, -2, -1, 0, topID + 1, topID + 2, 2 * topID, math.MaxInt - 1, math.MaxInt}
	times   = []int{0, 1, 2, banFor - 1, banFor, banFor + 1, 1<<31 - 1, 1 << 31, 1 << 32, topTime - banFor, topTime - 1, topTime}
	noTimes = []int{math.MinInt, -topTime, -banFor, -2, -1, topTime + 1, topTime + 2, topTime + banFor, 2 * topTime, math.MaxInt - 1, math.MaxInt}
)

// own is the own id of rosters whose own id doesn't matter.
const own = 500

// opened makes a roster, which must be one.
func opened(t *testing.T, self int) *roster.Roster {
	t.Helper()
	r, e := roster.New(self)
	if r == nil || e != api.OK {
		t.Fatalf("New(%d) = %v, %d", self, r, e)
	}
	return r
}

// with makes a roster with members, all of them added at 0.
func with(t *testing.T, self int, members ...int) *roster.Roster {
	t.Helper()
	r := opened(t, self)
	for _, id := range members {
		wantAdd(t, r, id, 0, api.OK)
	}
	return r
}

// added is a member of which nothing is known.
func added(id int) roster.Member { return roster.Member{ID: id, FailAt: -1} }

// wantAdd adds a member, and holds what is answered.
func wantAdd(t *testing.T, r *roster.Roster, id, now int, must api.Errno) {
	t.Helper()
	if e := r.Add(id, now); e != must {
		t.Fatalf("Add(%d, %d) = %d, want %d", id, now, e, must)
	}
}

// wantForget forgets somebody, and holds what is answered.
func wantForget(t *testing.T, r *roster.Roster, id, now int, must api.Errno) {
	t.Helper()
	if e := r.Forget(id, now); e != must {
		t.Fatalf("Forget(%d, %d) = %d, want %d", id, now, e, must)
	}
}

// wantSet sets a member, and holds what is answered.
func wantSet(t *testing.T, r *roster.Roster, m roster.Member, must api.Errno) {
	t.Helper()
	if e := r.Set(m); e != must {
		t.Fatalf("Set(%+v) = %d, want %d", m, e, must)
	}
}

// wantNone holds that somebody is no member.
func wantNone(t *testing.T, r *roster.Roster, id int) {
	t.Helper()
	if m, is := r.Get(id); m != (roster.Member{}) || is {
		t.Fatalf("Get(%d) = %+v, %v, want nothing, false", id, m, is)
	}
}

// wantMembers holds all members, by their ids, rising.
func wantMembers(t *testing.T, r *roster.Roster, must ...roster.Member) {
	t.Helper()
	if got := r.List(); !slices.Equal(got, must) {
		t.Fatalf("List = %v, want %v", got, must)
	}
	for _, m := range must {
		if got, is := r.Get(m.ID); got != m || !is {
			t.Fatalf("Get(%d) = %+v, %v, want %+v, true", m.ID, got, is, m)
		}
	}
}

// wantAdded holds that these are all members, and that nothing is known of them.
func wantAdded(t *testing.T, r *roster.Roster, must ...int) {
	t.Helper()
	var list []roster.Member
	for _, id := range must {
		list = append(list, added(id))
	}
	wantMembers(t, r, list...)
}

// wantNext holds who is told next.
func wantNext(t *testing.T, r *roster.Roster, n, not int, must ...int) {
	t.Helper()
	if got := r.Next(n, not); !slices.Equal(got, must) {
		t.Fatalf("Next(%d, %d) = %v, want %v", n, not, got, must)
	}
}

// wantBan holds up to and with when somebody is banned.
func wantBan(t *testing.T, r *roster.Roster, id, end int) {
	t.Helper()
	for _, now := range slices.Concat(times, noTimes, []int{end - 1, end, end + 1}) {
		if got := r.Banned(id, now); got != (now <= end) {
			t.Fatalf("Banned(%d, %d) = %v of a ban up to %d", id, now, got, end)
		}
	}
}

// wantNoBan holds that somebody is banned at no time.
func wantNoBan(t *testing.T, r *roster.Roster, id int) {
	t.Helper()
	for _, now := range slices.Concat(times, noTimes) {
		if r.Banned(id, now) {
			t.Fatalf("Banned(%d, %d) = true, of no ban", id, now)
		}
	}
}

// upTo are the ids from 1 to n.
func upTo(n int) []int {
	list := make([]int, n)
	for i := range list {
		list[i] = i + 1
	}
	return list
}

// P10.1: a roster is made of each id, without members and bans, and each is another one.
func TestNew(t *testing.T) {
	for _, self := range ids {
		r, other := opened(t, self), opened(t, self)
		if got := r.Self(); got != self {
			t.Errorf("Self = %d, want %d", got, self)
		}
		wantMembers(t, r)
		wantNext(t, r, math.MaxInt, 0)
		for _, id := range slices.Concat(ids, noIDs) {
			wantNone(t, r, id)
			wantNoBan(t, r, id)
		}
		wantAdd(t, r, own, 0, api.OK)
		wantAdd(t, r, 501, 0, api.OK)
		wantNext(t, r, 1, 0, own)
		wantForget(t, r, own, 5, api.OK)
		wantAdded(t, r, 501)
		wantMembers(t, other)
		wantNoBan(t, other, own)
		wantAdd(t, other, own, 0, api.OK)
		wantAdd(t, other, 501, 0, api.OK)
		wantNext(t, other, 1, 0, own)
		if r.Self() != self || other.Self() != self {
			t.Error("its own id changes")
		}
	}
}

// P10.1: of what is no id there is no roster.
func TestNewRefuses(t *testing.T) {
	for _, self := range noIDs {
		if r, e := roster.New(self); r != nil || e != api.ErrForm {
			t.Errorf("New(%d) = %v, %d, want nil, %d", self, r, e, api.ErrForm)
		}
	}
}

// P10.2: each other id may be a member, from each time on: nothing is known of it.
func TestAdd(t *testing.T) {
	for _, self := range append([]int{own}, ids...) {
		for _, id := range ids {
			for _, now := range times {
				r := opened(t, self)
				if id == self {
					wantAdd(t, r, id, now, api.ErrSelf)
					wantMembers(t, r)
					continue
				}
				wantAdd(t, r, id, now, api.OK)
				wantAdded(t, r, id)
				wantNoBan(t, r, id)
			}
		}
	}
}

// P10.2: who is a member isn't added once more, and what is known of it stays.
func TestAddKnown(t *testing.T) {
	r := with(t, own, 7, topID)
	m := roster.Member{ID: 7, Master: topID, Config: 3, Offset: 4, FailAt: 5}
	wantSet(t, r, m, api.OK)
	for _, now := range times {
		wantAdd(t, r, 7, now, api.ErrKnown)
		wantAdd(t, r, topID, now, api.ErrKnown)
	}
	wantMembers(t, r, m, added(topID))
}

// P10.2: who is banned isn't added as long as the ban holds, and the ban stays; behind it the member is added afresh, and no ban is left.
func TestAddBanned(t *testing.T) {
	for _, id := range ids {
		for _, at := range times {
			end := at + banFor
			r := with(t, own, id, 77)
			wantSet(t, r, roster.Member{ID: id, Master: 77, Config: 3, Offset: 4, FailAt: 5}, api.OK)
			wantForget(t, r, id, at, api.OK)
			for _, now := range append([]int{end - 1, end}, times...) {
				if now <= end && now <= topTime {
					wantAdd(t, r, id, now, api.ErrBanned)
				}
			}
			wantBan(t, r, id, end)
			wantAdded(t, r, 77)
			if end+1 > topTime {
				continue
			}
			wantAdd(t, r, id, end+1, api.OK)
			wantNoBan(t, r, id)
			list := []int{id, 77}
			slices.Sort(list)
			wantAdded(t, r, list...)
		}
	}
}

// P10.2: a ban that is gone doesn't come back: only a new one holds, be it of an earlier time.
func TestBanAfresh(t *testing.T) {
	r := with(t, own, 7, 8)
	wantForget(t, r, 8, 40, api.OK)
	wantForget(t, r, 7, 1000000, api.OK)
	wantAdd(t, r, 7, 1060001, api.OK)
	wantNoBan(t, r, 7)
	wantForget(t, r, 7, 5, api.OK)
	wantBan(t, r, 7, 60005)
	wantBan(t, r, 8, 60040)
	wantAdd(t, r, 7, 60006, api.OK)
	wantNoBan(t, r, 7)
	wantBan(t, r, 8, 60040)
}

// P10.2: there are at most 15 members; whom there is no place for isn't added, and one that goes leaves a place.
func TestAddFull(t *testing.T) {
	r := with(t, own, upTo(mostMembers)...)
	for _, id := range []int{mostMembers + 1, 1000, topID} {
		wantAdd(t, r, id, 5, api.ErrFull)
		wantNone(t, r, id)
		wantNoBan(t, r, id)
	}
	wantAdded(t, r, upTo(mostMembers)...)
	wantForget(t, r, 7, 5, api.OK)
	wantAdd(t, r, topID, 5, api.OK)
	wantAdd(t, r, 16, 5, api.ErrFull)
	wantAdded(t, r, 1, 2, 3, 4, 5, 6, 8, 9, 10, 11, 12, 13, 14, 15, topID)
}

// P10.2: of several errors of Add the first one is told: ErrForm, ErrSelf, ErrKnown, ErrBanned, ErrFull.
func TestAddErrorsInOrder(t *testing.T) {
	for _, n := range []int{2, mostMembers} {
		r := with(t, own, append(upTo(n-1), 77)...)
		wantForget(t, r, 77, 100, api.OK)
		wantAdd(t, r, n, 0, api.OK)
		for _, id := range slices.Concat(ids, noIDs, []int{own, n, 77}) {
			for _, now := range noTimes {
				wantAdd(t, r, id, now, api.ErrForm)
			}
		}
		for _, id := range noIDs {
			for _, now := range times {
				wantAdd(t, r, id, now, api.ErrForm)
			}
		}
		for _, now := range times {
			wantAdd(t, r, own, now, api.ErrSelf)
			wantAdd(t, r, 1, now, api.ErrKnown)
			wantAdd(t, r, n, now, api.ErrKnown)
		}
		wantAdd(t, r, 77, 0, api.ErrBanned)
		wantAdd(t, r, 77, 60100, api.ErrBanned)
		if n == mostMembers {
			wantAdd(t, r, 77, 60101, api.ErrFull)
			wantAdd(t, r, 78, 0, api.ErrFull)
		}
		wantBan(t, r, 77, 60100) // which an Add that is refused doesn't end
		wantAdded(t, r, upTo(n)...)
	}
}

// P10.2: a ban is of one id alone, and of an id that was forgotten.
func TestBanned(t *testing.T) {
	r := with(t, own, 1, 2, topID)
	wantForget(t, r, 1, 0, api.OK)
	wantForget(t, r, topID, topTime, api.OK)
	wantBan(t, r, 1, banFor)
	wantBan(t, r, topID, topTime+banFor)
	for _, id := range append([]int{2, 3, own, topID - 1}, noIDs...) {
		wantNoBan(t, r, id)
	}
	wantAdded(t, r, 2)
}

// P10.3: Forget takes away one member alone, once, and bans it up to and with its time and the length of a ban.
func TestForget(t *testing.T) {
	for _, id := range ids {
		for _, now := range times {
			r := with(t, own, id, 77, 78)
			m := roster.Member{ID: 77, Master: id, Config: 3, Offset: 4, FailAt: 5}
			wantSet(t, r, m, api.OK)
			wantForget(t, r, id, now, api.OK)
			wantNone(t, r, id)
			wantMembers(t, r, m, added(78))
			wantSet(t, r, added(id), api.ErrNode)
			wantForget(t, r, id, topTime, api.ErrNode)
			wantBan(t, r, id, now+banFor)
			wantNoBan(t, r, 77)
		}
	}
}

// P10.3: all members may be forgotten, in any order, and all but they stay each time.
func TestForgetAll(t *testing.T) {
	r := rand.New(rand.NewSource(1))
	for range 50 {
		left := upTo(mostMembers)
		x := with(t, own, left...)
		for _, k := range r.Perm(mostMembers) {
			wantForget(t, x, k+1, 10*k, api.OK)
			left = slices.DeleteFunc(left, func(id int) bool { return id == k+1 })
			wantAdded(t, x, left...)
		}
		wantNext(t, x, 3, 0)
		for k := range mostMembers {
			wantBan(t, x, k+1, 10*k+banFor)
		}
	}
}

// P10.3: of several errors of Forget the first one is told: ErrForm, ErrSelf, ErrNode; and nothing is changed.
func TestForgetRefuses(t *testing.T) {
	r := with(t, own, 5, 6, 77)
	wantForget(t, r, 77, 100, api.OK)
	for _, id := range slices.Concat(ids, noIDs, []int{own, 5, 77}) {
		for _, now := range noTimes {
			wantForget(t, r, id, now, api.ErrForm)
		}
	}
	for _, now := range times {
		for _, id := range noIDs {
			wantForget(t, r, id, now, api.ErrForm)
		}
		for _, id := range append([]int{77}, ids...) {
			wantForget(t, r, id, now, api.ErrNode)
		}
		wantForget(t, r, own, now, api.ErrSelf)
	}
	wantAdded(t, r, 5, 6)
	wantBan(t, r, 77, 60100)
	for _, id := range slices.Concat(ids, noIDs, []int{own, 5, 6}) {
		wantNoBan(t, r, id)
	}
}

// P10.4: who is no member isn't got, be it no id at all or its own one.
func TestGetNone(t *testing.T) {
	r := with(t, own, 5, 9)
	for _, id := range slices.Concat(ids, noIDs, []int{own, 4, 6, 8, 10}) {
		wantNone(t, r, id)
	}
	wantAdded(t, r, 5, 9)
}

// P10.4: all that may be known of a member is kept, of that member alone.
func TestSet(t *testing.T) {
	masters := append([]int{0, own, 9, 10}, ids...) // the roster's own, other members and whom it doesn't know too
	fails := append([]int{-1}, times...)
	r := with(t, own, 8, 9, 10)
	other := roster.Member{ID: 10, Master: 8, Config: 1, Offset: 2, FailAt: 3}
	wantSet(t, r, other, api.OK)
	for _, master := range masters {
		for _, epoch := range []int{0, 1, 1 << 32, topEpoch - 1, topEpoch} {
			for _, offset := range []int{0, 1, 1 << 32, topOffset - 1, topOffset} {
				for _, fail := range fails {
					m := roster.Member{ID: 8, Master: master, Config: epoch, Offset: offset, FailAt: fail}
					wantSet(t, r, m, api.OK)
					wantMembers(t, r, m, added(9), other)
				}
			}
		}
	}
	wantSet(t, r, added(8), api.OK)
	wantAdd(t, r, topID, 0, api.OK)
	last := roster.Member{ID: topID, Master: topID - 1}
	wantSet(t, r, last, api.OK)
	wantMembers(t, r, added(8), added(9), other, last)
}

// wrong are what no member may be, all besides it being right.
func wrong(right roster.Member) []roster.Member {
	var list []roster.Member
	spoil := func(numbers []int, at func(m *roster.Member) *int) {
		for _, n := range numbers {
			m := right
			*at(&m) = n
			list = append(list, m)
		}
	}
	above := func(n int) []int {
		return []int{math.MinInt, -n, -2, -1, n + 1, n + 2, 2 * n, math.MaxInt - 1, math.MaxInt}
	}
	noMasters := slices.DeleteFunc(slices.Clone(noIDs), func(n int) bool { return n == 0 })
	spoil(append(noMasters, right.ID), func(m *roster.Member) *int { return &m.Master })
	spoil(above(topEpoch), func(m *roster.Member) *int { return &m.Config })
	spoil(above(topOffset), func(m *roster.Member) *int { return &m.Offset })
	noFails := slices.DeleteFunc(slices.Clone(noTimes), func(n int) bool { return n == -1 })
	spoil(noFails, func(m *roster.Member) *int { return &m.FailAt })
	return list
}

// P10.4: what no member may be is refused, and changes nothing.
func TestSetRefuses(t *testing.T) {
	r := with(t, own, 8, 9, topID)
	m := roster.Member{ID: 8, Master: 9, Config: 1, Offset: 2, FailAt: 3}
	wantSet(t, r, m, api.OK)
	for _, right := range []roster.Member{{ID: 8, Master: 1, Config: 7, Offset: 7, FailAt: 7}, added(8), added(9), added(topID)} {
		for _, bad := range wrong(right) {
			wantSet(t, r, bad, api.ErrForm)
			wantMembers(t, r, m, added(9), added(topID))
		}
	}
}

// P10.4: who is no member is told ahead of what no member may be; and nobody is added.
func TestSetOfNone(t *testing.T) {
	r := with(t, own, 8, 9, 77)
	wantForget(t, r, 77, 0, api.OK)
	for _, id := range slices.Concat(ids, noIDs, []int{own, 7, 10, 77}) {
		right := added(id)
		wantSet(t, r, right, api.ErrNode)
		for _, bad := range wrong(right) {
			wantSet(t, r, bad, api.ErrNode)
		}
	}
	wantAdded(t, r, 8, 9)
}

// P10.4: members are told rising, in whatever order they were added, and as many as there may be.
func TestList(t *testing.T) {
	r := rand.New(rand.NewSource(2))
	for range 50 {
		for n := range mostMembers + 1 {
			x := opened(t, own)
			for _, k := range r.Perm(n) {
				wantAdd(t, x, k+1, 5, api.OK)
			}
			wantAdded(t, x, upTo(n)...)
			wantNext(t, x, n, 0, upTo(n)...)
		}
	}
	wantAdded(t, with(t, own, topID, 3, 1<<31, 1, topID-1), 1, 3, 1<<31, topID-1, topID)
}

// P10.5: as many are told as are asked for, but none twice, from the cursor on, round and round.
func TestNext(t *testing.T) {
	r := with(t, own, 40, 10, 30, 20)
	for _, c := range []struct {
		n, not int
		must   []int
	}{
		{1, 0, []int{10}}, {1, 0, []int{20}}, {1, 0, []int{30}}, {1, 0, []int{40}}, {1, 0, []int{10}}, // the cursor is 5
		{3, 0, []int{20, 30, 40}}, {4, 0, []int{10, 20, 30, 40}}, {3, 0, []int{10, 20, 30}}, // 15
		{0, 0, nil}, {-1, 0, nil}, {math.MinInt, 0, nil}, {2, 0, []int{40, 10}}, // 17
		{5, 0, []int{20, 30, 40, 10}}, {math.MaxInt, 0, []int{20, 30, 40, 10}}, // 25
		{2, 20, []int{30, 40}}, {2, 20, []int{10, 30}}, {3, 20, []int{40, 10, 30}}, // 32
		{4, 10, []int{40, 20, 30}}, {math.MaxInt, 40, []int{30, 10, 20}}, // 38
		{2, own, []int{30, 40}}, {1, 11, []int{10}}, {1, -10, []int{20}}, {1, math.MaxInt, []int{30}}, {1, math.MinInt, []int{40}}, // 44
		{0, 10, nil}, {-5, 10, nil}, {1, 10, []int{40}}, {1, 0, []int{20}}, // 46
	} {
		wantNext(t, r, c.n, c.not, c.must...)
	}
	wantAdded(t, r, 10, 20, 30, 40)
}

// P10.5: where there is nobody to tell of, none is told, and the cursor stays.
func TestNextOfNobody(t *testing.T) {
	r := opened(t, own)
	for _, n := range []int{math.MinInt, -1, 0, 1, 3, math.MaxInt} {
		wantNext(t, r, n, 0)
	}
	wantAdd(t, r, 7, 0, api.OK)
	for _, n := range []int{math.MinInt, -1, 0, 1, 3, math.MaxInt} {
		wantNext(t, r, n, 7)
	}
	wantAdd(t, r, 8, 0, api.OK)
	wantAdd(t, r, 9, 0, api.OK)
	wantNext(t, r, 1, 0, 7)
	wantNext(t, r, 2, 0, 8, 9)
}

// P10.5: the cursor counts whom Next told of, and stays what it is through all other calls, be there more members or fewer.
func TestCursor(t *testing.T) {
	r := with(t, own, 1, 2, 3, 4, 5)
	wantNext(t, r, 3, 0, 1, 2, 3) // 3
	wantForget(t, r, 1, 0, api.OK)
	wantNext(t, r, 1, 0, 5) // 3 of four; then 4
	wantForget(t, r, 2, 0, api.OK)
	wantForget(t, r, 5, 0, api.OK)
	wantForget(t, r, 5, 0, api.ErrNode)
	wantNext(t, r, 1, 0, 3) // 4 of two: 0; then 5
	wantAdd(t, r, 6, 0, api.OK)
	wantAdd(t, r, 6, 0, api.ErrKnown)
	wantAdd(t, r, 0, 0, api.ErrForm)
	wantSet(t, r, roster.Member{ID: 6, Config: 9, FailAt: 9}, api.OK)
	wantSet(t, r, roster.Member{ID: 7}, api.ErrNode)
	r.List()
	r.Get(6)
	wantNext(t, r, 2, 0, 6, 3) // 5 of three: 2; then 7
	wantNext(t, r, 1, 3, 6)    // 7 of two: 1; then 8
	wantForget(t, r, 3, 0, api.OK)
	wantForget(t, r, 4, 0, api.OK)
	wantForget(t, r, 6, 0, api.OK)
	wantNext(t, r, 1, 0)
	for _, id := range []int{11, 12, 13, 14, 15, 16, 17} {
		wantAdd(t, r, id, 0, api.OK)
	}
	wantNext(t, r, 1, 0, 12) // 8 of seven: 1
}

// P10.5: all members come equally often, however many are told at once.
func TestNextIsFair(t *testing.T) {
	for n := 1; n <= mostMembers; n++ {
		for k := 1; k <= n; k++ {
			r := with(t, own, upTo(n)...)
			count := map[int]int{}
			for range n {
				for _, id := range r.Next(k, own) {
					count[id]++
				}
			}
			for id := 1; id <= n; id++ {
				if count[id] != k {
					t.Fatalf("%d comes %d times of %d", id, count[id], k)
				}
			}
		}
	}
}

// P10.4, P10.5: what is told is new memory each time, its spare room too, and stays as it was told.
func TestListsAreNew(t *testing.T) {
	r := with(t, own, 1, 2, 3, 5, 7)
	list, other := r.List(), r.List()
	for i := range list[:cap(list)] {
		list[:cap(list)][i] = roster.Member{ID: 77}
	}
	if slices.Contains(other[:cap(other)], roster.Member{ID: 77}) {
		t.Fatalf("two answers of List share memory: %v", other[:cap(other)])
	}
	told, next := r.Next(5, 0), r.Next(5, 0)
	for i := range told[:cap(told)] {
		told[:cap(told)][i] = 77
	}
	if slices.Contains(next[:cap(next)], 77) {
		t.Fatalf("two answers of Next share memory: %v", next[:cap(next)])
	}
	wantAdded(t, r, 1, 2, 3, 5, 7)
	wantForget(t, r, 3, 0, api.OK)
	wantAdd(t, r, 4, 0, api.OK)
	wantSet(t, r, roster.Member{ID: 1, Config: 5}, api.OK)
	r.Next(3, 0)
	if !slices.Equal(other, []roster.Member{added(1), added(2), added(3), added(5), added(7)}) || !slices.Equal(next, []int{1, 2, 3, 5, 7}) {
		t.Errorf("what was told became %v and %v", other, next)
	}
}

// P10.3: the length of a ban is what the chapter says.
func TestBanLength(t *testing.T) {
	if roster.Ban != banFor {
		t.Errorf("Ban = %d", roster.Ban)
	}
}

// P10.5: the example of the chapter.
func TestExample(t *testing.T) {
	r := with(t, 5, 7, 3, 9)
	wantNext(t, r, 2, 0, 3, 7)
	wantNext(t, r, 2, 0, 9, 3)
	wantNext(t, r, 5, 7, 3, 9)
}
