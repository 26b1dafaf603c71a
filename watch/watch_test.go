package watch_test

import (
	"math"
	"math/rand"
	"slices"
	"testing"

	"grapevine/api"
	"grapevine/watch"
)

// The greatest id, time and timeout, and how many peers there are at most, written out so that the limits themselves are held too.
const (
	topID      = 4294967296
	topTime    = 1099511627776
	topTimeout = 1073741824
	mostPeers  = 16
)

// Numbers at all limits: those that are ids, times and timeouts, and those that are none.
var (
	ids        = []int{1, 2, 3, 1<<31 - 1, 1 << 31, topID - 1, topID}
	noIDs      = []int{math.MinInt, -topID, -2, -1, 0, topID + 1, topID + 2, 2 * topID, math.MaxInt - 1, math.MaxInt}
	times      = []int{0, 1, 2, 1<<31 - 1, 1 << 31, 1 << 32, topTime - topTimeout, topTime - 1, topTime}
	noTimes    = []int{math.MinInt, -topTime, -2, -1, topTime + 1, topTime + 2, 2 * topTime, math.MaxInt - 1, math.MaxInt}
	timeouts   = []int{2, 3, 4, 5, 10, 11, 1000, 1<<16 + 1, topTimeout - 1, topTimeout}
	noTimeouts = []int{math.MinInt, -topTimeout, -10, -2, -1, 0, 1, topTimeout + 1, topTimeout + 2, 2 * topTimeout, 1 << 32, 1<<32 + 10, math.MaxInt - 1, math.MaxInt}
)

// opened makes a watch, which must be one.
func opened(t *testing.T, timeout int) *watch.Watch {
	t.Helper()
	w, e := watch.New(timeout)
	if w == nil || e != api.OK {
		t.Fatalf("New(%d) = %v, %d", timeout, w, e)
	}
	return w
}

// with makes a watch with peers, all of them added at one time.
func with(t *testing.T, timeout, now int, peers ...int) *watch.Watch {
	t.Helper()
	w := opened(t, timeout)
	for _, id := range peers {
		wantAdd(t, w, id, now, api.OK)
	}
	return w
}

// wantAdd adds a peer, and holds what is answered.
func wantAdd(t *testing.T, w *watch.Watch, id, now int, must api.Errno) {
	t.Helper()
	if e := w.Add(id, now); e != must {
		t.Fatalf("Add(%d, %d) = %d, want %d", id, now, e, must)
	}
}

// wantPing pings somebody, and holds what is answered.
func wantPing(t *testing.T, w *watch.Watch, id, now int, must api.Errno) {
	t.Helper()
	if e := w.Ping(id, now); e != must {
		t.Fatalf("Ping(%d, %d) = %d, want %d", id, now, e, must)
	}
}

// wantPong hears somebody, and holds what is answered.
func wantPong(t *testing.T, w *watch.Watch, id, now int, must api.Errno) {
	t.Helper()
	if e := w.Pong(id, now); e != must {
		t.Fatalf("Pong(%d, %d) = %d, want %d", id, now, e, must)
	}
}

// wantPeers holds who is a peer.
func wantPeers(t *testing.T, w *watch.Watch, must ...int) {
	t.Helper()
	if got := w.Peers(); !slices.Equal(got, must) {
		t.Fatalf("Peers = %v, want %v", got, must)
	}
}

// wantDue holds who is due.
func wantDue(t *testing.T, w *watch.Watch, now int, must ...int) {
	t.Helper()
	if got := w.Due(now); !slices.Equal(got, must) {
		t.Fatalf("Due(%d) = %v, want %v", now, got, must)
	}
}

// wantLate holds who is late.
func wantLate(t *testing.T, w *watch.Watch, now int, must ...int) {
	t.Helper()
	if got := w.Late(now); !slices.Equal(got, must) {
		t.Fatalf("Late(%d) = %v, want %v", now, got, must)
	}
}

// wantDueFrom holds from when on somebody is due.
func wantDueFrom(t *testing.T, w *watch.Watch, id, from int) {
	t.Helper()
	if slices.Contains(w.Due(from-1), id) || !slices.Contains(w.Due(from), id) {
		t.Fatalf("%d isn't due from %d on: %v, %v", id, from, w.Due(from-1), w.Due(from))
	}
}

// wantWait holds that a ping to somebody waits since then, up to when it isn't late.
func wantWait(t *testing.T, w *watch.Watch, timeout, id, must int) {
	t.Helper()
	if since, waits := w.Waits(id); since != must || !waits {
		t.Fatalf("Waits(%d) = %d, %v, want %d, true", id, since, waits, must)
	}
	if end := must + timeout; slices.Contains(w.Late(end), id) || !slices.Contains(w.Late(end+1), id) {
		t.Fatalf("%d isn't late behind %d: %v, %v", id, end, w.Late(end), w.Late(end+1))
	}
}

// wantNoWait holds that no ping to somebody waits, so that it is never late.
func wantNoWait(t *testing.T, w *watch.Watch, id int) {
	t.Helper()
	if since, waits := w.Waits(id); since != 0 || waits {
		t.Fatalf("Waits(%d) = %d, %v, want 0, false", id, since, waits)
	}
	if slices.Contains(w.Late(math.MaxInt), id) {
		t.Fatalf("%d is late, and no ping to it waits", id)
	}
}

// upTo are the ids from 1 to n.
func upTo(n int) []int {
	list := make([]int, n)
	for i := range list {
		list[i] = i + 1
	}
	return list
}

// P9.1: a watch is made for each timeout up to the greatest, without peers, and each is another one.
func TestNew(t *testing.T) {
	for _, timeout := range timeouts {
		w, other := opened(t, timeout), opened(t, timeout)
		wantPeers(t, w)
		wantDue(t, w, math.MaxInt)
		wantLate(t, w, math.MaxInt)
		for _, id := range slices.Concat(ids, noIDs) {
			wantNoWait(t, w, id)
			if w.Remove(id) {
				t.Errorf("a new watch has the peer %d", id)
			}
		}
		wantAdd(t, w, 1, 0, api.OK)
		wantPeers(t, w, 1)
		wantPeers(t, other)
	}
}

// P9.1: what is no timeout is refused, and there is no watch.
func TestNewRefuses(t *testing.T) {
	for _, timeout := range noTimeouts {
		if w, e := watch.New(timeout); w != nil || e != api.ErrForm {
			t.Errorf("New(%d) = %v, %d, want nil, %d", timeout, w, e, api.ErrForm)
		}
	}
}

// P9.1: each id may be a peer from each time on: no ping to it waits, and it was pinged and heard at that time.
func TestAdd(t *testing.T) {
	for _, timeout := range timeouts {
		for _, id := range ids {
			for _, now := range times {
				w := with(t, timeout, now, id)
				wantPeers(t, w, id)
				wantNoWait(t, w, id)
				wantDueFrom(t, w, id, now+timeout/2)
			}
		}
	}
}

// P9.1: peers are told rising, in whatever order they were added, and as many as there may be.
func TestPeers(t *testing.T) {
	r := rand.New(rand.NewSource(1))
	for range 50 {
		for n := range mostPeers + 1 {
			w := opened(t, 10)
			for _, k := range r.Perm(n) {
				wantAdd(t, w, k+1, 5, api.OK)
			}
			wantPeers(t, w, upTo(n)...)
		}
	}
	w := with(t, 10, 0, topID, 3, 1<<31, 1, topID-1)
	wantPeers(t, w, 1, 3, 1<<31, topID-1, topID)
}

// P9.1: who is a peer isn't added once more, and nothing about it is changed.
func TestAddKnown(t *testing.T) {
	w := with(t, 10, 100, 1, topID)
	wantPing(t, w, 1, 103, api.OK)
	for _, now := range times {
		wantAdd(t, w, 1, now, api.ErrKnown)
		wantAdd(t, w, topID, now, api.ErrKnown)
	}
	wantPeers(t, w, 1, topID)
	wantWait(t, w, 10, 1, 103)
	wantDueFrom(t, w, 1, 108)
	wantNoWait(t, w, topID)
	wantDueFrom(t, w, topID, 105)
}

// P9.1: there are at most 16 peers; whom there is no place for isn't added, and one that goes leaves a place.
func TestAddFull(t *testing.T) {
	w := with(t, 10, 0, upTo(mostPeers)...)
	for _, id := range []int{mostPeers + 1, 1000, topID} {
		wantAdd(t, w, id, 5, api.ErrFull)
		wantPing(t, w, id, 5, api.ErrNode)
	}
	wantPeers(t, w, upTo(mostPeers)...)
	if !w.Remove(7) {
		t.Error("7 wasn't removed")
	}
	wantAdd(t, w, topID, 5, api.OK)
	wantAdd(t, w, 7, 5, api.ErrFull)
	wantPeers(t, w, 1, 2, 3, 4, 5, 6, 8, 9, 10, 11, 12, 13, 14, 15, 16, topID)
}

// P9.1: of several errors of Add the first one is told: ErrForm, ErrKnown, ErrFull.
func TestAddErrorsInOrder(t *testing.T) {
	for _, n := range []int{2, mostPeers} {
		w := with(t, 10, 0, upTo(n)...)
		for _, id := range slices.Concat(ids, noIDs) {
			for _, now := range noTimes {
				wantAdd(t, w, id, now, api.ErrForm)
			}
		}
		for _, id := range noIDs {
			for _, now := range times {
				wantAdd(t, w, id, now, api.ErrForm)
			}
		}
		wantAdd(t, w, 1, 5, api.ErrKnown)
		wantAdd(t, w, n, 5, api.ErrKnown)
		wantPeers(t, w, upTo(n)...)
		wantDue(t, w, 4)
		wantDue(t, w, 5, upTo(n)...)
	}
}

// P9.1: Remove takes away one peer alone, once, with all that was known of it.
func TestRemove(t *testing.T) {
	w := with(t, 10, 100, 1, 2, topID)
	wantPing(t, w, 1, 103, api.OK)
	wantPing(t, w, 2, 104, api.OK)
	if !w.Remove(1) || w.Remove(1) {
		t.Error("not the first Remove alone removes")
	}
	wantPeers(t, w, 2, topID)
	wantNoWait(t, w, 1)
	wantDue(t, w, topTime, 2, topID)
	wantLate(t, w, topTime, 2)
	wantPing(t, w, 1, 5, api.ErrNode)
	wantPong(t, w, 1, 5, api.ErrNode)
	wantAdd(t, w, 1, 50, api.OK) // of which no earlier time is known any more
	wantNoWait(t, w, 1)
	wantDueFrom(t, w, 1, 55)
	wantWait(t, w, 10, 2, 104)
	wantDueFrom(t, w, 2, 109)
	if !w.Remove(topID) || !w.Remove(2) || !w.Remove(1) {
		t.Error("a peer isn't removed")
	}
	wantPeers(t, w)
}

// P9.1: who is no peer isn't removed, be it no id at all.
func TestRemoveNone(t *testing.T) {
	w := with(t, 10, 0, 5, 6)
	for _, id := range slices.Concat(ids, noIDs) {
		if w.Remove(id) {
			t.Errorf("Remove(%d) = true", id)
		}
	}
	wantPeers(t, w, 5, 6)
}

// P9.2: a ping waits from when it was sent, and the peer was pinged then, for each timeout, id and time.
func TestPing(t *testing.T) {
	for _, timeout := range timeouts {
		for _, id := range ids {
			for _, now := range times {
				w := with(t, timeout, 0, id, 77)
				wantPing(t, w, id, now, api.OK)
				wantWait(t, w, timeout, id, now)
				wantDueFrom(t, w, id, now+timeout/2)
				wantNoWait(t, w, 77)
				wantDueFrom(t, w, 77, timeout/2)
			}
		}
	}
}

// P9.2: a ping that waits goes on waiting, whenever another one is sent.
func TestPingAgain(t *testing.T) {
	for _, c := range []struct{ first, second, last int }{
		{100, 101, 101}, {100, 100, 100}, {100, 99, 100}, {100, 0, 100}, {100, 111, 111}, {100, 500, 500}, {0, 0, 0}, {0, 1, 1},
		{0, topTime, topTime}, {topTime, 0, topTime}, {topTime, topTime, topTime}, {topTime - 1, topTime, topTime}, {topTime, topTime - 1, topTime},
	} {
		w := with(t, 10, 0, 1)
		wantPing(t, w, 1, c.first, api.OK)
		wantPing(t, w, 1, c.second, api.OK)
		wantWait(t, w, 10, 1, c.first)
		wantDueFrom(t, w, 1, c.last+5)
	}
}

// P9.2: a ping of an earlier time than the last one waits from its own time on, but doesn't make the peer due any earlier.
func TestPingEarlier(t *testing.T) {
	for _, now := range []int{0, 1, 50, 99, 100} {
		w := with(t, 10, 100, 1)
		wantPing(t, w, 1, now, api.OK)
		wantWait(t, w, 10, 1, now)
		wantDueFrom(t, w, 1, 105)
		wantPong(t, w, 1, 0, api.OK)
		wantPing(t, w, 1, 3, api.OK)
		wantWait(t, w, 10, 1, 3)
		wantDueFrom(t, w, 1, 105)
	}
}

// P9.2: who is heard has no ping that waits, and was heard then, for each timeout, id and time.
func TestPong(t *testing.T) {
	for _, timeout := range timeouts {
		for _, id := range ids {
			for _, now := range times {
				w := with(t, timeout, 0, id, 77)
				wantPing(t, w, id, 0, api.OK)
				wantPing(t, w, 77, 0, api.OK)
				wantPong(t, w, id, now, api.OK)
				wantNoWait(t, w, id)
				wantDueFrom(t, w, id, now+timeout/2)
				wantWait(t, w, timeout, 77, 0)
			}
		}
	}
}

// P9.2: who is heard though no ping waits was heard all the same; and the next ping waits from its own time on.
func TestPongOfNoPing(t *testing.T) {
	w := with(t, 10, 100, 1)
	wantPong(t, w, 1, 107, api.OK)
	wantNoWait(t, w, 1)
	wantDueFrom(t, w, 1, 112)
	wantPong(t, w, 1, 109, api.OK)
	wantPing(t, w, 1, 112, api.OK)
	wantWait(t, w, 10, 1, 112)
	wantPong(t, w, 1, 113, api.OK)
	wantPing(t, w, 1, 0, api.OK)
	wantWait(t, w, 10, 1, 0)
}

// P9.2: an answer of an earlier time ends the waiting too, but what was heard later stays.
func TestPongEarlier(t *testing.T) {
	for _, now := range []int{0, 1, 50, 119, 120} {
		w := with(t, 10, 100, 1)
		wantPong(t, w, 1, 120, api.OK)
		wantPing(t, w, 1, 110, api.OK)
		wantWait(t, w, 10, 1, 110)
		wantPong(t, w, 1, now, api.OK)
		wantNoWait(t, w, 1)
		wantDueFrom(t, w, 1, 125)
	}
}

// P9.2: of Ping and Pong, too, what is no id or time goes ahead of who is no peer; and nothing is changed.
func TestPingRefuses(t *testing.T) {
	w := with(t, 10, 100, 5, 6)
	wantPing(t, w, 5, 103, api.OK)
	refused := func(id, now int, must api.Errno) {
		t.Helper()
		wantPing(t, w, id, now, must)
		wantPong(t, w, id, now, must)
	}
	for _, id := range noIDs {
		for _, now := range slices.Concat(times, noTimes) {
			refused(id, now, api.ErrForm)
		}
	}
	for _, id := range append([]int{5, 6}, ids...) {
		for _, now := range noTimes {
			refused(id, now, api.ErrForm)
		}
	}
	for _, id := range ids {
		for _, now := range times {
			refused(id, now, api.ErrNode)
		}
	}
	wantPeers(t, w, 5, 6)
	wantWait(t, w, 10, 5, 103)
	wantDueFrom(t, w, 5, 108)
	wantNoWait(t, w, 6)
	wantDueFrom(t, w, 6, 105)
}

// P9.3: who is due at a time, rising: half the timeout, rounded down, behind the later one of pinged and heard.
func TestDue(t *testing.T) {
	for _, timeout := range []int{10, 11} {
		w := with(t, timeout, 100, 9, 2, topID, 7)
		wantPing(t, w, 7, 104, api.OK)
		wantPing(t, w, 2, 102, api.OK)
		wantPong(t, w, 2, 106, api.OK)
		wantPong(t, w, topID, 101, api.OK)
		wantPing(t, w, topID, 104, api.OK)
		for _, c := range []struct {
			now  int
			must []int
		}{
			{math.MinInt, nil}, {-topTime, nil}, {-1, nil}, {0, nil}, {100, nil}, {104, nil}, {105, []int{9}}, {108, []int{9}},
			{109, []int{7, 9, topID}}, {110, []int{7, 9, topID}}, {111, []int{2, 7, 9, topID}}, {topTime, []int{2, 7, 9, topID}},
			{topTime + 1, []int{2, 7, 9, topID}}, {math.MaxInt, []int{2, 7, 9, topID}},
		} {
			wantDue(t, w, c.now, c.must...)
		}
		wantDue(t, w, 109, 7, 9, topID) // to ask changes nothing
	}
}

// P9.3: who is late at a time, rising: more than the timeout behind the ping that waits.
func TestLate(t *testing.T) {
	w := with(t, 10, 100, 9, 2, topID, 7, 3)
	wantPing(t, w, 9, 104, api.OK)
	wantPing(t, w, topID, 102, api.OK)
	wantPing(t, w, 2, 103, api.OK)
	wantPing(t, w, 3, 50, api.OK)
	wantPing(t, w, 7, 100, api.OK)
	wantPong(t, w, 7, 101, api.OK)
	for _, c := range []struct {
		now  int
		must []int
	}{
		{math.MinInt, nil}, {-topTime, nil}, {-1, nil}, {0, nil}, {60, nil}, {61, []int{3}}, {112, []int{3}}, {113, []int{3, topID}},
		{114, []int{2, 3, topID}}, {115, []int{2, 3, 9, topID}}, {topTime, []int{2, 3, 9, topID}}, {topTime + 1, []int{2, 3, 9, topID}},
		{math.MaxInt, []int{2, 3, 9, topID}},
	} {
		wantLate(t, w, c.now, c.must...)
	}
	wantLate(t, w, 113, 3, topID) // to ask changes nothing
}

// P9.3: who waits at 0 does wait, and who doesn't, or is no peer, doesn't.
func TestWaits(t *testing.T) {
	w := with(t, 10, 5, 1, 2)
	wantPing(t, w, 1, 0, api.OK)
	wantWait(t, w, 10, 1, 0)
	for _, id := range append([]int{2, 3, topID}, noIDs...) {
		wantNoWait(t, w, id)
	}
	wantPeers(t, w, 1, 2)
}

// P9.1, P9.3: lists are rising however many there are, and the same each time.
func TestListsRising(t *testing.T) {
	r := rand.New(rand.NewSource(2))
	for n := range mostPeers + 1 {
		w := opened(t, 10)
		for _, k := range r.Perm(n) {
			wantAdd(t, w, k+1, 5, api.OK)
			wantPing(t, w, k+1, 5, api.OK)
		}
		for range 20 {
			wantPeers(t, w, upTo(n)...)
			wantDue(t, w, 10, upTo(n)...)
			wantLate(t, w, 16, upTo(n)...)
		}
	}
}

// P9.1, P9.3: what is told is new memory each time, its spare room too, and stays as it was told.
func TestListsAreNew(t *testing.T) {
	w := with(t, 10, 5, 1, 2, 3, 5, 7)
	for _, id := range w.Peers() {
		wantPing(t, w, id, 5, api.OK)
	}
	told := [][]int{w.Peers(), w.Due(10), w.Late(16), w.Peers(), w.Due(10), w.Late(16)}
	for i, list := range told[:3] {
		all := list[:cap(list)]
		for k := range all {
			all[k] = 77
		}
		for _, other := range told[i+1:] {
			if slices.Contains(other[:cap(other)], 77) {
				t.Fatalf("two answers share memory: %v", other[:cap(other)])
			}
		}
	}
	wantPeers(t, w, 1, 2, 3, 5, 7)
	w.Remove(3)
	wantAdd(t, w, 4, 100, api.OK)
	for _, list := range told[3:] {
		if !slices.Equal(list, []int{1, 2, 3, 5, 7}) {
			t.Errorf("what was told became %v", list)
		}
	}
}

// P9.1, P9.2, P9.3: the example of the chapter.
func TestExample(t *testing.T) {
	w := with(t, 10, 0, 1)
	wantDue(t, w, 4)
	wantDue(t, w, 5, 1)
	wantPing(t, w, 1, 5, api.OK)
	wantDue(t, w, 9)
	wantDue(t, w, 10, 1)
	wantLate(t, w, 15)
	wantLate(t, w, 16, 1)
	wantPong(t, w, 1, 16, api.OK)
	wantLate(t, w, topTime)
	wantDue(t, w, 20)
	wantDue(t, w, 21, 1)
}
