package report_test

import (
	"math"
	"math/rand"
	"slices"
	"testing"

	"grapevine/api"
	"grapevine/report"
)

// The greatest id, time and window, written out so that the limits themselves are held too.
const (
	topID     = 4294967296
	topTime   = 1099511627776
	topWindow = 1073741824
)

// Numbers at all limits: those that are ids, times and windows, and those that are none.
var (
	ids       = []int{1, 2, 3, 1<<31 - 1, 1 << 31, topID - 1, topID}
	noIDs     = []int{math.MinInt, -topID, -2, -1, 0, topID + 1, topID + 2, 2 * topID, math.MaxInt - 1, math.MaxInt}
	times     = []int{0, 1, 2, 1<<31 - 1, 1 << 31, 1 << 32, topTime - topWindow, topTime - 1, topTime}
	noTimes   = []int{math.MinInt, -topTime, -2, -1, topTime + 1, topTime + 2, 2 * topTime, math.MaxInt - 1, math.MaxInt}
	windows   = []int{1, 2, 3, 10, 1000, 1<<16 + 1, topWindow - 1, topWindow}
	noWindows = []int{math.MinInt, -topWindow, -2, -1, 0, topWindow + 1, topWindow + 2, 2 * topWindow, 1 << 32, 1<<32 + 1, math.MaxInt - 1, math.MaxInt}
)

// note is a report, to be noted.
type note struct{ about, by, at int }

// opened makes a book, which must be one.
func opened(t *testing.T, window int) *report.Book {
	t.Helper()
	b, e := report.New(window)
	if b == nil || e != api.OK {
		t.Fatalf("New(%d) = %v, %d", window, b, e)
	}
	return b
}

// with makes a book with reports, which must all be taken.
func with(t *testing.T, window int, list ...note) *report.Book {
	t.Helper()
	b := opened(t, window)
	noted(t, b, list...)
	return b
}

// noted notes reports, which must all be taken.
func noted(t *testing.T, b *report.Book, list ...note) {
	t.Helper()
	for _, n := range list {
		if e := b.Note(n.about, n.by, n.at); e != api.OK {
			t.Fatalf("Note(%d, %d, %d) = %d", n.about, n.by, n.at, e)
		}
	}
}

// wantLen holds how many reports a book has.
func wantLen(t *testing.T, b *report.Book, must int) {
	t.Helper()
	if got := b.Len(); got != must {
		t.Fatalf("Len = %d, want %d", got, must)
	}
}

// wantBy holds by whom a report counts.
func wantBy(t *testing.T, b *report.Book, about, now int, must ...int) {
	t.Helper()
	if got := b.By(about, now); !slices.Equal(got, must) {
		t.Fatalf("By(%d, %d) = %v, want %v", about, now, got, must)
	}
}

// wantReports holds all that a book has, report for report: each counts up to and with the window behind its time.
func wantReports(t *testing.T, b *report.Book, window int, list ...note) {
	t.Helper()
	wantLen(t, b, len(list))
	for _, n := range list {
		if last := n.at + window; !slices.Contains(b.By(n.about, last), n.by) || slices.Contains(b.By(n.about, last+1), n.by) {
			t.Fatalf("the report %+v doesn't count up to and with %d: %v and %v", n, last, b.By(n.about, last), b.By(n.about, last+1))
		}
	}
}

// upTo are the ids from 1 to n.
func upTo(n int) []int {
	list := make([]int, n)
	for i := range list {
		list[i] = i + 1
	}
	return list
}

// P8.1: a book is made for each window up to the greatest, without reports, and each is another one.
func TestNew(t *testing.T) {
	for _, window := range windows {
		b, other := opened(t, window), opened(t, window)
		wantLen(t, b, 0)
		for _, id := range slices.Concat(ids, noIDs) {
			wantBy(t, b, id, 0)
			if b.Clear(id, 1) || b.Clear(1, id) || b.Forget(id) != 0 || b.Expire(id) != 0 {
				t.Errorf("a new book has something of %d", id)
			}
		}
		noted(t, b, note{1, 2, 0})
		wantLen(t, b, 1)
		wantLen(t, other, 0)
	}
}

// P8.1: what is no window is refused, and there is no book.
func TestNewRefuses(t *testing.T) {
	for _, window := range noWindows {
		if b, e := report.New(window); b != nil || e != api.ErrForm {
			t.Errorf("New(%d) = %v, %d, want nil, %d", window, b, e, api.ErrForm)
		}
	}
}

// P8.1, P8.3: each window counts just up to its end, for each time.
func TestWindow(t *testing.T) {
	for _, window := range windows {
		for _, at := range times {
			wantReports(t, with(t, window, note{1, 2, at}), window, note{1, 2, at})
		}
	}
}

// P8.1, P8.2: Len is how many reports there are: one of each two, in that order.
func TestLen(t *testing.T) {
	b := opened(t, 10)
	n := 0
	for _, about := range upTo(20) {
		for _, by := range upTo(20) {
			if about == by {
				continue
			}
			noted(t, b, note{about, by, 5})
			n++
			wantLen(t, b, n)
			noted(t, b, note{about, by, 5}, note{about, by, 6}, note{about, by, 4})
			wantLen(t, b, n)
		}
	}
	if n != 380 {
		t.Fatal(n)
	}
	for _, about := range upTo(20) {
		others := slices.DeleteFunc(upTo(20), func(id int) bool { return id == about })
		wantBy(t, b, about, 16, others...)
		wantBy(t, b, about, 17)
	}
}

// P8.2: a report of each two ids, with each time, is taken, and is no report of others.
func TestNote(t *testing.T) {
	for _, about := range ids {
		for _, by := range ids {
			for _, at := range times {
				if about == by {
					continue
				}
				b := with(t, 10, note{about, by, at})
				wantReports(t, b, 10, note{about, by, at})
				for _, id := range slices.Concat(ids, noIDs) {
					if id != about {
						wantBy(t, b, id, at)
					}
				}
			}
		}
	}
}

// P8.2: a later report stands instead of the one that was there; one that isn't later changes nothing.
func TestNoteAgain(t *testing.T) {
	for _, c := range []struct{ first, second, must int }{
		{100, 101, 101}, {100, 100, 100}, {100, 99, 100}, {100, 0, 100}, {0, 0, 0}, {0, 1, 1},
		{0, topTime, topTime}, {topTime, 0, topTime}, {topTime, topTime, topTime}, {topTime - 1, topTime, topTime}, {topTime, topTime - 1, topTime},
	} {
		b := with(t, 10, note{1, 2, 7}, note{2, 1, 7}, note{3, 2, 7}, note{1, 3, 7}, note{3, 1, c.first}, note{3, 1, c.second})
		wantReports(t, b, 10, note{1, 2, 7}, note{2, 1, 7}, note{3, 2, 7}, note{1, 3, 7}, note{3, 1, c.must})
	}
}

// P8.2: a report that went leaves no time behind: an earlier one may stand then.
func TestNoteAfresh(t *testing.T) {
	for what, takeAway := range map[string]func(b *report.Book){
		"Clear":       func(b *report.Book) { b.Clear(1, 2) },
		"Forget":      func(b *report.Book) { b.Forget(1) },
		"Forget (by)": func(b *report.Book) { b.Forget(2) },
		"Expire":      func(b *report.Book) { b.Expire(1000) },
	} {
		b := with(t, 10, note{1, 2, 100})
		takeAway(b)
		if b.Len() != 0 {
			t.Fatalf("%s leaves %d", what, b.Len())
		}
		noted(t, b, note{1, 2, 50})
		wantReports(t, b, 10, note{1, 2, 50})
	}
}

// P8.2: what is no id or time is refused, of oneself too, and changes nothing.
func TestNoteRefuses(t *testing.T) {
	kept := []note{{1, 2, 100}, {2, 1, 100}, {topID, 1, 0}, {1, topID, topTime}}
	b := with(t, 10, kept...)
	refused := func(about, by, at int, must api.Errno) {
		t.Helper()
		if e := b.Note(about, by, at); e != must {
			t.Fatalf("Note(%d, %d, %d) = %d, want %d", about, by, at, e, must)
		}
	}
	for _, bad := range noIDs {
		refused(bad, bad, 5, api.ErrForm) // ErrForm goes ahead of ErrSelf
		for _, id := range slices.Concat(ids, noIDs) {
			for _, at := range slices.Concat(times, noTimes) {
				refused(bad, id, at, api.ErrForm)
				refused(id, bad, at, api.ErrForm)
			}
		}
	}
	for _, about := range ids {
		for _, by := range ids {
			for _, at := range noTimes {
				refused(about, by, at, api.ErrForm)
			}
		}
		for _, at := range times {
			refused(about, about, at, api.ErrSelf)
		}
	}
	wantReports(t, b, 10, kept...)
}

// P8.2: Clear takes away one report alone, once, whether it counts or not.
func TestClear(t *testing.T) {
	kept := []note{{2, 1, 5}, {1, 3, 5}, {3, 2, 5}, {topID, 2, 5}, {1, topID, 5}}
	b := with(t, 10, append([]note{{1, 2, 5}}, kept...)...)
	if !b.Clear(1, 2) || b.Clear(1, 2) {
		t.Error("not the first Clear alone clears")
	}
	wantReports(t, b, 10, kept...)
	b.By(topID, topTime)
	if !b.Clear(topID, 2) || !b.Clear(1, topID) {
		t.Error("the greatest id isn't cleared")
	}
	wantReports(t, b, 10, kept[:3]...)
	for _, n := range kept[:3] {
		if !b.Clear(n.about, n.by) {
			t.Errorf("%+v isn't cleared", n)
		}
	}
	wantLen(t, b, 0)
}

// P8.2: where there is no such report Clear tells so, whatever the numbers, and takes nothing away.
func TestClearNone(t *testing.T) {
	kept := []note{{1, 2, 5}, {2, 3, 0}, {topID, 1, 5}}
	b := with(t, 10, kept...)
	all := slices.Concat(ids, noIDs)
	for _, about := range all {
		for _, by := range all {
			is := func(n note) bool { return n.about == about && n.by == by }
			if !slices.ContainsFunc(kept, is) && b.Clear(about, by) {
				t.Errorf("Clear(%d, %d) = true", about, by)
			}
		}
	}
	wantReports(t, b, 10, kept...)
}

// P8.2: Forget takes away all by somebody and all about somebody, and tells how many these were.
func TestForget(t *testing.T) {
	list := []note{{1, 2, 5}, {2, 1, 90}, {1, 3, 5}, {3, 2, 5}, {2, 3, 7}, {3, 4, 5}, {4, 3, 200}, {4, topID, 0}, {topID, 1, 5}}
	for id, must := range map[int]int{1: 4, 2: 4, 3: 5, 4: 3, topID: 2, 5: 0, topID - 1: 0} {
		b := with(t, 10, list...)
		var left []note
		for _, n := range list {
			if n.about != id && n.by != id {
				left = append(left, n)
			}
		}
		if got := b.Forget(id); got != must {
			t.Errorf("Forget(%d) = %d, want %d", id, got, must)
		}
		wantReports(t, b, 10, left...)
		wantBy(t, b, id, 0)
		if got := b.Forget(id); got != 0 {
			t.Errorf("Forget(%d) once more = %d", id, got)
		}
		wantReports(t, b, 10, left...)
	}
}

// P8.2: of who is no id there is nothing to forget.
func TestForgetNone(t *testing.T) {
	kept := []note{{1, 2, 5}, {2, 1, 90}, {topID, 1, 5}, {1, topID, 0}}
	b := with(t, 10, kept...)
	for _, id := range noIDs {
		if got := b.Forget(id); got != 0 {
			t.Errorf("Forget(%d) = %d", id, got)
		}
	}
	wantReports(t, b, 10, kept...)
}

// P8.3: what doesn't count goes, and nothing else: up to and with the window behind its time a report stays.
func TestExpire(t *testing.T) {
	list := []note{{1, 2, 100}, {1, 3, 105}, {2, 3, 105}, {3, 1, 0}, {4, 1, 104}, {5, topID, topTime}}
	for _, c := range []struct {
		now, gone int
		left      []note
	}{
		{math.MinInt, 0, list}, {-1, 0, list}, {0, 0, list}, {10, 0, list},
		{11, 1, []note{{1, 2, 100}, {1, 3, 105}, {2, 3, 105}, {4, 1, 104}, {5, topID, topTime}}},
		{110, 1, []note{{1, 2, 100}, {1, 3, 105}, {2, 3, 105}, {4, 1, 104}, {5, topID, topTime}}},
		{111, 2, []note{{1, 3, 105}, {2, 3, 105}, {4, 1, 104}, {5, topID, topTime}}},
		{114, 2, []note{{1, 3, 105}, {2, 3, 105}, {4, 1, 104}, {5, topID, topTime}}},
		{115, 3, []note{{1, 3, 105}, {2, 3, 105}, {5, topID, topTime}}},
		{116, 5, list[5:]}, {topTime, 5, list[5:]}, {topTime + 10, 5, list[5:]}, {topTime + 11, 6, nil}, {math.MaxInt, 6, nil},
	} {
		b := with(t, 10, list...)
		if got := b.Expire(c.now); got != c.gone {
			t.Errorf("Expire(%d) = %d, want %d", c.now, got, c.gone)
		}
		wantReports(t, b, 10, c.left...)
		if got := b.Expire(c.now); got != 0 {
			t.Errorf("Expire(%d) once more = %d", c.now, got)
		}
		wantReports(t, b, 10, c.left...)
	}
}

// P8.3: each window lets go of each time at just its end.
func TestExpireWindow(t *testing.T) {
	for _, window := range windows {
		for _, at := range times {
			b := with(t, window, note{1, 2, at})
			if b.Expire(at+window) != 0 || b.Len() != 1 || b.Expire(at+window+1) != 1 || b.Len() != 0 {
				t.Errorf("a window of %d, behind %d", window, at)
			}
		}
	}
}

// P8.3: those by whom a report counts, rising, each as long as its own report counts.
func TestBy(t *testing.T) {
	b := with(t, 10, note{7, 9, 100}, note{7, 2, 103}, note{7, topID, 100}, note{7, 1, 110}, note{7, 5, 0}, note{9, 7, 100}, note{2, 9, 104})
	for _, c := range []struct {
		now  int
		must []int
	}{
		{math.MinInt, []int{1, 2, 5, 9, topID}}, {-topTime, []int{1, 2, 5, 9, topID}}, {-1, []int{1, 2, 5, 9, topID}},
		{0, []int{1, 2, 5, 9, topID}}, {10, []int{1, 2, 5, 9, topID}}, // a report that is still to come counts too
		{11, []int{1, 2, 9, topID}}, {110, []int{1, 2, 9, topID}}, {111, []int{1, 2}}, {113, []int{1, 2}}, {114, []int{1}}, {120, []int{1}},
		{121, nil}, {topTime, nil}, {topTime + 1, nil}, {math.MaxInt - 5, nil}, {math.MaxInt, nil},
	} {
		wantBy(t, b, 7, c.now, c.must...)
	}
	wantBy(t, b, 9, 110, 7)
	wantBy(t, b, 2, 110, 9)
	wantBy(t, b, 1, 110)
	wantBy(t, b, topID, 110)
	for _, id := range noIDs {
		wantBy(t, b, id, 100)
	}
	wantLen(t, b, 7) // as what doesn't count goes by Expire alone
}

// P8.3: those who told are rising however many they are, and in whatever order they told.
func TestByRising(t *testing.T) {
	r := rand.New(rand.NewSource(1))
	for n := range 40 {
		b := opened(t, 10)
		for _, k := range r.Perm(n) {
			noted(t, b, note{1000, k + 1, 5}, note{1001, topID - k, 5})
		}
		wantBy(t, b, 1000, 15, upTo(n)...)
		for range 5 {
			if list := b.By(1001, 15); !slices.IsSorted(list) || len(list) != n {
				t.Fatalf("of %d: %v", n, list)
			}
		}
		wantLen(t, b, 2*n)
	}
}

// P8.3: what By tells is new memory each time, its spare room too.
func TestListsAreNew(t *testing.T) {
	b := with(t, 10, note{9, 3, 5}, note{9, 1, 5}, note{9, 2, 5}, note{9, 7, 5}, note{9, 5, 5})
	one, other := b.By(9, 5), b.By(9, 5)
	for i := range one[:cap(one)] {
		one[:cap(one)][i] = 77
	}
	if slices.Contains(other[:cap(other)], 77) {
		t.Errorf("two answers share memory: %v", other[:cap(other)])
	}
	wantBy(t, b, 9, 5, 1, 2, 3, 5, 7)
	b.Forget(3)
	b.Note(9, 4, 5)
	b.Expire(1000)
	if !slices.Equal(other, []int{1, 2, 3, 5, 7}) {
		t.Errorf("what was told became %v", other)
	}
}

// P8.3: more than half of the voters have told, with reports that count.
func TestFailing(t *testing.T) {
	b := with(t, 10, note{1, 2, 100}, note{1, 3, 105}, note{1, 9, 90}, note{2, 3, 105}, note{3, 1, 105}, note{1, topID, 104})
	for _, c := range []struct {
		about, now int
		voters     []int
		must       bool
	}{
		{1, 110, []int{2, 3, 4}, true}, {1, 110, []int{4, 3, 2}, true}, {1, 111, []int{2, 3, 4}, false},
		{1, 110, []int{2, 3, 4, 5}, false}, {1, 110, []int{2, 3}, true}, {1, 110, []int{2}, true}, {1, 110, []int{4}, false},
		{1, 110, []int{2, 4}, false}, {1, 111, []int{3}, true}, {1, 115, []int{3}, true}, {1, 116, []int{3}, false}, // half isn't more than half
		{1, 110, nil, false}, {1, 110, []int{}, false}, {9, 110, nil, false}, // nor nobody of nobody
		{1, 100, []int{2, 3, 9, 4, 5}, true}, {1, 101, []int{2, 3, 9, 4, 5}, false}, {1, 0, []int{2, 3, 9, 4, 5}, true},
		{1, 110, []int{1, 2, 3}, true}, {1, 110, []int{1, 2}, false}, // who is told of is one of the voters too
		{2, 110, []int{3}, true}, {2, 110, []int{1, 2, 3}, false}, {2, 110, []int{1}, false}, {3, 110, []int{1}, true}, {4, 110, []int{1, 2, 3}, false},
		{1, 110, []int{topID}, true}, {1, 114, []int{topID, 3, 7, 8}, false}, {1, 114, []int{topID, 3, 7}, true}, {1, 115, []int{topID, 3, 7}, false},
		{0, 110, []int{2, 3}, false}, {-1, 110, []int{2, 3}, false}, {topID + 1, 110, []int{2, 3}, false},
		{1, math.MinInt, []int{2, 3, 9, topID}, true}, {1, math.MaxInt, []int{2, 3, 9, topID}, false},
	} {
		if got := b.Failing(c.about, c.now, c.voters); got != c.must {
			t.Errorf("Failing(%d, %d, %v) = %v", c.about, c.now, c.voters, got)
		}
	}
	wantLen(t, b, 6)
}

// P8.3: voters that are no set of voters are no majority, whoever told.
func TestFailingOfNoVoters(t *testing.T) {
	b := opened(t, 10)
	for id := range 40 {
		noted(t, b, note{1000, id + 1, 5})
	}
	if !b.Failing(1000, 15, upTo(16)) {
		t.Error("all of 16 told")
	}
	lists := [][]int{{2, 2}, {1, 2, 1}, upTo(17), upTo(40), append(upTo(16), 16)}
	for _, bad := range noIDs {
		lists = append(lists, []int{bad}, []int{1, 2, bad}, []int{bad, 1, 2, 3, 4})
	}
	for _, voters := range lists {
		if b.Failing(1000, 15, voters) {
			t.Errorf("Failing of %v = true", voters)
		}
	}
}

// P8.3: of 0 to 16 voters just more than half must have told, whoever else did.
func TestFailingNeed(t *testing.T) {
	for n := 0; n <= api.MaxNodes; n++ {
		b := with(t, 10, note{1000, 100, 5}, note{1000, 101, 5}, note{1001, 1, 5}, note{1001, 2, 5})
		for told := 0; told <= n; told++ {
			if told > 0 {
				noted(t, b, note{1000, told, 5})
			}
			if got, must := b.Failing(1000, 15, upTo(n)), 2*told > n; got != must {
				t.Errorf("%d of %d told: %v", told, n, got)
			}
		}
	}
}

// P8.3: what is handed in stays as it is, its spare room too.
func TestVotersUnchanged(t *testing.T) {
	b := with(t, 10, note{1, 2, 5}, note{1, 3, 5})
	voters := []int{4, 3, 2, 77, 76}
	b.Failing(1, 5, voters[:3])
	b.Failing(1, 100, voters[:3])
	if !slices.Equal(voters, []int{4, 3, 2, 77, 76}) {
		t.Errorf("changed to %v", voters)
	}
}

// P8.2, P8.3: the example of the chapter.
func TestExample(t *testing.T) {
	b := with(t, 10, note{1, 2, 100}, note{1, 3, 105})
	wantBy(t, b, 1, 110, 2, 3)
	wantBy(t, b, 1, 111, 3)
	if !b.Failing(1, 110, []int{2, 3, 4}) {
		t.Error("two of three told, but it isn't failing")
	}
}
