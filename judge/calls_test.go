package judge_test

import (
	"math/rand"
	"reflect"
	"slices"
	"testing"

	"grapevine/claims"
	"grapevine/judge"
	"grapevine/node"
)

// twice is the place of what was done twice, as the chapter words it.
func twice(events []node.Event) int {
	for b, v := range events {
		for _, u := range events[:b] {
			if u.Kind == v.Kind && (v.Kind == 1 || v.Kind == 3) && u.By == v.By && u.Epoch == v.Epoch {
				return b
			}
		}
	}
	return -1
}

// clash is the places of wins that clash, as the chapter words it.
func clash(events []node.Event) (int, int) {
	for b, v := range events {
		for a, u := range events[:b] {
			if u.Kind == 3 && v.Kind == 3 && u.Epoch == v.Epoch && slices.Equal(u.Who, v.Who) && u.By != v.By {
				return a, b
			}
		}
	}
	return -1, -1
}

// unfounded is the place of a win by too few votes, as the chapter words it.
func unfounded(events []node.Event) int {
	for b, v := range events {
		n := 0
		for _, id := range v.Who {
			if slices.ContainsFunc(events[:b], func(u node.Event) bool {
				return u.Kind == 1 && u.By == id && u.About == v.By && u.Epoch == v.Epoch
			}) {
				n++
			}
		}
		if v.Kind == 3 && n < len(v.Who)/2+1 {
			return b
		}
	}
	return -1
}

// newest is the table of all claims, looked at slot by slot.
func newest(ids []int, tables []claims.Table) claims.Table {
	var t claims.Table
	for i := 0; i < len(ids) && i < len(tables); i++ {
		for slot := range 64 {
			id, epoch := ids[i], tables[i].Epoch[slot]
			if tables[i].Owner[slot] != id || id < 1 || id > 1<<32 || epoch < 0 || epoch > 1<<48 {
				continue
			}
			if owner, held := t.Owner[slot], t.Epoch[slot]; owner == 0 || held < epoch {
				t.Owner[slot], t.Epoch[slot] = id, epoch
			}
		}
	}
	return t
}

// few is one of some few numbers, and at times one of any kind.
func few(r *rand.Rand, n int) int {
	if r.Intn(100) == 0 {
		return numbers[r.Intn(len(numbers))]
	}
	return r.Intn(n)
}

// anyEvents are events of few numbers, so that many are of one kind, one epoch and one node.
func anyEvents(r *rand.Rand) []node.Event {
	var list []node.Event
	n := 2 + r.Intn(4)
	for range r.Intn(16) {
		v := node.Event{Kind: few(r, 5), By: few(r, n), About: few(r, n), Epoch: few(r, n)}
		for range r.Intn(4) {
			v.Who = append(v.Who, few(r, n))
		}
		list = append(list, v)
	}
	return list
}

// anyTables are ids and tables, of most of which the ids have slots.
func anyTables(r *rand.Rand) (ids []int, tables []claims.Table) {
	n := 2 + r.Intn(4)
	for range r.Intn(6) {
		ids = append(ids, few(r, n))
	}
	for range r.Intn(6) {
		var t claims.Table
		for slot := range t.Owner {
			t.Owner[slot], t.Epoch[slot] = few(r, n), few(r, 9)
		}
		tables = append(tables, t)
	}
	return ids, tables
}

// P21.1 to P21.3: of any events what is found is what the chapter's words find, at whatever place.
func TestAnyEvents(t *testing.T) {
	r := rand.New(rand.NewSource(1))
	found := [3][3]int{}
	note := func(call, place int) {
		found[call][min(place+1, 2)]++
	}
	for range 40000 {
		events := anyEvents(r)
		wantTwice(t, twice(events), events...)
		a, b := clash(events)
		wantClash(t, a, b, events...)
		wantUnfounded(t, unfounded(events), events...)
		note(0, twice(events))
		note(1, a)
		note(2, unfounded(events))
		if t.Failed() {
			t.FailNow()
		}
	}
	for call, n := range found {
		if slices.Min(n[:]) < 100 && !(call == 0 && n[1] == 0) { // what is done twice is never at the place 0
			t.Errorf("call %d found nothing, the place 0 and others %v times", call, n)
		}
	}
}

// P21.4: of any ids and tables, right or not, what is told is what the chapter's words come to.
func TestAnyTables(t *testing.T) {
	r := rand.New(rand.NewSource(2))
	for range 4000 {
		ids, tables := anyTables(r)
		wantNewest(t, ids, tables, newest(ids, tables))
		for _, slot := range append([]int{r.Intn(64), r.Intn(64)}, numbers...) {
			var must []int
			for i := 0; i < len(ids) && i < len(tables) && slot >= 0 && slot < 64; i++ {
				if tables[i].Owner[slot] == ids[i] {
					must = append(must, ids[i])
				}
			}
			wantClaimants(t, ids, tables, slot, must...)
		}
		for i, other := range tables {
			wantAgreed(t, other.Owner == tables[0].Owner, tables[0], other)
			wantAgreed(t, true, tables[i], other)
		}
		if t.Failed() {
			t.FailNow()
		}
	}
}

// P21.1 to P21.4: what is handed in isn't changed, the room behind it neither.
func TestHandedIn(t *testing.T) {
	events := func() []node.Event {
		who := []int{3, 1, 2, 77, 76}
		return []node.Event{vote(1, 9, 4), vote(2, 9, 4), win(9, 4, who[:3]...), win(9, 4, who[:2]...), win(8, 4), vote(1, 8, 4)}
	}
	ids, tables := []int{2, 1, 3, 9, 8}, []claims.Table{tableOf(has{0, 2, 5}), tableOf(has{0, 1, 6}), tableOf(has{1, 1, 1}), tableOf(has{0, 9, 9})}
	wasIDs, wasTables := slices.Clone(ids), slices.Clone(tables)
	given := events()
	judge.Twice(given[:4])
	judge.Clash(given[:4])
	judge.Unfounded(given[:4])
	judge.Agreed(tables[:3])
	judge.Claimants(ids[:3], tables[:3], 0)
	judge.Newest(ids[:3], tables[:3])
	if !reflect.DeepEqual(given, events()) || !slices.Equal(given[2].Who[:5], []int{3, 1, 2, 77, 76}) {
		t.Errorf("events became %+v", given)
	}
	if !slices.Equal(ids, wasIDs) || !slices.Equal(tables, wasTables) {
		t.Errorf("ids became %v, or tables others", ids)
	}
}

// P21.4: claimants are told in new memory each time, spare room too.
func TestClaimantsAreNew(t *testing.T) {
	ids, tables := []int{3, 1, 2}, []claims.Table{tableOf(has{0, 3, 5}), tableOf(has{0, 1, 6}), tableOf(has{0, 2, 6})}
	one, other := judge.Claimants(ids, tables, 0), judge.Claimants(ids, tables, 0)
	for i := range one[:cap(one)] {
		one[:cap(one)][i] = 99
	}
	if !slices.Equal(other, []int{3, 1, 2}) || slices.Contains(other[:cap(other)], 99) || !slices.Equal(ids, []int{3, 1, 2}) {
		t.Errorf("%v, %v", other[:cap(other)], ids)
	}
	ids[0] = 98
	if !slices.Equal(other, []int{3, 1, 2}) {
		t.Errorf("%v", other)
	}
}

// P21.1 to P21.3: many events are judged, too, though each is told from all ahead of it.
func TestManyEvents(t *testing.T) {
	const n = 200000
	var events []node.Event
	for i := range n {
		events = append(events, vote(i%1000, i/1000+1, 7*i), win(i/1000+1, 7*i, i%1000))
	}
	wantMany := func(name string, got, must int) {
		if got != must {
			t.Errorf("%s = %d, not %d", name, got, must)
		}
	}
	wantMany("Twice", judge.Twice(events), -1)
	wantMany("Unfounded", judge.Unfounded(events), -1)
	a, b := judge.Clash(events)
	wantMany("Clash", a, -1)
	wantMany("Clash", b, -1)
	last := events[2*n-1]
	events = append(events, vote(last.Who[0], 5000, last.Epoch), win(5000, last.Epoch, last.Who...), win(5000, 1, 1))
	wantMany("Twice", judge.Twice(events), 2*n)
	wantMany("Unfounded", judge.Unfounded(events), 2*n+2)
	a, b = judge.Clash(events)
	wantMany("Clash", a, 2*n-1)
	wantMany("Clash", b, 2*n+1)
}

// P21.2: many wins in one epoch are judged, too, and by many voters.
func TestManyWins(t *testing.T) {
	var events []node.Event
	for i := range 200000 {
		events = append(events, win(5, 3, i, i+1))
	}
	long := make([]int, 1<<20)
	events = append(events, win(5, 3, long...), win(6, 3, long[1:]...), win(6, 3, long...))
	if a, b := judge.Clash(events); a != 200000 || b != 200002 {
		t.Errorf("Clash = %d, %d", a, b)
	}
}
