package rank_test

import (
	"math"
	"math/rand"
	"slices"
	"testing"

	"grapevine/api"
	"grapevine/rank"
)

// noIDs are numbers that are no ids.
var noIDs = []int{math.MinInt, -1 << 32, -1, 0, 1<<32 + 1, 1 << 33, 1<<48 + 7, math.MaxInt}

// noOffsets are numbers that are no offsets.
var noOffsets = []int{math.MinInt, -1 << 48, -1, 1<<48 + 1, 1 << 49, math.MaxInt}

// some are n replicas of the ids 1 to n, in any order, whose offsets are below a bound.
func some(r *rand.Rand, n, bound int) []rank.Replica {
	list := make([]rank.Replica, n)
	for i, k := range r.Perm(n) {
		list[i] = rank.Replica{ID: k + 1, Offset: r.Intn(bound)}
	}
	return list
}

// wrong are lists that are no replicas.
func wrong() [][]rank.Replica {
	r := rand.New(rand.NewSource(1))
	lists := [][]rank.Replica{
		{{}}, make([]rank.Replica, 2), make([]rank.Replica, 17), some(r, 17, 5), some(r, 1000, 5),
		{{ID: 1}, {ID: 1}}, {{ID: 1, Offset: 1}, {ID: 1, Offset: 2}}, {{ID: 7, Offset: 3}, {ID: 8}, {ID: 7, Offset: 3}},
		{{ID: 1 << 32, Offset: 5}, {ID: 1 << 32, Offset: 4}},
		append(some(r, 15, 5), rank.Replica{ID: 15, Offset: 9}), append(some(r, 16, 5), rank.Replica{ID: 16, Offset: 9}),
	}
	for _, at := range []int{0, 1, 7, 15} {
		for _, bad := range noIDs {
			list := some(r, 16, 5)
			list[at].ID = bad
			lists = append(lists, list, []rank.Replica{{ID: bad, Offset: 1}})
		}
		for _, bad := range noOffsets {
			list := some(r, 16, 5)
			list[at].Offset = bad
			lists = append(lists, list, []rank.Replica{{ID: 1, Offset: bad}})
		}
	}
	return lists
}

// ahead tells whether one replica stands ahead of another one.
func ahead(one, other rank.Replica) bool {
	return one.Offset > other.Offset || one.Offset == other.Offset && one.ID < other.ID
}

// rankIn is how many of a list stand ahead of one.
func rankIn(list []rank.Replica, one rank.Replica) int {
	n := 0
	for _, other := range list {
		if ahead(other, one) {
			n++
		}
	}
	return n
}

// wantOrder holds the order and all ranks of a list against how many stand ahead of each.
func wantOrder(t *testing.T, list []rank.Replica) {
	t.Helper()
	was := slices.Clone(list)
	order, e := rank.Order(list)
	if e != api.OK || len(order) != len(list) {
		t.Fatalf("Order(%v) = %v, %d", list, order, e)
	}
	for _, one := range list {
		want := rankIn(list, one)
		if order[want] != one {
			t.Errorf("Order(%v) = %v, want %v at %d", list, order, one, want)
		}
		if got, e := rank.Rank(list, one.ID); got != want || e != api.OK {
			t.Errorf("Rank(%v, %d) = %d, %d, want %d", list, one.ID, got, e, want)
		}
	}
	if !slices.Equal(list, was) {
		t.Errorf("%v was changed to %v", was, list)
	}
}

// P5.1: the example of the chapter.
func TestOrderExample(t *testing.T) {
	list := []rank.Replica{{3, 50}, {1, 20}, {2, 50}}
	if got, e := rank.Order(list); e != api.OK || !slices.Equal(got, []rank.Replica{{2, 50}, {3, 50}, {1, 20}}) {
		t.Errorf("Order(%v) = %v, %d", list, got, e)
	}
	for i, id := range []int{2, 3, 1} {
		if got, e := rank.Rank(list, id); got != i || e != api.OK {
			t.Errorf("Rank(%v, %d) = %d, %d, want %d", list, id, got, e, i)
		}
	}
}

// P5.1: of none there is an order, and nobody's rank.
func TestOrderOfNone(t *testing.T) {
	for _, list := range [][]rank.Replica{nil, {}} {
		if got, e := rank.Order(list); len(got) != 0 || e != api.OK {
			t.Errorf("Order(%v) = %v, %d", list, got, e)
		}
		for _, id := range append([]int{1, 1 << 32}, noIDs...) {
			if got, e := rank.Rank(list, id); got != 0 || e != api.ErrNode {
				t.Errorf("Rank(%v, %d) = %d, %d, want 0, %d", list, id, got, e, api.ErrNode)
			}
		}
	}
}

// P5.1: replicas stand by their offsets, the greatest first, and of equal ones the lower id first, at the limits too.
func TestOrder(t *testing.T) {
	for _, list := range [][]rank.Replica{
		{{1, 0}}, {{1 << 32, 1 << 48}}, {{1, 1 << 48}, {1 << 32, 1 << 48}}, {{1 << 32, 1 << 48}, {1, 1 << 48}},
		{{1, 0}, {1 << 32, 1 << 48}}, {{1 << 32, 0}, {1, 1 << 48}}, {{2, 1<<48 - 1}, {1, 1 << 48}, {3, 1 << 48}},
		{{1, 1}, {2, 1<<32 + 1}, {3, 1 << 32}}, {{1<<31 + 1, 4}, {1, 4}, {1 << 31, 4}},
	} {
		wantOrder(t, list)
	}
	r := rand.New(rand.NewSource(2))
	for range 300 {
		for n := range api.MaxNodes + 1 {
			wantOrder(t, some(r, n, 1+r.Intn(20)))
			wantOrder(t, some(r, n, api.MaxOffset+1))
		}
	}
}

// P5.1: what is no list of replicas has no order, and no ranks: that goes ahead of an id that nobody has.
func TestOrderRefuses(t *testing.T) {
	for _, list := range wrong() {
		if got, e := rank.Order(list); len(got) != 0 || e != api.ErrForm {
			t.Errorf("Order(%v) = %v, %d, want none, %d", list, got, e, api.ErrForm)
		}
		ids := []int{1, 2, 15, 77, 0, -1, math.MaxInt}
		for _, r := range list {
			ids = append(ids, r.ID)
		}
		for _, id := range ids {
			if got, e := rank.Rank(list, id); got != 0 || e != api.ErrForm {
				t.Fatalf("Rank(%v, %d) = %d, %d, want 0, %d", list, id, got, e, api.ErrForm)
			}
		}
	}
}

// P5.1: each place of a double is seen.
func TestOrderRefusesDoubles(t *testing.T) {
	r := rand.New(rand.NewSource(3))
	for n := 2; n <= api.MaxNodes; n++ {
		for i := range n {
			for j := range i {
				list := some(r, n, 9)
				list[i].ID = list[j].ID
				if got, e := rank.Order(list); got != nil || e != api.ErrForm {
					t.Errorf("Order(%v) = %v, %d", list, got, e)
				}
			}
		}
	}
}

// P5.1: who is none of the replicas has no rank, be it no id at all, or another one's offset.
func TestRankOfOthers(t *testing.T) {
	r := rand.New(rand.NewSource(4))
	for n := range api.MaxNodes + 1 {
		list := some(r, n, 9)
		for i := range list {
			list[i].Offset += 1000
		}
		for _, id := range append([]int{n + 1, 100, 1000, 1003, 1 << 32, 1<<32 - 1}, noIDs...) {
			if got, e := rank.Rank(list, id); got != 0 || e != api.ErrNode {
				t.Errorf("Rank(%v, %d) = %d, %d, want 0, %d", list, id, got, e, api.ErrNode)
			}
		}
	}
}

// P5.1: an order is new memory, its spare room too, and what was handed in keeps its spare room.
func TestOrderIsNew(t *testing.T) {
	with := []rank.Replica{{3, 50}, {1, 20}, {2, 50}, {1, 1}, {1, 1}}
	was := slices.Clone(with)
	one, _ := rank.Order(with[:3])
	other, _ := rank.Order(with[:3])
	rank.Rank(with[:3], 2)
	if !slices.Equal(with, was) {
		t.Errorf("%v was changed to %v", was, with)
	}
	for i := range one[:cap(one)] {
		one[:cap(one)][i] = rank.Replica{ID: 77}
	}
	if !slices.Equal(with, was) || slices.Contains(other[:cap(other)], rank.Replica{ID: 77}) {
		t.Errorf("an order shares memory: %v, %v", with, other[:cap(other)])
	}
	sorted := []rank.Replica{{2, 50}, {3, 50}, {1, 20}}
	if one, _ = rank.Order(sorted); &one[0] == &sorted[0] {
		t.Error("the order of those who stand already is the list itself")
	}
}

// P5.2: delays that are known, that of the chapter's example too.
func TestDelay(t *testing.T) {
	for _, c := range []struct{ rank, draw, want int }{
		{1, 1234, 1734}, {0, 0, 500}, {0, 1, 501}, {0, 499, 999}, {0, 500, 500}, {0, 999, 999}, {0, 1000, 500}, {0, 1001, 501},
		{1, 0, 1500}, {2, 499, 2999}, {14, 3, 14503}, {15, 0, 15500}, {15, 499, 15999}, {15, 500, 15500},
		{0, math.MaxInt, 807}, {15, math.MaxInt - 8, 15799},
	} {
		if got, e := rank.Delay(c.rank, c.draw); got != c.want || e != api.OK {
			t.Errorf("Delay(%d, %d) = %d, %d, want %d", c.rank, c.draw, got, e, c.want)
		}
	}
}

// P5.2: a draw counts by what is left of it, at each rank.
func TestDelayOfEachRank(t *testing.T) {
	for k := range api.MaxNodes {
		for draw := range 1600 {
			want := 500 + draw
			for want >= 1000 {
				want -= 500
			}
			want += 1000 * k
			if got, e := rank.Delay(k, draw); got != want || e != api.OK {
				t.Fatalf("Delay(%d, %d) = %d, %d, want %d", k, draw, got, e, want)
			}
		}
	}
}

// P5.2: a lower rank never waits as long as a higher one, whatever they draw.
func TestLowerRankWaitsLess(t *testing.T) {
	draws := []int{0, 1, 250, 498, 499, 500, 501, 999, 1000, 1234, 1 << 40, math.MaxInt - 1, math.MaxInt}
	for k := 1; k < api.MaxNodes; k++ {
		for _, low := range draws {
			for _, high := range draws {
				one, _ := rank.Delay(k-1, low)
				other, _ := rank.Delay(k, high)
				if one >= other {
					t.Errorf("Delay(%d, %d) = %d, Delay(%d, %d) = %d", k-1, low, one, k, high, other)
				}
			}
		}
	}
}

// P5.2: what is no rank, and a draw below 0, have no delay.
func TestDelayRefuses(t *testing.T) {
	for _, k := range []int{math.MinInt, -16, -1, 16, 17, 1 << 32, math.MaxInt} {
		for _, draw := range []int{-1, 0, 7, math.MaxInt} {
			if got, e := rank.Delay(k, draw); got != 0 || e != api.ErrForm {
				t.Errorf("Delay(%d, %d) = %d, %d, want 0, %d", k, draw, got, e, api.ErrForm)
			}
		}
	}
	for k := range api.MaxNodes {
		for _, draw := range []int{-1, -499, -500, -501, -1 << 40, math.MinInt} {
			if got, e := rank.Delay(k, draw); got != 0 || e != api.ErrForm {
				t.Errorf("Delay(%d, %d) = %d, %d, want 0, %d", k, draw, got, e, api.ErrForm)
			}
		}
	}
}

// P5.3: data are fresh up to 10 times the timeout.
func TestFresh(t *testing.T) {
	for _, timeout := range []int{1, 2, 3, 9, 1000, 1<<20 + 1, 1<<30 - 1, 1 << 30} {
		for age, want := range map[int]bool{
			0: true, 1: true, 9*timeout + 1: true, 10*timeout - 1: true, 10 * timeout: true,
			10*timeout + 1: false, 11 * timeout: false, 20 * timeout: false, 1 << 62: false, math.MaxInt: false,
			-1: false, -10 * timeout: false, math.MinInt: false,
		} {
			if got := rank.Fresh(age, timeout); got != want {
				t.Errorf("Fresh(%d, %d) = %v, want %v", age, timeout, got, want)
			}
		}
	}
}

// P5.3: with a timeout that is none nothing is fresh.
func TestFreshOfNoTimeout(t *testing.T) {
	for _, timeout := range []int{math.MinInt, -1 << 30, -1000, -1, 0, 1<<30 + 1, 1 << 31, 1 << 32, math.MaxInt / 10, math.MaxInt} {
		for _, age := range []int{math.MinInt, -10001, -10000, -10, -1, 0, 1, 10, 1000, 1 << 40, math.MaxInt} {
			if rank.Fresh(age, timeout) {
				t.Errorf("Fresh(%d, %d) = true", age, timeout)
			}
		}
	}
}
