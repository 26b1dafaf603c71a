package judge_test

import (
	"math"
	"slices"
	"testing"

	"grapevine/claims"
	"grapevine/judge"
	"grapevine/node"
)

// numbers are numbers of any kind, whatever they may be handed in for.
var numbers = []int{math.MinInt, math.MinInt + 1, -1 << 48, -1 << 32, -64, -3, -2, -1, 0, 1, 2, 3, 4, 63, 64, 65, 1 << 32, 1<<32 + 1, 1 << 48, 1<<48 + 1, math.MaxInt - 1, math.MaxInt}

// vote is an event of a vote.
func vote(by, about, epoch int) node.Event {
	return node.Event{Kind: 1, By: by, About: about, Epoch: epoch}
}

// fail is an event of a failure.
func fail(by, about, epoch int, who ...int) node.Event {
	return node.Event{Kind: 2, By: by, About: about, Epoch: epoch, Who: who}
}

// win is an event of a win.
func win(by, epoch int, who ...int) node.Event {
	return node.Event{Kind: 3, By: by, Epoch: epoch, Who: who}
}

// wantTwice holds which event was done twice.
func wantTwice(t *testing.T, place int, events ...node.Event) {
	t.Helper()
	if got := judge.Twice(events); got != place {
		t.Errorf("Twice(%+v) = %d, not %d", events, got, place)
	}
}

// wantClash holds which wins clash.
func wantClash(t *testing.T, a, b int, events ...node.Event) {
	t.Helper()
	if gotA, gotB := judge.Clash(events); gotA != a || gotB != b {
		t.Errorf("Clash(%+v) = %d, %d, not %d, %d", events, gotA, gotB, a, b)
	}
}

// wantUnfounded holds which win has too few votes.
func wantUnfounded(t *testing.T, place int, events ...node.Event) {
	t.Helper()
	if got := judge.Unfounded(events); got != place {
		t.Errorf("Unfounded(%+v) = %d, not %d", events, got, place)
	}
}

// has is what somebody has with an epoch.
type has struct{ slot, owner, epoch int }

// tableOf is a table of these.
func tableOf(list ...has) claims.Table {
	var t claims.Table
	for _, h := range list {
		t.Owner[h.slot], t.Epoch[h.slot] = h.owner, h.epoch
	}
	return t
}

// wantAgreed holds whether tables agree.
func wantAgreed(t *testing.T, must bool, tables ...claims.Table) {
	t.Helper()
	if got := judge.Agreed(tables); got != must {
		t.Errorf("Agreed = %v of %d tables", got, len(tables))
	}
}

// wantClaimants holds who claims a slot.
func wantClaimants(t *testing.T, ids []int, tables []claims.Table, slot int, must ...int) {
	t.Helper()
	if got := judge.Claimants(ids, tables, slot); !slices.Equal(got, must) {
		t.Errorf("Claimants(%v, .., %d) = %v, not %v", ids, slot, got, must)
	}
}

// wantNewest holds the table of all claims.
func wantNewest(t *testing.T, ids []int, tables []claims.Table, must claims.Table) {
	t.Helper()
	if got := judge.Newest(ids, tables); got != must {
		t.Errorf("Newest(%v, ..) = %v, not %v", ids, got, must)
	}
}

// P21.1 to P21.4: the chapter's examples.
func TestExamples(t *testing.T) {
	wantTwice(t, 1, vote(5, 1, 3), vote(5, 2, 3))
	wantAgreed(t, true, claims.Table{}, claims.Table{})
	for slot := range 64 {
		wantClaimants(t, []int{1, 2}, make([]claims.Table, 2), slot)
	}
}

// P21.1: whoever votes, or wins, twice in an epoch is found, the first one of all, whomever the votes are for.
func TestTwice(t *testing.T) {
	wantTwice(t, 1, vote(5, 1, 3), vote(5, 1, 3))
	wantTwice(t, 1, vote(5, 1, 3), vote(5, 1, 3), vote(5, 1, 3))
	wantTwice(t, 3, vote(5, 1, 3), vote(6, 1, 3), vote(5, 1, 4), vote(5, 9, 3), vote(6, 1, 3))
	wantTwice(t, 1, win(5, 3, 1, 2), win(5, 3))
	wantTwice(t, 1, win(5, 3), win(5, 3, 1, 2))
	wantTwice(t, 4, win(5, 3), vote(5, 1, 3), win(6, 3), win(5, 4), vote(5, 1, 3), win(5, 3))
	wantTwice(t, 4, win(5, 3), vote(5, 1, 3), win(6, 3), win(5, 4), win(5, 3), vote(5, 1, 3))
	wantTwice(t, 2, node.Event{Kind: 3, By: 5, About: 1, Epoch: 3}, fail(5, 1, 3), node.Event{Kind: 3, By: 5, About: 2, Epoch: 3})
}

// P21.1: votes of others, or in other epochs, are none; nor is a vote and a win, nor what is no vote and no win.
func TestNotTwice(t *testing.T) {
	wantTwice(t, -1)
	wantTwice(t, -1, vote(5, 1, 3))
	wantTwice(t, -1, vote(5, 1, 3), vote(6, 1, 3), vote(5, 1, 4), vote(3, 1, 5), vote(1, 5, 3))
	wantTwice(t, -1, win(5, 3, 1), win(6, 3, 1), win(5, 4, 1), win(3, 5, 1))
	wantTwice(t, -1, vote(5, 1, 3), win(5, 3), vote(6, 1, 3), win(6, 3))
	wantTwice(t, -1, fail(5, 1, 3, 5, 6), fail(5, 1, 3, 5, 6), fail(5, 1, 3, 5, 6))
	for _, kind := range numbers {
		place := -1
		if kind == 1 || kind == 3 {
			place = 1
		}
		wantTwice(t, place, node.Event{Kind: kind, By: 5, Epoch: 3}, node.Event{Kind: kind, By: 5, Epoch: 3})
	}
}

// P21.1: numbers are no others than they are, whatever they are.
func TestTwiceOfAnyNumbers(t *testing.T) {
	for i, by := range numbers {
		for _, epoch := range numbers {
			other := numbers[(i+1)%len(numbers)]
			wantTwice(t, 1, vote(by, 1, epoch), vote(by, 2, epoch))
			wantTwice(t, 1, win(by, epoch), win(by, epoch))
			wantTwice(t, -1, vote(by, 1, epoch), vote(other, 1, epoch), win(by, epoch), win(other, epoch))
			wantTwice(t, -1, vote(epoch, 1, by), vote(epoch, 1, other), win(epoch, by), win(epoch, other))
		}
	}
}

// P21.2: the first win that another one has won, too, by the same voters in that epoch is found, and the first one that it clashes with.
func TestClash(t *testing.T) {
	wantClash(t, 0, 1, win(5, 3, 1, 2), win(6, 3, 1, 2))
	wantClash(t, 0, 1, win(5, 3), win(6, 3))
	wantClash(t, 0, 1, win(5, 3), win(6, 3), win(5, 3), win(7, 3))
	wantClash(t, 0, 2, win(5, 3, 1, 2), win(5, 3, 1, 2), win(6, 3, 1, 2))
	wantClash(t, 1, 4, win(5, 3, 1), win(5, 3, 1, 2), fail(6, 1, 3, 1, 2), vote(6, 1, 3), win(6, 3, 1, 2))
	wantClash(t, 1, 2, win(5, 3, 1, 2), win(6, 4, 1, 2), win(7, 4, 1, 2), win(7, 3, 1, 2))
	wantClash(t, 0, 3, win(5, 3, 1, 2), win(6, 4, 1, 2), win(5, 4, 2, 1), win(7, 3, 1, 2), win(7, 4, 1, 2))
	wantClash(t, 0, 1, node.Event{Kind: 3, By: 5, Epoch: 3}, node.Event{Kind: 3, By: 6, Epoch: 3, Who: []int{}})
	wantClash(t, 0, 1, node.Event{Kind: 3, By: 5, About: 1, Epoch: 3}, node.Event{Kind: 3, By: 6, About: 2, Epoch: 3})
}

// P21.2: a win of the same one, in another epoch, by more or fewer voters, by others, or by the same ones in another order, is none.
func TestNoClash(t *testing.T) {
	wantClash(t, -1, -1)
	wantClash(t, -1, -1, win(5, 3, 1, 2))
	for _, other := range []node.Event{win(5, 3, 1, 2, 3), win(6, 4, 1, 2, 3), win(6, 3, 1, 2), win(6, 3, 1, 2, 3, 4), win(6, 3), win(6, 3, 1, 2, 4), win(6, 3, 4, 2, 3), win(6, 3, 2, 1, 3), win(6, 3, 3, 2, 1), win(6, 3, 1, 2, 3, 3)} {
		wantClash(t, -1, -1, win(5, 3, 1, 2, 3), other)
		wantClash(t, -1, -1, other, win(5, 3, 1, 2, 3))
	}
	for _, kind := range numbers {
		a, b := -1, -1
		if kind == 3 {
			a, b = 0, 1
		}
		one, other := node.Event{Kind: kind, By: 5, Epoch: 3}, node.Event{Kind: kind, By: 6, Epoch: 3}
		wantClash(t, a, b, one, other)
		if kind != 3 {
			wantClash(t, -1, -1, one, win(6, 3))
			wantClash(t, -1, -1, win(6, 3), one)
		}
	}
}

// P21.2: voters are told from others whatever numbers they are, and however many.
func TestClashOfAnyVoters(t *testing.T) {
	lists := [][]int{nil, {1, 12}, {11, 2}, {112}, {1, 1, 2}, {2, 11}, {12, 1}, {-1}, {0, 0}, {-1, 2}, {1, -2}, {-12}, {1 << 32, 1}, {1, 1 << 32}, {1<<32 + 1}, {256}, {1, 0}, {0, 1}, {257}, {32}, {32, 32}, {1, 32, 2}}
	for _, n := range numbers {
		lists = append(lists, []int{n, n, n}, []int{n, 7}, []int{7, n, n, n})
	}
	for i, one := range lists {
		for j, other := range lists {
			if i == j {
				wantClash(t, 0, 1, win(5, 3, one...), win(6, 3, other...))
			} else {
				wantClash(t, -1, -1, win(5, 3, one...), win(6, 3, other...))
			}
		}
	}
	for i, epoch := range numbers {
		for j, other := range numbers {
			if i == j {
				wantClash(t, 0, 1, win(5, epoch, 1), win(6, other, 1))
			} else {
				wantClash(t, -1, -1, win(5, epoch, 1), win(6, other, 1))
				wantClash(t, 0, 1, win(epoch, 3, 1), win(other, 3, 1))
			}
		}
	}
}

// P21.3: a win needs votes of more than half of its voters, ahead of it, in its epoch, for who won.
func TestUnfounded(t *testing.T) {
	wantUnfounded(t, 0, win(9, 4, 1, 2, 3))
	wantUnfounded(t, 1, vote(1, 9, 4), win(9, 4, 1, 2, 3))
	wantUnfounded(t, -1, vote(1, 9, 4), vote(2, 9, 4), win(9, 4, 1, 2, 3))
	wantUnfounded(t, -1, vote(3, 9, 4), vote(1, 9, 4), win(9, 4, 1, 2, 3))
	wantUnfounded(t, 1, vote(3, 9, 4), win(9, 4, 1, 2, 3), vote(1, 9, 4))
	wantUnfounded(t, 2, vote(3, 9, 5), vote(1, 9, 4), win(9, 4, 1, 2, 3))
	wantUnfounded(t, 2, vote(3, 8, 4), vote(1, 9, 4), win(9, 4, 1, 2, 3))
	wantUnfounded(t, 2, vote(4, 9, 4), vote(1, 9, 4), win(9, 4, 1, 2, 3))
	wantUnfounded(t, 2, vote(1, 9, 4), vote(1, 9, 4), win(9, 4, 1, 2, 3))
	wantUnfounded(t, 2, fail(2, 9, 4, 2), vote(1, 9, 4), win(9, 4, 1, 2, 3))
	wantUnfounded(t, 3, vote(2, 2, 4), win(2, 4, 2), vote(1, 9, 4), win(9, 4, 1, 2, 3))
	wantUnfounded(t, 0, win(2, 4, 2), win(9, 4, 1), vote(2, 2, 4))
	wantUnfounded(t, 4, vote(1, 9, 4), vote(2, 9, 4), win(9, 4, 1, 2, 3), win(9, 4, 2, 1), win(9, 4, 3), win(8, 4, 1, 2))
	wantUnfounded(t, -1, vote(9, 9, 4), win(9, 4, 9))
	wantUnfounded(t, 1, vote(9, 4, 4), win(4, 9, 4))
}

// P21.3: a win about another one is judged by who won alone.
func TestUnfoundedByWinner(t *testing.T) {
	wantUnfounded(t, 1, vote(1, 3, 4), node.Event{Kind: 3, By: 9, About: 3, Epoch: 4, Who: []int{1}})
	wantUnfounded(t, -1, vote(1, 9, 4), node.Event{Kind: 3, By: 9, About: 3, Epoch: 4, Who: []int{1}})
}

// P21.3: of any number of voters half are too few, and half and one do; of none one is needed, so that such a win is unfounded.
func TestUnfoundedNeed(t *testing.T) {
	wantUnfounded(t, 0, win(9, 4))
	wantUnfounded(t, 1, vote(1, 9, 4), node.Event{Kind: 3, By: 9, Epoch: 4, Who: []int{}})
	for n := 1; n <= 40; n++ {
		var who []int
		for id := range n {
			who = append(who, id)
		}
		var events []node.Event
		for place := 0; place <= n; place++ {
			must := -1
			if 2*place <= n {
				must = place
			}
			wantUnfounded(t, must, append(slices.Clone(events), win(9, 4, who...))...)
			events = append(events, vote(n-1-place, 9, 4))
		}
	}
}

// P21.3: one who is there twice among the voters counts twice, whether or not it voted.
func TestUnfoundedTwiceThere(t *testing.T) {
	wantUnfounded(t, -1, vote(1, 9, 4), win(9, 4, 1, 2, 1))
	wantUnfounded(t, 1, vote(2, 9, 4), win(9, 4, 1, 2, 1))
	wantUnfounded(t, 1, vote(1, 9, 4), win(9, 4, 1, 2, 1, 2))
	wantUnfounded(t, -1, vote(1, 9, 4), win(9, 4, 1, 1, 1, 2, 3))
}

// P21.3: only wins are judged, and only votes count, whatever numbers they are of.
func TestUnfoundedOfAnyNumbers(t *testing.T) {
	for i, n := range numbers {
		other := numbers[(i+1)%len(numbers)]
		wantUnfounded(t, -1, vote(n, 9, 4), win(9, 4, n))
		wantUnfounded(t, -1, vote(1, n, 4), win(n, 4, 1))
		wantUnfounded(t, -1, vote(1, 9, n), win(9, n, 1))
		wantUnfounded(t, 1, vote(n, 9, 4), win(9, 4, other))
		wantUnfounded(t, 1, vote(1, n, 4), win(other, 4, 1))
		wantUnfounded(t, 1, vote(1, 9, n), win(9, other, 1))
		if n != 3 {
			wantUnfounded(t, -1, node.Event{Kind: n, By: 9, Epoch: 4, Who: []int{1}})
		}
		if n != 1 {
			wantUnfounded(t, 0, node.Event{Kind: 3, By: 9, Epoch: 4}, node.Event{Kind: n, By: 9, About: 9, Epoch: 4}, win(9, 4, 9))
		}
		if n != 1 && n != 3 {
			wantUnfounded(t, 1, node.Event{Kind: n, By: 8, About: 9, Epoch: 4}, win(9, 4, 8))
		}
	}
}

// P21.4: tables agree whose owners are the same, of each slot; epochs don't matter, nor what owners are.
func TestAgreed(t *testing.T) {
	wantAgreed(t, true)
	one := tableOf(has{0, 1, 5}, has{63, 2, 6})
	wantAgreed(t, true, one)
	wantAgreed(t, true, one, one, one)
	wantAgreed(t, true, one, tableOf(has{0, 1, 7}, has{63, 2, 0}, has{3, 0, 9}))
	for slot := range 64 {
		other := one
		other.Owner[slot] = 3
		wantAgreed(t, false, one, other)
		wantAgreed(t, false, other, one)
		wantAgreed(t, false, one, one, other)
		wantAgreed(t, false, one, other, one)
		wantAgreed(t, false, other, one, one)
		wantAgreed(t, true, other, other)
	}
	for i, n := range numbers {
		wantAgreed(t, true, tableOf(has{9, n, n}), tableOf(has{9, n, 1}))
		wantAgreed(t, false, tableOf(has{9, n, 1}), tableOf(has{9, numbers[(i+1)%len(numbers)], 1}))
	}
}

// P21.4: who claims a slot is who has it in its own table, in the order of the ids; what others say, and epochs, don't matter.
func TestClaimants(t *testing.T) {
	one := tableOf(has{0, 1, 5}, has{7, 2, 5}, has{63, 3, 5})
	other := tableOf(has{0, 2, 5}, has{7, 2, 5}, has{63, 3, 9})
	third := tableOf(has{0, 3, 5}, has{7, 1, 5}, has{62, 3, 9})
	tables := []claims.Table{one, other, third}
	wantClaimants(t, []int{1, 2, 3}, tables, 0, 1, 2, 3)
	wantClaimants(t, []int{3, 2, 1}, []claims.Table{third, other, one}, 0, 3, 2, 1)
	wantClaimants(t, []int{1, 2, 3}, tables, 7, 2)
	wantClaimants(t, []int{1, 2, 3}, tables, 63)
	wantClaimants(t, []int{1, 2, 3}, tables, 62, 3)
	wantClaimants(t, []int{1, 2, 3}, tables, 1)
	wantClaimants(t, []int{2, 3, 1}, tables, 0)
	wantClaimants(t, []int{2, 1, 2}, tables, 7, 2)
	wantClaimants(t, []int{3, 3, 3}, tables, 63, 3, 3)
}

// P21.4: ids and tables count as far as both go.
func TestClaimantsAsFarAsBothGo(t *testing.T) {
	tables := []claims.Table{tableOf(has{4, 1, 5}), tableOf(has{4, 2, 5}), tableOf(has{4, 3, 5})}
	wantClaimants(t, []int{1, 2}, tables, 4, 1, 2)
	wantClaimants(t, []int{1, 2, 3, 4, 0}, tables, 4, 1, 2, 3)
	wantClaimants(t, []int{1, 2, 3, 0}, tables, 5)
	wantClaimants(t, []int{1, 2, 3}, tables[:2], 4, 1, 2)
	wantClaimants(t, nil, tables, 4)
	wantClaimants(t, []int{1, 0}, nil, 4)
}

// P21.4: an id is held against an owner as a number, which may be any, 0 of a slot that nobody has, too.
func TestClaimantsAsNumbers(t *testing.T) {
	wantClaimants(t, []int{0, 1, 0}, []claims.Table{{}, {}, tableOf(has{3, 1, 1})}, 3, 0)
	wantClaimants(t, []int{0, 1, 0}, []claims.Table{{}, {}, tableOf(has{3, 1, 1})}, 2, 0, 0)
	for i, n := range numbers {
		wantClaimants(t, []int{n}, []claims.Table{tableOf(has{3, n, n})}, 3, n)
		wantClaimants(t, []int{n}, []claims.Table{tableOf(has{3, numbers[(i+1)%len(numbers)], 0})}, 3)
	}
}

// P21.4: nobody claims what is no slot.
func TestClaimantsOfNoSlot(t *testing.T) {
	var all claims.Table
	for slot := range all.Owner {
		all.Owner[slot] = 1
		wantClaimants(t, []int{1}, []claims.Table{all}, slot, 1)
	}
	for _, slot := range numbers {
		if slot < 0 || slot > 63 {
			wantClaimants(t, []int{0, 1}, []claims.Table{{}, all}, slot)
			wantClaimants(t, nil, nil, slot)
		}
	}
}

// P21.4: the newest table has each slot with who claims it by the greatest epoch, with that epoch; of one epoch with who claims it first.
func TestNewest(t *testing.T) {
	one := tableOf(has{0, 1, 5}, has{1, 1, 7}, has{2, 1, 3}, has{63, 1, 5})
	other := tableOf(has{0, 2, 6}, has{1, 2, 6}, has{2, 2, 3}, has{9, 2, 1})
	wantNewest(t, nil, nil, claims.Table{})
	wantNewest(t, []int{1}, []claims.Table{one}, one)
	wantNewest(t, []int{1, 2}, []claims.Table{one, other}, tableOf(has{0, 2, 6}, has{1, 1, 7}, has{2, 1, 3}, has{63, 1, 5}, has{9, 2, 1}))
	wantNewest(t, []int{2, 1}, []claims.Table{other, one}, tableOf(has{0, 2, 6}, has{1, 1, 7}, has{2, 2, 3}, has{63, 1, 5}, has{9, 2, 1}))
	wantNewest(t, []int{2, 1}, []claims.Table{one, other}, claims.Table{})
}

// P21.4: what a table says of others' slots is no claim.
func TestNewestOfOwnSlots(t *testing.T) {
	one := tableOf(has{0, 1, 5}, has{1, 2, 9}, has{2, 3, 9}, has{3, 0, 0})
	other := tableOf(has{0, 1, 8}, has{3, 2, 2})
	wantNewest(t, []int{1, 2, 3}, []claims.Table{one, other, one}, tableOf(has{0, 1, 5}, has{2, 3, 9}, has{3, 2, 2}))
}

// P21.4: the slots of one table are claimed with the epoch of each, at the limits, too.
func TestNewestOfManyEpochs(t *testing.T) {
	var own claims.Table
	for slot := range own.Owner {
		own.Owner[slot], own.Epoch[slot] = 1<<32, slot*slot*37%65
	}
	own.Epoch[40], own.Epoch[41] = 1<<48, 0
	wantNewest(t, []int{1 << 32}, []claims.Table{own}, own)
}

// P21.4: a claim with the epoch 0 takes what nobody has, and nothing else.
func TestNewestWithEpochZero(t *testing.T) {
	one, other := tableOf(has{0, 1, 0}, has{1, 1, 2}), tableOf(has{0, 2, 0}, has{1, 2, 0}, has{2, 2, 0})
	wantNewest(t, []int{1, 2}, []claims.Table{one, other}, tableOf(has{0, 1, 0}, has{1, 1, 2}, has{2, 2, 0}))
}

// P21.4: one who is there twice claims twice, by both its tables.
func TestNewestTwiceThere(t *testing.T) {
	one, other := tableOf(has{0, 1, 5}, has{1, 1, 5}), tableOf(has{0, 1, 4}, has{1, 1, 6}, has{2, 1, 0})
	must := tableOf(has{0, 1, 5}, has{1, 1, 6}, has{2, 1, 0})
	wantNewest(t, []int{1, 1}, []claims.Table{one, other}, must)
	wantNewest(t, []int{1, 1}, []claims.Table{other, one}, must)
	wantNewest(t, []int{1, 2, 1}, []claims.Table{other, tableOf(has{0, 2, 5}), one}, tableOf(has{0, 2, 5}, has{1, 1, 6}, has{2, 1, 0}))
}

// P21.4: ids and tables count as far as both go.
func TestNewestAsFarAsBothGo(t *testing.T) {
	tables := []claims.Table{tableOf(has{4, 1, 5}), tableOf(has{5, 2, 5}), tableOf(has{6, 3, 5})}
	wantNewest(t, []int{1, 2}, tables, tableOf(has{4, 1, 5}, has{5, 2, 5}))
	wantNewest(t, []int{1, 2, 3}, tables[:2], tableOf(has{4, 1, 5}, has{5, 2, 5}))
	wantNewest(t, []int{1, 2, 3, 4}, tables, tableOf(has{4, 1, 5}, has{5, 2, 5}, has{6, 3, 5}))
	wantNewest(t, nil, tables, claims.Table{})
	wantNewest(t, []int{1}, nil, claims.Table{})
}

// P21.4: claims of what is no id, or with what is no epoch, are passed over, and no others are for their sake.
func TestNewestPassesOver(t *testing.T) {
	for _, n := range numbers {
		id, epoch := claims.Table{}, claims.Table{}
		if n >= 1 && n <= 1<<32 {
			id = tableOf(has{8, n, 5})
		}
		if n >= 0 && n <= 1<<48 {
			epoch = tableOf(has{8, 7, n})
		}
		wantNewest(t, []int{n}, []claims.Table{tableOf(has{8, n, 5})}, id)
		wantNewest(t, []int{7}, []claims.Table{tableOf(has{8, 7, n})}, epoch)
		id.Owner[3], id.Epoch[3] = 7, 4
		wantNewest(t, []int{n, 7}, []claims.Table{tableOf(has{8, n, 5}), tableOf(has{3, 7, 4})}, id)
		epoch.Owner[2], epoch.Epoch[2], epoch.Owner[9], epoch.Epoch[9] = 7, 4, 7, 1<<48
		wantNewest(t, []int{7}, []claims.Table{tableOf(has{2, 7, 4}, has{8, 7, n}, has{9, 7, 1 << 48})}, epoch)
	}
	wantNewest(t, []int{7}, []claims.Table{tableOf(has{2, 7, 4}, has{3, -1, 4}, has{4, 8, -1}, has{5, 0, 9}, has{6, 1<<32 + 1, 0})}, tableOf(has{2, 7, 4}))
}
