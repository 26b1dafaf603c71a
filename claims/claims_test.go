package claims_test

import (
	"math"
	"math/rand"
	"slices"
	"testing"

	"grapevine/api"
	"grapevine/claims"
	"grapevine/slots"
)

// The greatest id and the greatest epoch, written out so that the limits themselves are held too.
const (
	topID = 4294967296
	top   = 281474976710656
	every = slots.Set(1<<64 - 1)
)

// Numbers at all limits: those that are ids, and epochs, and those that are none.
var (
	ids      = []int{1, 2, 3, 1<<31 - 1, 1 << 31, topID - 1, topID}
	noIDs    = []int{math.MinInt, -top, -topID, -2, -1, 0, topID + 1, topID + 2, 2 * topID, top, math.MaxInt - 1, math.MaxInt}
	epochs   = []int{0, 1, 2, 5, 1<<31 - 1, 1 << 31, 1 << 32, top - 1, top}
	noEpochs = []int{math.MinInt, -top, -topID, -2, -1, top + 1, top + 2, 2 * top, math.MaxInt - 1, math.MaxInt}
)

// held is a slot, its owner and its epoch.
type held struct{ slot, owner, epoch int }

// table is the table in which just these slots are held.
func table(list ...held) claims.Table {
	var t claims.Table
	for _, h := range list {
		t.Owner[h.slot], t.Epoch[h.slot] = h.owner, h.epoch
	}
	return t
}

// set is the set of slots, made one by one.
func set(list ...int) slots.Set {
	var s slots.Set
	for _, slot := range list {
		s |= 1 << slot
	}
	return s
}

// noTables are tables that are none, each by one slot alone.
func noTables() []claims.Table {
	var list []claims.Table
	full := table()
	for slot := range 64 {
		full.Owner[slot], full.Epoch[slot] = ids[slot%len(ids)], epochs[slot%len(epochs)]
	}
	for _, at := range []int{0, 1, 31, 32, 62, 63} {
		for _, t := range []claims.Table{{}, full} {
			for _, owner := range noIDs {
				if owner != 0 {
					list = append(list, with(t, at, owner, 0), with(t, at, owner, 1))
				}
			}
			for _, epoch := range noEpochs {
				list = append(list, with(t, at, 0, epoch), with(t, at, 1, epoch), with(t, at, topID, epoch))
			}
			for _, epoch := range epochs[1:] {
				list = append(list, with(t, at, 0, epoch))
			}
		}
	}
	return list
}

// with is a table but for one slot.
func with(t claims.Table, slot, owner, epoch int) claims.Table {
	t.Owner[slot], t.Epoch[slot] = owner, epoch
	return t
}

// answer is what a call that changes a table answered.
type answer struct {
	table claims.Table
	set   slots.Set
	fault api.Errno
}

// claim is a claim, to be made of tables.
type claim struct {
	id, epoch int
	set       slots.Set
}

// of makes the claim of a table.
func (c claim) of(t claims.Table) answer {
	next, taken, fault := t.Claim(c.id, c.epoch, c.set)
	return answer{next, taken, fault}
}

// drop makes a drop of a table.
func drop(t claims.Table, id int, keep slots.Set) answer {
	next, dropped, fault := t.Drop(id, keep)
	return answer{next, dropped, fault}
}

// claimed is the table behind a claim and what it took, as the chapter words it.
func claimed(t claims.Table, c claim) answer {
	var taken slots.Set
	for slot := range 64 {
		if c.set>>slot%2 == 0 {
			continue
		}
		nobody := t.Owner[slot] == 0
		its := t.Owner[slot] == c.id
		if nobody || !its && t.Epoch[slot] < c.epoch {
			t.Owner[slot], t.Epoch[slot] = c.id, c.epoch
			taken += 1 << slot
		}
		if its && c.epoch > t.Epoch[slot] {
			t.Epoch[slot] = c.epoch
		}
	}
	return answer{table: t, set: taken}
}

// dropped is the table behind a drop and what went, as the chapter words it.
func dropped(t claims.Table, id int, keep slots.Set) answer {
	var gone slots.Set
	for slot := range 64 {
		if t.Owner[slot] == id && keep>>slot%2 == 0 {
			t.Owner[slot], t.Epoch[slot] = 0, 0
			gone += 1 << slot
		}
	}
	return answer{table: t, set: gone}
}

// newer is the lowest id of those who are ahead of a claim, as the chapter words it.
func newer(t claims.Table, c claim) int {
	var ahead []int
	for slot := range 64 {
		if c.set>>slot%2 == 1 && t.Owner[slot] != 0 && t.Owner[slot] != c.id && t.Epoch[slot] > c.epoch {
			ahead = append(ahead, t.Owner[slot])
		}
	}
	if len(ahead) == 0 {
		return 0
	}
	return slices.Min(ahead)
}

// anyTable is a table of few owners and epochs, so that they often meet.
func anyTable(r *rand.Rand) claims.Table {
	var t claims.Table
	for slot := range 64 {
		if r.Intn(4) > 0 {
			t.Owner[slot], t.Epoch[slot] = ids[r.Intn(len(ids))], epochs[r.Intn(len(epochs))]
		}
	}
	return t
}

// anySet is a set of few, many or all slots.
func anySet(r *rand.Rand) slots.Set {
	s := slots.Set(r.Uint64())
	switch r.Intn(6) {
	case 0:
		return s & slots.Set(r.Uint64()) & slots.Set(r.Uint64())
	case 1:
		return every
	case 2:
		return 0
	}
	return s
}

// anyClaim is a claim of few owners and epochs.
func anyClaim(r *rand.Rand) claim {
	return claim{ids[r.Intn(len(ids))], epochs[r.Intn(len(epochs))], anySet(r)}
}

// want holds an answer against what it must be.
func want(t *testing.T, what string, got, must answer) {
	t.Helper()
	if got != must {
		t.Fatalf("%s: %+v, want %+v", what, got, must)
	}
}

// P7.1: each owner and epoch at the limits is right in each slot.
func TestRight(t *testing.T) {
	if !(claims.Table{}).Right() {
		t.Error("the table in which nobody has anything isn't right")
	}
	for slot := range 64 {
		for _, id := range ids {
			for _, epoch := range epochs {
				if x := table(held{slot, id, epoch}); !x.Right() {
					t.Errorf("slot %d of %d with %d: not right", slot, id, epoch)
				}
			}
		}
	}
	r := rand.New(rand.NewSource(1))
	for range 1000 {
		if x := anyTable(r); !x.Right() {
			t.Fatalf("%+v: not right", x)
		}
	}
}

// P7.1: an owner that is no id, an epoch that is none, and an epoch of nobody make it no table, in each slot.
func TestRightNot(t *testing.T) {
	for slot := range 64 {
		for _, c := range [][2]int{
			{0, 1}, {0, -1}, {0, top}, {0, top + 1}, {-1, 0}, {-1, 1}, {topID + 1, 0}, {topID + 1, 1}, {1, -1}, {1, top + 1},
			{math.MinInt, 0}, {math.MaxInt, 0}, {1, math.MinInt}, {1, math.MaxInt}, {topID, -1}, {topID, top + 1},
		} {
			if table(held{slot, c[0], c[1]}).Right() {
				t.Errorf("slot %d of %d with %d: right", slot, c[0], c[1])
			}
		}
	}
	for _, x := range noTables() {
		if x.Right() {
			t.Errorf("%+v: right", x)
		}
	}
}

// P7.1: the slots that somebody has, and those that nobody has.
func TestOf(t *testing.T) {
	x := table(held{0, 2, 5}, held{1, 1, 0}, held{31, 2, 7}, held{32, topID, 1}, held{63, 2, top})
	for id, must := range map[int]slots.Set{
		1: set(1), 2: set(0, 31, 63), topID: set(32), 0: every &^ set(0, 1, 31, 32, 63),
		3: 0, 5: 0, 7: 0, -1: 0, topID - 1: 0, topID + 1: 0, topID + 2: 0, math.MinInt: 0, math.MaxInt: 0,
	} {
		if got := x.Of(id); got != must {
			t.Errorf("Of(%d) = %x, want %x", id, uint64(got), uint64(must))
		}
	}
	if got := (claims.Table{}).Of(0); got != every {
		t.Errorf("of nobody, where nobody has anything: %x", uint64(got))
	}
	if got := (claims.Table{}).Of(1); got != 0 {
		t.Errorf("of 1, where nobody has anything: %x", uint64(got))
	}
	for slot := range 64 {
		one := table(held{slot, 9, 0})
		if one.Of(9) != 1<<slot || one.Of(0) != ^(1<<slot) {
			t.Errorf("of the slot %d alone: %x and %x", slot, uint64(one.Of(9)), uint64(one.Of(0)))
		}
	}
}

// P7.1: all who have a slot, each once, rising, however many these are.
func TestOwners(t *testing.T) {
	if got := (claims.Table{}).Owners(); len(got) != 0 {
		t.Errorf("where nobody has anything: %v", got)
	}
	x := table(held{0, topID, 0}, held{1, 3, 1}, held{2, 1, 9}, held{3, 3, 2}, held{40, 2, 0}, held{63, 1, 0})
	if got := x.Owners(); !slices.Equal(got, []int{1, 2, 3, topID}) {
		t.Errorf("Owners = %v", got)
	}
	var falling claims.Table
	var must []int
	for slot := range 64 {
		falling.Owner[slot] = topID - slot
		must = append(must, topID-63+slot)
	}
	if got := falling.Owners(); !slices.Equal(got, must) {
		t.Errorf("of 64 that fall: %v", got)
	}
	for slot := range 64 {
		if got := table(held{slot, 7, 0}).Owners(); !slices.Equal(got, []int{7}) {
			t.Errorf("of the slot %d alone: %v", slot, got)
		}
	}
}

// P7.1: each who has a slot is told, and nobody else, whoever they are.
func TestOfAndOwners(t *testing.T) {
	r := rand.New(rand.NewSource(2))
	for range 500 {
		x := anyTable(r)
		owners, all := x.Owners(), x.Of(0)
		if !slices.IsSorted(owners) || len(slices.Compact(slices.Clone(owners))) != len(owners) {
			t.Fatalf("Owners = %v", owners)
		}
		for _, id := range owners {
			its := x.Of(id)
			if id < 1 || id > topID || its == 0 || its&all != 0 {
				t.Fatalf("%d of %v has %x", id, owners, uint64(its))
			}
			all |= its
		}
		if all != every {
			t.Fatalf("%v have %x", owners, uint64(all))
		}
	}
}

// P7.1: only ids are owners, in what is no table too.
func TestOwnersAreIDs(t *testing.T) {
	for _, x := range noTables() {
		for _, id := range x.Owners() {
			if id < 1 || id > topID {
				t.Fatalf("%+v: an owner %d", x, id)
			}
		}
	}
}

// What Owners tells is new memory each time, its spare room too.
func TestOwnersAreNew(t *testing.T) {
	x := table(held{0, 3, 0}, held{1, 2, 0}, held{2, 1, 0}, held{3, 1, 0}, held{4, 3, 0})
	one, other := x.Owners(), x.Owners()
	_ = append(one, 77)
	for i := range one {
		one[i] = 77
	}
	if slices.Contains(other[:cap(other)], 77) {
		t.Errorf("two answers share memory: %v", other[:cap(other)])
	}
	if must := []int{1, 2, 3}; !slices.Equal(other, must) || !slices.Equal(x.Owners(), must) {
		t.Errorf("a list that was told before changed others: %v, %v", other, x.Owners())
	}
}

// P7.2: of one slot: who had it, with which epoch, who claims it with which, and who has it then.
func TestClaimOfOne(t *testing.T) {
	for _, c := range []struct {
		owner, held, id, epoch, nextOwner, nextEpoch int
		taken                                        bool
	}{
		{0, 0, 1, 0, 1, 0, true}, {0, 0, 1, 5, 1, 5, true}, {0, 0, topID, top, topID, top, true}, // nobody has it
		{2, 4, 1, 5, 1, 5, true}, {2, 0, 1, 1, 1, 1, true}, {2, top - 1, 1, top, 1, top, true}, {1, 4, 2, 5, 2, 5, true}, // a lesser epoch
		{2, 5, 1, 5, 2, 5, false}, {1, 5, 2, 5, 1, 5, false}, {2, 0, 1, 0, 2, 0, false}, {2, top, 1, top, 2, top, false}, // the same one
		{2, 6, 1, 5, 2, 6, false}, {1, 6, 2, 5, 1, 6, false}, {2, 1, 1, 0, 2, 1, false}, {2, top, 1, top - 1, 2, top, false}, // a greater one
		{1, 5, 1, 6, 1, 6, false}, {1, 0, 1, top, 1, top, false}, {topID, 5, topID, 6, topID, 6, false}, // its own
		{1, 5, 1, 5, 1, 5, false}, {1, 5, 1, 4, 1, 5, false}, {1, 5, 1, 0, 1, 5, false}, {1, top, 1, 0, 1, top, false}, {1, 0, 1, 0, 1, 0, false},
	} {
		for slot := range 64 {
			x := table(held{slot, c.owner, c.held})
			must := answer{table: table(held{slot, c.nextOwner, c.nextEpoch})}
			if c.taken {
				must.set = 1 << slot
			}
			want(t, "a claim of one slot", claim{c.id, c.epoch, 1 << slot}.of(x), must)
			want(t, "a claim of none", claim{c.id, c.epoch, 0}.of(x), answer{table: x})
		}
	}
}

// P7.2: a claim leaves the slots that are not of its set.
func TestClaimLeaves(t *testing.T) {
	x := table(held{0, 1, 3}, held{1, 2, 3}, held{3, 1, 3}, held{4, 2, 3}, held{5, 2, 9})
	must := table(held{0, 1, 7}, held{1, 1, 7}, held{2, 1, 7}, held{3, 1, 3}, held{4, 2, 3}, held{5, 2, 9}, held{63, 1, 7})
	want(t, "a claim of some", claim{1, 7, set(0, 1, 2, 5, 63)}.of(x), answer{table: must, set: set(1, 2, 63)})
	all := claim{topID, 0, every}.of(claims.Table{})
	if all.fault != api.OK || all.set != every || all.table.Of(topID) != every || all.table.Epoch != [64]int{} {
		t.Errorf("a claim of all: %+v", all)
	}
}

// P7.2: each claim of any table does what the chapter says.
func TestClaim(t *testing.T) {
	r := rand.New(rand.NewSource(3))
	for range 5000 {
		x, c := anyTable(r), anyClaim(r)
		was := x
		want(t, "a claim", c.of(x), claimed(x, c))
		if x != was {
			t.Fatalf("a claim changed %+v to %+v", was, x)
		}
	}
}

// P7.2: who is no id, an epoch that is none, and what is no table are refused, and nothing is told beside.
func TestClaimWrong(t *testing.T) {
	refused := answer{fault: api.ErrForm}
	for _, x := range []claims.Table{{}, table(held{0, 1, 5}, held{1, 2, 6})} {
		for _, s := range []slots.Set{0, 1, set(1, 5), every} {
			for _, id := range noIDs {
				for _, epoch := range slices.Concat(epochs, noEpochs) {
					want(t, "a claim of no id", claim{id, epoch, s}.of(x), refused)
				}
			}
			for _, epoch := range noEpochs {
				for _, id := range ids {
					want(t, "a claim of no epoch", claim{id, epoch, s}.of(x), refused)
				}
			}
		}
	}
	for _, x := range noTables() {
		for _, c := range []claim{{1, 1, 1}, {1, top, every}, {topID, 0, 0}, {0, 1, 1}, {1, -1, 1}, {2, 5, set(7)}} {
			want(t, "a claim of no table", c.of(x), refused)
		}
	}
}

// P7.3: what somebody has goes, but what is kept; of others nothing goes.
func TestDropKnown(t *testing.T) {
	x := table(held{0, 1, 5}, held{1, 2, 6}, held{2, 1, 0}, held{62, 1, 7}, held{63, 1, top})
	for _, c := range []struct {
		id         int
		keep, gone slots.Set
	}{
		{1, 0, set(0, 2, 62, 63)}, {1, every, 0}, {1, set(0, 2, 62, 63), 0}, {1, set(0), set(2, 62, 63)}, {1, set(62), set(0, 2, 63)},
		{1, set(1, 3), set(0, 2, 62, 63)}, {2, 0, set(1)}, {2, set(1), 0}, {2, every &^ set(1), set(1)}, {3, 0, 0}, {topID, 0, 0},
	} {
		must := x
		for slot := range 64 {
			if c.gone.Has(slot) {
				must.Owner[slot], must.Epoch[slot] = 0, 0
			}
		}
		want(t, "a drop", drop(x, c.id, c.keep), answer{table: must, set: c.gone})
	}
	want(t, "a drop where nobody has anything", drop(claims.Table{}, 1, 0), answer{})
}

// P7.3: each drop of any table does what the chapter says, and what goes and what is kept is all that was had.
func TestDrop(t *testing.T) {
	r := rand.New(rand.NewSource(4))
	for range 5000 {
		x, id, keep := anyTable(r), ids[r.Intn(len(ids))], anySet(r)
		was := x
		got := drop(x, id, keep)
		want(t, "a drop", got, dropped(x, id, keep))
		if x != was {
			t.Fatalf("a drop changed %+v to %+v", was, x)
		}
		if left := got.table.Of(id); left != x.Of(id)&keep || left|got.set != x.Of(id) || !got.table.Right() {
			t.Fatalf("%+v: Drop(%d, %x) = %+v", x, id, uint64(keep), got)
		}
		if again := drop(got.table, id, keep); again != (answer{table: got.table}) {
			t.Fatalf("a drop that is made again: %+v", again)
		}
	}
}

// P7.3: who is no id and what is no table are refused, and nothing is told beside.
func TestDropWrong(t *testing.T) {
	refused := answer{fault: api.ErrForm}
	for _, keep := range []slots.Set{0, 1, every} {
		for _, x := range []claims.Table{{}, table(held{0, 1, 5}, held{1, 2, 6})} {
			for _, id := range noIDs {
				want(t, "a drop of no id", drop(x, id, keep), refused)
			}
		}
		for _, x := range noTables() {
			for _, id := range []int{1, 2, topID, 0, -1} {
				want(t, "a drop of no table", drop(x, id, keep), refused)
			}
		}
	}
}

// P7.4: the lowest one of those with a greater epoch, whichever slot it has.
func TestNewerKnown(t *testing.T) {
	x := table(held{0, 3, 9}, held{1, 2, 6}, held{2, 1, 5}, held{3, 3, 4}, held{4, topID, top}, held{5, 2, 0}, held{63, 2, 7})
	for _, c := range []struct {
		claim
		must int
	}{
		{claim{9, 4, every}, 1}, {claim{9, 5, every}, 2}, {claim{9, 7, every}, 3}, {claim{9, 9, every}, topID}, {claim{9, top, every}, 0},
		{claim{9, 6, set(0, 1, 2)}, 3}, {claim{9, 5, set(2)}, 0}, {claim{9, 4, set(2)}, 1}, {claim{9, 6, set(2)}, 0}, {claim{9, 6, set(63)}, 2},
		{claim{9, 0, 0}, 0}, {claim{9, 0, set(5, 6, 7)}, 0}, {claim{9, 0, set(3, 5, 7)}, 3}, {claim{9, top - 1, set(4)}, topID},
		{claim{1, 0, every}, 2}, {claim{2, 0, every}, 1}, {claim{2, 5, every}, 3}, {claim{3, 7, every}, topID}, {claim{topID, 9, every}, 0},
		{claim{1, 0, set(2)}, 0}, {claim{3, 0, set(0, 3)}, 0}, {claim{2, 0, set(1, 5, 63)}, 0},
	} {
		if got := x.Newer(c.id, c.epoch, c.set); got != c.must {
			t.Errorf("Newer(%d, %d, %x) = %d, want %d", c.id, c.epoch, uint64(c.set), got, c.must)
		}
	}
}

// P7.4: of any table, also for numbers that are no ids or epochs: nobody is nobody, with epochs below 0 too.
func TestNewer(t *testing.T) {
	r := rand.New(rand.NewSource(5))
	allIDs, allEpochs := slices.Concat(ids, noIDs), slices.Concat(epochs, noEpochs)
	for range 300 {
		x, s := anyTable(r), anySet(r)
		for _, id := range allIDs {
			for _, epoch := range allEpochs {
				c := claim{id, epoch, s}
				if got, must := x.Newer(id, epoch, s), newer(x, c); got != must {
					t.Fatalf("%+v: Newer(%d, %d, %x) = %d, want %d", x, id, epoch, uint64(s), got, must)
				}
			}
		}
	}
	for _, epoch := range noEpochs {
		if got := (claims.Table{}).Newer(1, epoch, every); got != 0 {
			t.Errorf("where nobody has anything, with %d: %d", epoch, got)
		}
	}
}

// P7.4: of what is no table it tells nobody, whichever slots are asked for.
func TestNewerOfNoTable(t *testing.T) {
	for _, x := range noTables() {
		for _, s := range []slots.Set{0, 1, set(7, 9), every} {
			for _, epoch := range []int{0, -1, 5, math.MinInt, math.MaxInt} {
				if got := x.Newer(3, epoch, s); got != 0 {
					t.Fatalf("%+v: Newer(3, %d, %x) = %d", x, epoch, uint64(s), got)
				}
			}
		}
	}
}

// made is the table behind claims, in their order.
func made(t *testing.T, x claims.Table, list []claim) claims.Table {
	t.Helper()
	for _, c := range list {
		got := c.of(x)
		if got.fault != api.OK || !got.table.Right() {
			t.Fatalf("%+v of %+v: %+v", c, x, got)
		}
		x = got.table
	}
	return x
}

// orders are all orders of claims.
func orders(list []claim) [][]claim {
	if len(list) == 0 {
		return [][]claim{nil}
	}
	var all [][]claim
	for i, first := range list {
		rest := slices.Concat(list[:i], list[i+1:])
		for _, order := range orders(rest) {
			all = append(all, append([]claim{first}, order...))
		}
	}
	return all
}

// unlike are claims whose epochs are all unlike.
func unlike(r *rand.Rand, n int) []claim {
	var list []claim
	for i, at := range r.Perm(len(epochs))[:n] {
		list = append(list, claim{ids[r.Intn(1+i)], epochs[at], anySet(r)})
	}
	return list
}

// P7.5: claims of unlike epochs come, in each of their orders, to the same owners, from each table on.
func TestOrders(t *testing.T) {
	r := rand.New(rand.NewSource(6))
	for round := range 60 {
		var from claims.Table
		if round%2 == 1 {
			from = anyTable(r)
		}
		list := unlike(r, 4)
		must := made(t, from, list)
		for _, order := range orders(list) {
			if got := made(t, from, order); got.Owner != must.Owner {
				t.Fatalf("from %+v: %+v come to %v, but %+v to %v", from, list, must.Owner, order, got.Owner)
			}
		}
	}
}

// P7.5: where nobody has anything, the owner of a slot is who claimed it with the greatest epoch.
func TestGreatestWins(t *testing.T) {
	r := rand.New(rand.NewSource(7))
	for range 300 {
		list := unlike(r, 6)
		got := made(t, claims.Table{}, list)
		for slot := range 64 {
			best := claim{epoch: -1}
			for _, c := range list {
				if c.set.Has(slot) && c.epoch > best.epoch {
					best = c
				}
			}
			if got.Owner[slot] != best.id || got.Epoch[slot] != max(best.epoch, 0) {
				t.Fatalf("slot %d of %+v: %d with %d", slot, list, got.Owner[slot], got.Epoch[slot])
			}
		}
	}
}

// P7.5: a claim that is made again, at once or behind others, takes and changes nothing.
func TestAgain(t *testing.T) {
	r := rand.New(rand.NewSource(8))
	for range 1000 {
		x := anyTable(r)
		var before []claim
		for range 5 {
			c := anyClaim(r)
			x, before = c.of(x).table, append(before, c)
			for _, earlier := range before {
				want(t, "a claim that is made again", earlier.of(x), answer{table: x})
			}
		}
	}
}

// P7.2, P7.5: the example of the chapter.
func TestExample(t *testing.T) {
	first := claim{1, 5, set(0, 1)}.of(claims.Table{})
	want(t, "the claim of 1 with 5", first, answer{table: table(held{0, 1, 5}, held{1, 1, 5}), set: set(0, 1)})
	second := claim{2, 4, set(1, 2)}.of(first.table)
	want(t, "that of 2 with 4", second, answer{table: table(held{0, 1, 5}, held{1, 1, 5}, held{2, 2, 4}), set: set(2)})
	third := claim{2, 6, set(1)}.of(second.table)
	want(t, "that of 2 with 6", third, answer{table: table(held{0, 1, 5}, held{1, 2, 6}, held{2, 2, 4}), set: set(1)})
}
