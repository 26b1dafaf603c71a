package quorum_test

import (
	"math"
	"math/rand"
	"slices"
	"testing"

	"grapevine/api"
	"grapevine/quorum"
)

// noIDs are numbers that are no ids.
var noIDs = []int{math.MinInt, -1 << 32, -1, 0, 1<<32 + 1, 1 << 33, 1<<48 + 7, math.MaxInt}

// wrong are lists that are no sets of voters.
func wrong() [][]int {
	lists := [][]int{{1, 1}, {7, 3, 7}, {1, 2, 3, 4, 5, 5}, {1 << 32, 1 << 32}, to(17), append(to(16), 16), append(to(16), 1), make([]int, 17), to(1000), {0, 0}}
	for _, bad := range noIDs {
		lists = append(lists, []int{bad}, []int{bad, 1, 2}, []int{1, bad, 2}, []int{1, 2, bad}, append(to(15), bad))
	}
	return lists
}

// right are lists that are sets of voters.
func right() [][]int {
	lists := [][]int{nil, {}, {1 << 32}, {1 << 32, 1}, {1<<32 - 1, 1 << 32, 2}, {3, 1, 2}, {9, 1 << 31, 5, 1 << 30}, {1, 1 + 1<<31, 2}}
	for n := 1; n <= api.MaxNodes; n++ {
		falling := to(n)
		slices.Reverse(falling)
		lists = append(lists, to(n), falling)
	}
	return lists
}

// to are the ids from 1 to n.
func to(n int) []int {
	list := make([]int, n)
	for i := range list {
		list[i] = i + 1
	}
	return list
}

// chosen are those of a list whose bits are 1.
func chosen(list []int, bits int) []int {
	var some []int
	for i, id := range list {
		if bits>>i&1 == 1 {
			some = append(some, id)
		}
	}
	return some
}

// moreThanHalf tells whether some of n are more than half.
func moreThanHalf(some, n int) bool { return 2*some > n }

// started makes a tally, which must be one.
func started(t *testing.T, voters []int) *quorum.Tally {
	t.Helper()
	x, e := quorum.New(voters)
	if x == nil || e != api.OK {
		t.Fatalf("New(%v) = %v, %d", voters, x, e)
	}
	return x
}

// wantTally holds all that a tally tells against its voters and those who granted, both in any order.
func wantTally(t *testing.T, x *quorum.Tally, voters, granted []int) {
	t.Helper()
	voters, granted = slices.Sorted(slices.Values(voters)), slices.Sorted(slices.Values(granted))
	if got := x.Voters(); !slices.Equal(got, voters) {
		t.Errorf("Voters = %v, want %v", got, voters)
	}
	if got := x.Granted(); !slices.Equal(got, granted) {
		t.Errorf("Granted of %v = %v, want %v", voters, got, granted)
	}
	if got := x.Count(); got != len(granted) {
		t.Errorf("Count of %v = %d, want %d", voters, got, len(granted))
	}
	if got, want := x.Won(), moreThanHalf(len(granted), len(voters)); got != want {
		t.Errorf("Won with %v of %v = %v, want %v", granted, voters, got, want)
	}
}

// P4.1: the need of n is the least number that is more than half of n.
func TestNeed(t *testing.T) {
	for n, want := range []int{1, 1, 2, 2, 3, 3, 4, 4, 5, 5, 6, 6, 7, 7, 8, 8, 9, 9} {
		if got := quorum.Need(n); got != want {
			t.Errorf("Need(%d) = %d, want %d", n, got, want)
		}
	}
	for n := range 2000 {
		if got := quorum.Need(n); !moreThanHalf(got, n) || moreThanHalf(got-1, n) {
			t.Errorf("Need(%d) = %d", n, got)
		}
	}
}

// P4.1: the need of n below 0 is 1, and that of the greatest numbers is no other kind of number.
func TestNeedOfAnyNumber(t *testing.T) {
	for n, want := range map[int]int{
		-1: 1, -2: 1, -3: 1, -5: 1, -17: 1, -1 << 32: 1, math.MinInt + 1: 1, math.MinInt: 1,
		1 << 32: 1<<31 + 1, 1<<32 + 1: 1<<31 + 1, math.MaxInt - 1: 1 << 62, math.MaxInt: 1 << 62,
	} {
		if got := quorum.Need(n); got != want {
			t.Errorf("Need(%d) = %d, want %d", n, got, want)
		}
	}
}

// P4.1: 0 to 16 ids, unlike ones, in any order, are a set of voters.
func TestRight(t *testing.T) {
	for _, voters := range right() {
		was := slices.Clone(voters)
		if !quorum.Right(voters) {
			t.Errorf("Right(%v) = false", voters)
		}
		if !slices.Equal(voters, was) {
			t.Errorf("Right changed %v to %v", was, voters)
		}
	}
}

// P4.1: more than 16, one that is no id, or one that is there twice, are none.
func TestNotRight(t *testing.T) {
	for _, voters := range wrong() {
		if quorum.Right(voters) {
			t.Errorf("Right(%v) = true", voters)
		}
	}
	for n := 2; n <= api.MaxNodes; n++ {
		for i := range n {
			for j := range i {
				voters := to(n)
				voters[i] = voters[j]
				if quorum.Right(voters) {
					t.Errorf("Right(%v) = true", voters)
				}
			}
		}
	}
	if quorum.Right(make([]int, 1<<20)) {
		t.Error("a long list is a set of voters")
	}
}

// P4.1: the majorities that are known.
func TestMajorityKnown(t *testing.T) {
	for _, c := range []struct {
		voters, yes []int
		want        bool
	}{
		{nil, nil, false},
		{nil, []int{1, 2, 3}, false},
		{[]int{5}, nil, false},
		{[]int{5}, []int{4, 6}, false},
		{[]int{5}, []int{5}, true},
		{[]int{1, 2}, []int{1}, false},
		{[]int{1, 2}, []int{2, 2}, false},
		{[]int{1, 2}, []int{2, 1}, true},
		{[]int{1, 2, 3}, []int{7, 3, 3, 1}, true},
		{[]int{1, 2, 3}, []int{3, 3, 3}, false},
		{[]int{1, 2, 3}, []int{3, 7, 8, 9}, false},
		{[]int{3, 1, 2}, []int{2, 3}, true},
		{[]int{1, 2, 3, 4}, []int{4, 2}, false},
		{[]int{1, 2, 3, 4}, []int{4, 2, 4, 2, 2, 9}, false},
		{[]int{1, 2, 3, 4}, []int{4, 2, 1}, true},
		{[]int{1 << 32, 1}, []int{1, 1 << 32}, true},
		{[]int{1 << 32, 1, 2}, []int{0, 1, 1 << 33, -1}, false},
		{to(16), to(8), false},
		{to(16), to(9), true},
		{to(16), to(1000), true},
		{to(15), to(7), false},
		{to(15), to(8), true},
	} {
		if got := quorum.Majority(c.voters, c.yes); got != c.want {
			t.Errorf("Majority(%v, %v) = %v", c.voters, c.yes, got)
		}
	}
}

// P4.1: of voters that are no set of them there is no majority, even of all.
func TestMajorityOfNoVoters(t *testing.T) {
	for _, voters := range wrong() {
		for _, yes := range [][]int{voters, nil, to(20), noIDs} {
			if quorum.Majority(voters, yes) {
				t.Errorf("Majority(%v, %v) = true", voters, yes)
			}
		}
	}
}

// P4.1: all choices among each number of voters, with others among them, some twice, in any order.
func TestMajorityOfEachChoice(t *testing.T) {
	r := rand.New(rand.NewSource(4))
	for n := 0; n <= 12; n++ {
		voters := to(n)
		for bits := range 1 << n {
			some := chosen(voters, bits)
			want := moreThanHalf(len(some), n)
			yes := append(slices.Clone(some), some...)
			yes = append(append(yes, noIDs...), 100, 200, 300)
			r.Shuffle(len(yes), func(i, j int) { yes[i], yes[j] = yes[j], yes[i] })
			if got := quorum.Majority(voters, some); got != want {
				t.Fatalf("Majority(%v, %v) = %v", voters, some, got)
			}
			if got := quorum.Majority(voters, yes); got != want {
				t.Fatalf("Majority(%v, %v) = %v", voters, yes, got)
			}
		}
	}
}

// P4.1: many may be said to be yes, and voters may be the last ones of them.
func TestMajorityOfManyYes(t *testing.T) {
	yes := make([]int, 1<<20)
	for i := range yes {
		yes[i] = i + 100
	}
	if quorum.Majority(to(3), append(yes, 2, 2)) || !quorum.Majority(to(3), append(yes, 2, 3)) {
		t.Error("not the voters among many count")
	}
}

// P4.1, P4.2: what is handed in stays as it is, its spare room too.
func TestArgumentsUnchanged(t *testing.T) {
	voters, yes := []int{3, 1, 2, 77, 76}, []int{3, 3, 9, 1, 66, 65}
	quorum.Majority(voters[:3], yes[:4])
	quorum.Right(voters[:3])
	x := started(t, voters[:3])
	x.Grant(3)
	x.Voters()
	x.Granted()
	if !slices.Equal(voters, []int{3, 1, 2, 77, 76}) || !slices.Equal(yes, []int{3, 3, 9, 1, 66, 65}) {
		t.Errorf("changed to %v and %v", voters, yes)
	}
}

// P4.2: a tally is made of each set of voters, and nobody has granted.
func TestNew(t *testing.T) {
	for _, voters := range right() {
		wantTally(t, started(t, voters), voters, nil)
	}
	one, other := started(t, to(3)), started(t, to(3))
	if one == other {
		t.Fatal("two tallies are one")
	}
	one.Grant(2)
	wantTally(t, one, to(3), []int{2})
	wantTally(t, other, to(3), nil)
}

// P4.2: of what is no set of voters there is no tally.
func TestNewRefuses(t *testing.T) {
	for _, voters := range wrong() {
		if x, e := quorum.New(voters); x != nil || e != api.ErrForm {
			t.Errorf("New(%v) = %v, %d, want nil, %d", voters, x, e, api.ErrForm)
		}
	}
}

// P4.2: the example of the chapter.
func TestGrantExample(t *testing.T) {
	x := started(t, []int{1, 2, 3})
	for _, c := range []struct {
		id        int
		want, won bool
	}{{2, true, false}, {2, false, false}, {9, false, false}, {3, true, true}} {
		if got := x.Grant(c.id); got != c.want || x.Won() != c.won {
			t.Errorf("Grant(%d) = %v, and then Won = %v", c.id, got, x.Won())
		}
	}
	wantTally(t, x, []int{1, 2, 3}, []int{2, 3})
}

// P4.2: each voter grants once, in any order, and the tally is won from more than half of them on.
func TestGrant(t *testing.T) {
	r := rand.New(rand.NewSource(5))
	for _, voters := range right() {
		for range 20 {
			x := started(t, voters)
			var granted []int
			for _, i := range r.Perm(len(voters)) {
				if !x.Grant(voters[i]) {
					t.Errorf("Grant(%d) of %v = false", voters[i], voters)
				}
				granted = append(granted, voters[i])
				wantTally(t, x, voters, granted)
				for _, id := range granted {
					if x.Grant(id) {
						t.Errorf("Grant(%d) of %v = true, once more", id, voters)
					}
				}
				wantTally(t, x, voters, granted)
			}
		}
	}
}

// P4.2: who is no voter doesn't grant, be it no id at all.
func TestGrantOfOthers(t *testing.T) {
	for _, voters := range right() {
		x := started(t, voters)
		var granted []int
		for _, id := range append([]int{0}, voters...) {
			if slices.Contains(voters, id) {
				x.Grant(id)
				granted = append(granted, id)
			}
			for _, other := range append([]int{17, 100, 1<<32 - 5, 1<<31 - 1}, noIDs...) {
				if x.Grant(other) {
					t.Errorf("Grant(%d) of %v = true", other, voters)
				}
			}
			wantTally(t, x, voters, granted)
		}
	}
	if x := started(t, []int{1 << 32}); x.Grant(0) || !x.Grant(1<<32) {
		t.Error("the greatest id is taken for another one")
	}
}

// P4.2: a tally doesn't keep the list that it was made of.
func TestVotersNotKept(t *testing.T) {
	voters := []int{3, 1, 2}
	x := started(t, voters)
	voters[0], voters[1], voters[2] = 7, 8, 9
	if x.Grant(7) || x.Grant(9) || !x.Grant(3) {
		t.Error("the voters changed with the list that was handed in")
	}
	wantTally(t, x, []int{1, 2, 3}, []int{3})
}

// P4.2: what is told is new memory each time, its spare room too.
func TestListsAreNew(t *testing.T) {
	x := started(t, []int{9, 4, 6, 2, 8})
	x.Grant(6)
	x.Grant(4)
	x.Grant(8)
	for _, tell := range []func() []int{x.Voters, x.Granted} {
		one, other := tell(), tell()
		was := slices.Clone(other)
		for i := range one[:cap(one)] {
			one[:cap(one)][i] = 77
		}
		if slices.Contains(other[:cap(other)], 77) || !slices.Equal(other, was) {
			t.Errorf("two answers share memory: %v", other[:cap(other)])
		}
		wantTally(t, x, []int{9, 4, 6, 2, 8}, []int{6, 4, 8})
	}
	voters := x.Voters()
	for i := range voters {
		voters[i] = 50 + i
	}
	if x.Grant(50) || !x.Grant(2) {
		t.Error("the voters changed with the list that was told")
	}
	wantTally(t, x, []int{9, 4, 6, 2, 8}, []int{6, 4, 8, 2})
}

// P4.2: what was told stays as it is when another one grants.
func TestListsStay(t *testing.T) {
	x := started(t, to(16))
	var told [][]int
	for id := 16; id >= 1; id-- {
		x.Grant(id)
		told = append(told, x.Granted())
	}
	for i, list := range told {
		if want := to(16)[15-i:]; !slices.Equal(list, want) {
			t.Errorf("what was told became %v, was %v", list, want)
		}
	}
}

// P4.3: two majorities of one set of voters have one in common.
func TestMajoritiesMeet(t *testing.T) {
	for n := 0; n <= 7; n++ {
		voters := to(n)
		for one := range 1 << n {
			for other := range 1 << n {
				if one&other == 0 && quorum.Majority(voters, chosen(voters, one)) && quorum.Majority(voters, chosen(voters, other)) {
					t.Fatalf("of %v both %b and %b are majorities", voters, one, other)
				}
			}
		}
	}
}

// P4.3: those whom a majority leaves are none, up to the greatest set of voters; and all voters are one, if there are any.
func TestMajorityLeavesNone(t *testing.T) {
	for n := 0; n <= api.MaxNodes; n++ {
		voters := to(n)
		all := 1<<n - 1
		for bits := 0; bits <= all; bits += 1 + n/13*6 { // of the greater sets each seventh choice does
			if quorum.Majority(voters, chosen(voters, bits)) && quorum.Majority(voters, chosen(voters, all-bits)) {
				t.Fatalf("of %v both %b and its others are majorities", voters, bits)
			}
		}
		if got := quorum.Majority(voters, voters); got != (n > 0) {
			t.Errorf("Majority of all of %v = %v", voters, got)
		}
	}
}

// P4.3: of two tallies of one set of voters in which no voter grants both, at most one is won.
func TestTalliesMeet(t *testing.T) {
	r := rand.New(rand.NewSource(6))
	for range 3000 {
		voters := r.Perm(r.Intn(api.MaxNodes + 1))
		for i := range voters {
			voters[i]++
		}
		one, other := started(t, voters), started(t, voters)
		for _, id := range voters {
			[]*quorum.Tally{one, other}[r.Intn(2)].Grant(id)
		}
		if one.Won() && other.Won() || one.Count()+other.Count() != len(voters) {
			t.Fatalf("of %v both %v and %v won", voters, one.Granted(), other.Granted())
		}
	}
}
