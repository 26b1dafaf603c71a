package epoch_test

import (
	"math"
	"math/rand"
	"testing"

	"grapevine/api"
	"grapevine/epoch"
)

// top is the greatest epoch, written out so that the limit itself is held too.
const top = 281474976710656

// edges are numbers at all limits, and some between.
var edges = []int{
	math.MinInt, -top, -1 << 32, -2, -1, 0, 1, 2, 3, 1 << 31, 1<<32 - 1, 1 << 32, 1<<32 + 1,
	top - 2, top - 1, top, top + 1, 2 * top, math.MaxInt - 1, math.MaxInt,
}

// noEpochs are numbers that are no epochs.
var noEpochs = []int{math.MinInt, -top, -1 << 32, -2, -1, top + 1, top + 2, 2 * top, math.MaxInt - 1, math.MaxInt}

// all are the epochs of three edges each, right ones and wrong ones.
func all() []epoch.Epochs {
	var list []epoch.Epochs
	for _, current := range edges {
		for _, vote := range edges {
			for _, config := range edges {
				list = append(list, epoch.Epochs{Current: current, Vote: vote, Config: config})
			}
		}
	}
	return list
}

// areRight tells whether epochs are right: from 0 to Current, and that up to the limit.
func areRight(e epoch.Epochs) bool {
	return 0 <= e.Vote && e.Vote <= e.Current && 0 <= e.Config && e.Config <= e.Current && e.Current <= top
}

// right are those of all that are right.
func right() []epoch.Epochs {
	var list []epoch.Epochs
	for _, e := range all() {
		if areRight(e) {
			list = append(list, e)
		}
	}
	return list
}

// wrong are those of all that are not.
func wrong() []epoch.Epochs {
	var list []epoch.Epochs
	for _, e := range all() {
		if !areRight(e) {
			list = append(list, e)
		}
	}
	return list
}

// answer is what a call of epochs answered.
type answer struct {
	epochs epoch.Epochs
	fault  api.Errno
}

// answered makes one of two results.
func answered(e epoch.Epochs, fault api.Errno) answer { return answer{e, fault} }

// refused is the answer of an error.
func refused(fault api.Errno) answer { return answer{fault: fault} }

// calls are all that epochs are asked, by name; those that take no number pass it over.
var calls = map[string]func(e epoch.Epochs, n int) answer{
	"See":   func(e epoch.Epochs, n int) answer { return answered(e.See(n)) },
	"Grant": func(e epoch.Epochs, n int) answer { return answered(e.Grant(n)) },
	"Win":   func(e epoch.Epochs, n int) answer { return answered(e.Win(n)) },
	"Stand": func(e epoch.Epochs, n int) answer { return answered(e.Stand()) },
	"Bump":  func(e epoch.Epochs, n int) answer { return answered(e.Bump()) },
}

// known are the answers that right epochs give, by the names of the calls.
var known = map[string]func(e epoch.Epochs, n int) answer{
	"See": func(e epoch.Epochs, n int) answer {
		if n > e.Current {
			return answer{epochs: epoch.Epochs{Current: n, Vote: e.Vote, Config: e.Config}}
		}
		return answer{epochs: e}
	},
	"Grant": func(e epoch.Epochs, n int) answer {
		if n > e.Vote && n >= e.Current {
			return answer{epochs: epoch.Epochs{Current: n, Vote: n, Config: e.Config}}
		}
		return refused(api.ErrEpoch)
	},
	"Win": func(e epoch.Epochs, n int) answer {
		if e.Config < n && n <= e.Current {
			return answer{epochs: epoch.Epochs{Current: e.Current, Vote: e.Vote, Config: n}}
		}
		return refused(api.ErrEpoch)
	},
	"Stand": func(e epoch.Epochs, n int) answer {
		if e.Current < top {
			return answer{epochs: epoch.Epochs{Current: e.Current + 1, Vote: e.Vote, Config: e.Config}}
		}
		return refused(api.ErrBig)
	},
	"Bump": func(e epoch.Epochs, n int) answer {
		if e.Current < top {
			return answer{epochs: epoch.Epochs{Current: e.Current + 1, Vote: e.Vote, Config: e.Current + 1}}
		}
		return refused(api.ErrBig)
	},
}

// want holds what a call answers against what it must.
func want(t *testing.T, name string, e epoch.Epochs, n int, must answer) {
	t.Helper()
	was := e
	if got := calls[name](e, n); got != must {
		t.Errorf("%+v: %s(%d) = %+v, want %+v", e, name, n, got, must)
	}
	if e != was {
		t.Errorf("%s(%d) changed %+v to %+v", name, n, was, e)
	}
}

// P6.1: the epochs that are right, and are not, as the chapter says.
func TestRightKnown(t *testing.T) {
	for e, must := range map[epoch.Epochs]bool{
		{}: true, {5, 3, 2}: true, {5, 5, 5}: true, {5, 0, 5}: true, {5, 5, 0}: true, {1, 0, 0}: true,
		{top, 0, 0}: true, {top, top, top}: true, {top, top, 0}: true, {top, 0, top}: true,
		{5, 6, 2}: false, {5, 3, 6}: false, {5, 6, 6}: false, {0, 1, 0}: false, {0, 0, 1}: false,
		{5, -1, 2}: false, {5, 3, -1}: false, {-1, 0, 0}: false, {-1, -1, -1}: false, {-1, -2, -2}: false,
		{top + 1, 0, 0}: false, {top + 1, top + 1, top + 1}: false, {top, top + 1, 0}: false, {top, 0, top + 1}: false,
		{math.MaxInt, 1, 1}: false, {math.MinInt, 0, 0}: false, {5, math.MinInt, 2}: false, {5, 3, math.MaxInt}: false,
	} {
		if got := e.Right(); got != must {
			t.Errorf("%+v: Right = %v", e, got)
		}
	}
}

// P6.1: of all epochs at the limits just those are right whose numbers are.
func TestRight(t *testing.T) {
	for _, e := range all() {
		if got := e.Right(); got != areRight(e) {
			t.Errorf("%+v: Right = %v", e, got)
		}
	}
}

// P6.1: a greater epoch is taken over, another one changes nothing.
func TestSee(t *testing.T) {
	e := epoch.Epochs{Current: 5, Vote: 3, Config: 2}
	for n, current := range map[int]int{0: 5, 1: 5, 2: 5, 3: 5, 4: 5, 5: 5, 6: 6, 7: 7, 1 << 32: 1 << 32, top - 1: top - 1, top: top} {
		want(t, "See", e, n, answer{epochs: epoch.Epochs{Current: current, Vote: 3, Config: 2}})
	}
	want(t, "See", epoch.Epochs{}, 0, answer{})
	want(t, "See", epoch.Epochs{Current: top}, top-1, answer{epochs: epoch.Epochs{Current: top}})
}

// P6.2: to stand is to begin the next epoch, and no vote of it, nor its slots.
func TestStand(t *testing.T) {
	want(t, "Stand", epoch.Epochs{}, 0, answer{epochs: epoch.Epochs{Current: 1}})
	want(t, "Stand", epoch.Epochs{Current: 5, Vote: 3, Config: 2}, 0, answer{epochs: epoch.Epochs{Current: 6, Vote: 3, Config: 2}})
	want(t, "Stand", epoch.Epochs{Current: 5, Vote: 5, Config: 5}, 0, answer{epochs: epoch.Epochs{Current: 6, Vote: 5, Config: 5}})
	want(t, "Stand", epoch.Epochs{Current: top - 1, Vote: 3, Config: 2}, 0, answer{epochs: epoch.Epochs{Current: top, Vote: 3, Config: 2}})
	for _, e := range []epoch.Epochs{{top, 0, 0}, {top, 3, 2}, {top, top, 0}, {top, top, top}} {
		want(t, "Stand", e, 0, refused(api.ErrBig))
	}
}

// P6.3: a vote is given in an epoch that is above that of the last vote, and not below the greatest one that is known.
func TestGrant(t *testing.T) {
	e := epoch.Epochs{Current: 5, Vote: 3, Config: 2}
	for _, n := range []int{0, 1, 2, 3, 4} {
		want(t, "Grant", e, n, refused(api.ErrEpoch))
	}
	for _, n := range []int{5, 6, 7, 1 << 32, top - 1, top} {
		want(t, "Grant", e, n, answer{epochs: epoch.Epochs{Current: n, Vote: n, Config: 2}})
	}
	want(t, "Grant", epoch.Epochs{}, 0, refused(api.ErrEpoch))
	want(t, "Grant", epoch.Epochs{}, 1, answer{epochs: epoch.Epochs{Current: 1, Vote: 1}})
	want(t, "Grant", epoch.Epochs{Current: top, Config: top}, top, answer{epochs: epoch.Epochs{Current: top, Vote: top, Config: top}})
}

// P6.3: in each epoch at most one vote is given, and none in an earlier one behind it.
func TestGrantOnce(t *testing.T) {
	for _, e := range right() {
		for _, n := range edges {
			got := calls["Grant"](e, n)
			if got.fault != api.OK {
				continue
			}
			want(t, "Grant", got.epochs, n, refused(api.ErrEpoch))
			if n > 0 {
				want(t, "Grant", got.epochs, n-1, refused(api.ErrEpoch))
			}
		}
	}
}

// P6.4: an epoch is won that is above that of the slots, and that is known.
func TestWin(t *testing.T) {
	e := epoch.Epochs{Current: 5, Vote: 3, Config: 2}
	for _, n := range []int{0, 1, 2, 6, 7, 1 << 32, top} {
		want(t, "Win", e, n, refused(api.ErrEpoch))
	}
	for _, n := range []int{3, 4, 5} {
		want(t, "Win", e, n, answer{epochs: epoch.Epochs{Current: 5, Vote: 3, Config: n}})
	}
	want(t, "Win", epoch.Epochs{}, 0, refused(api.ErrEpoch))
	want(t, "Win", epoch.Epochs{}, 1, refused(api.ErrEpoch))
	want(t, "Win", epoch.Epochs{Current: top}, top, answer{epochs: epoch.Epochs{Current: top, Config: top}})
	want(t, "Win", epoch.Epochs{Current: top, Config: top}, top, refused(api.ErrEpoch))
}

// P6.4: to bump is to take the next epoch for one's slots, and not to vote in it.
func TestBump(t *testing.T) {
	want(t, "Bump", epoch.Epochs{}, 0, answer{epochs: epoch.Epochs{Current: 1, Config: 1}})
	want(t, "Bump", epoch.Epochs{Current: 5, Vote: 3, Config: 2}, 0, answer{epochs: epoch.Epochs{Current: 6, Vote: 3, Config: 6}})
	want(t, "Bump", epoch.Epochs{Current: 5, Vote: 5, Config: 5}, 0, answer{epochs: epoch.Epochs{Current: 6, Vote: 5, Config: 6}})
	want(t, "Bump", epoch.Epochs{Current: top - 1, Vote: 3, Config: 2}, 0, answer{epochs: epoch.Epochs{Current: top, Vote: 3, Config: top}})
	for _, e := range []epoch.Epochs{{top, 0, 0}, {top, 3, 2}, {top, top, 0}, {top, 0, top}, {top, top, top}} {
		want(t, "Bump", e, 0, refused(api.ErrBig))
	}
}

// P6.2, P6.3, P6.4: the examples of the chapter.
func TestExamples(t *testing.T) {
	e := epoch.Epochs{Current: 5, Vote: 3, Config: 2}
	want(t, "Grant", e, 5, answer{epochs: epoch.Epochs{Current: 5, Vote: 5, Config: 2}})
	want(t, "Grant", e, 3, refused(api.ErrEpoch))
	want(t, "Grant", e, 4, refused(api.ErrEpoch))
	stood := calls["Stand"](e, 0).epochs
	if stood != (epoch.Epochs{Current: 6, Vote: 3, Config: 2}) {
		t.Fatalf("Stand = %+v", stood)
	}
	want(t, "Win", stood, 6, answer{epochs: epoch.Epochs{Current: 6, Vote: 3, Config: 6}})
}

// P6.1 to P6.4: all calls of right epochs at the limits, and of all epochs there are.
func TestCallsOfRight(t *testing.T) {
	for _, e := range right() {
		for _, n := range append([]int{e.Vote, e.Config, e.Current, e.Vote + 1, e.Config + 1, e.Current + 1}, edges...) {
			if n < 0 || n > top {
				continue
			}
			for name, must := range known {
				want(t, name, e, n, must(e, n))
			}
		}
	}
}

// P6.1, P6.3, P6.4: a number that is no epoch is refused, ahead of what else it would be refused for.
func TestCallsOfNoEpoch(t *testing.T) {
	for _, e := range right() {
		for _, n := range noEpochs {
			for _, name := range []string{"See", "Grant", "Win"} {
				want(t, name, e, n, refused(api.ErrForm))
			}
		}
	}
}

// P6.1 to P6.4: epochs that aren't right are refused, ahead of all else.
func TestCallsOfWrong(t *testing.T) {
	for _, e := range wrong() {
		for _, n := range edges {
			for name := range calls {
				want(t, name, e, n, refused(api.ErrForm))
			}
		}
	}
	for _, e := range []epoch.Epochs{{top, top + 1, 0}, {top, 0, top + 1}, {top, -1, 0}, {top, 0, -1}} {
		want(t, "Stand", e, 0, refused(api.ErrForm)) // and not ErrBig
		want(t, "Bump", e, 0, refused(api.ErrForm))
	}
}

// P6.5: of two masters the one of the lower id must bump, if their epochs are the same.
func TestYields(t *testing.T) {
	for _, c := range []struct {
		id, other, mine, theirs int
		must                    bool
	}{
		{1, 2, 5, 5, true}, {2, 1, 5, 5, false}, {1, 2, 5, 6, false}, {1, 2, 6, 5, false}, {2, 1, 5, 6, false}, {2, 1, 6, 5, false},
		{1, 1, 5, 5, false}, {1, 1, 5, 6, false}, {1, 2, 0, 0, true}, {1, 2, top, top, true}, {1, 2, top - 1, top, false},
		{1, 1 << 32, 7, 7, true}, {1 << 32, 1, 7, 7, false}, {1<<32 - 1, 1 << 32, 7, 7, true}, {1 << 31, 1<<31 - 1, 7, 7, false},
		{1, 2, 5, 5 + 1<<32, false}, {5, 5, 1, 2, false},
	} {
		if got := epoch.Yields(c.id, c.other, c.mine, c.theirs); got != c.must {
			t.Errorf("Yields(%d, %d, %d, %d) = %v", c.id, c.other, c.mine, c.theirs, got)
		}
	}
}

// P6.5: of any two of unlike ids one yields, if their epochs are the same, and none else.
func TestOneYields(t *testing.T) {
	ids := []int{1, 2, 3, 9, 1<<31 - 1, 1 << 31, 1<<32 - 1, 1 << 32}
	epochs := []int{0, 1, 2, 5, 1 << 32, top - 1, top}
	for _, id := range ids {
		for _, other := range ids {
			for _, mine := range epochs {
				for _, theirs := range epochs {
					one, two := epoch.Yields(id, other, mine, theirs), epoch.Yields(other, id, theirs, mine)
					if must := mine == theirs && id != other; one && two || (one || two) != must || one && id > other {
						t.Errorf("of %d and %d with %d and %d: %v, %v", id, other, mine, theirs, one, two)
					}
				}
			}
		}
	}
}

// wantGrown holds that what comes of right epochs is right, and none of them lower.
func wantGrown(t *testing.T, name string, e epoch.Epochs, n int) epoch.Epochs {
	t.Helper()
	got := calls[name](e, n)
	if got.fault != api.OK {
		if got.epochs != (epoch.Epochs{}) {
			t.Fatalf("%+v: %s(%d) = %+v beside an error", e, name, n, got)
		}
		return e
	}
	next := got.epochs
	if !areRight(next) || !next.Right() || next.Current < e.Current || next.Vote < e.Vote || next.Config < e.Config {
		t.Fatalf("%+v: %s(%d) = %+v", e, name, n, next)
	}
	return next
}

// P6.6: no call makes right epochs lower, or wrong, whatever it is given.
func TestGrows(t *testing.T) {
	for _, e := range right() {
		for _, n := range edges {
			for name := range calls {
				wantGrown(t, name, e, n)
			}
		}
	}
}

// P6.6: epochs grow through many calls, one behind the other, from the least on and near the limit.
func TestGrowsOn(t *testing.T) {
	r := rand.New(rand.NewSource(6))
	names := []string{"See", "Stand", "Grant", "Win", "Bump"}
	for range 500 {
		e := epoch.Epochs{}
		if r.Intn(2) == 0 {
			e.Current = top - r.Intn(30)
		}
		for range 60 {
			e = wantGrown(t, names[r.Intn(len(names))], e, e.Current+r.Intn(7)-3)
		}
	}
}
