package conf_test

import (
	"fmt"
	"math/rand"
	"regexp"
	"slices"
	"strconv"
	"strings"
	"testing"

	"grapevine/api"
	"grapevine/claims"
	"grapevine/conf"
	"grapevine/epoch"
)

// in tells whether a number is from one to another one.
func in(n, from, to int) bool { return from <= n && n <= to }

// right tells whether a state is right, as the chapter words it.
func right(s conf.State) bool {
	known := map[int]bool{0: true, s.ID: true}
	if !in(s.ID, 1, topID) || !in(s.Master, 0, topID) || s.Master == s.ID || len(s.Known) > most {
		return false
	}
	if e := s.Epochs; !in(e.Current, 0, topEpoch) || !in(e.Vote, 0, e.Current) || !in(e.Config, 0, e.Current) {
		return false
	}
	for i, k := range s.Known {
		if !in(k.ID, 1, topID) || known[k.ID] || !in(k.Master, 0, topID) || k.Master == k.ID || !in(k.Config, 0, topEpoch) {
			return false
		}
		if i > 0 && k.ID < s.Known[i-1].ID {
			return false
		}
		known[k.ID] = true
	}
	for slot, owner := range s.Table.Owner {
		if !known[owner] || !in(s.Table.Epoch[slot], 0, topEpoch) || owner == 0 && s.Table.Epoch[slot] != 0 {
			return false
		}
	}
	return true
}

// setText is the text of slots that rise, as layer 2 words it.
func setText(list []int) string {
	var parts []string
	for i := 0; i < len(list); {
		j := i
		for j+1 < len(list) && list[j+1] == list[j]+1 {
			j++
		}
		if i == j {
			parts = append(parts, fmt.Sprint(list[i]))
		} else {
			parts = append(parts, fmt.Sprintf("%d-%d", list[i], list[j]))
		}
		i = j + 1
	}
	return strings.Join(parts, " ")
}

// textOf is a right state's text, as the chapter words it.
func textOf(s conf.State) string {
	text := fmt.Sprintf("self %d master %d current %d vote %d config %d\n", s.ID, s.Master, s.Epochs.Current, s.Epochs.Vote, s.Epochs.Config)
	for _, k := range s.Known {
		text += fmt.Sprintf("node %d master %d config %d\n", k.ID, k.Master, k.Config)
	}
	groups := map[[2]int][]int{}
	var order [][2]int
	for slot, owner := range s.Table.Owner {
		if owner == 0 {
			continue
		}
		group := [2]int{owner, s.Table.Epoch[slot]}
		if groups[group] == nil {
			order = append(order, group)
		}
		groups[group] = append(groups[group], slot)
	}
	slices.SortFunc(order, func(a, b [2]int) int { return slices.Compare(a[:], b[:]) })
	for _, group := range order {
		text += fmt.Sprintf("slots %d epoch %d : %s\n", group[0], group[1], setText(groups[group]))
	}
	return text
}

// The lines of a text, with numbers without a nought ahead of others.
var (
	selfLine  = regexp.MustCompile(`^self (0|[1-9]\d*) master (0|[1-9]\d*) current (0|[1-9]\d*) vote (0|[1-9]\d*) config (0|[1-9]\d*)$`)
	nodeLine  = regexp.MustCompile(`^node (0|[1-9]\d*) master (0|[1-9]\d*) config (0|[1-9]\d*)$`)
	slotsLine = regexp.MustCompile(`^slots ([1-9]\d*) epoch (0|[1-9]\d*) : ((?:\d+(?:-\d+)?)(?: \d+(?:-\d+)?)*)$`)
)

// found are the numbers that a line's form found, or nil where one is too great.
func found(words []string) []int {
	var list []int
	for _, w := range words {
		n, err := strconv.Atoi(w)
		if err != nil {
			return nil
		}
		list = append(list, n)
	}
	return list
}

// setOf are the slots of a text, or nil where it is no set's text or one of none.
func setOf(text string) []int {
	var list []int
	for part := range strings.SplitSeq(text, " ") {
		low, high, is := strings.Cut(part, "-")
		if !is {
			high = low
		}
		n := found([]string{low, high})
		if n == nil || n[0] > n[1] || n[1] > 63 {
			return nil
		}
		for slot := n[0]; slot <= n[1]; slot++ {
			list = append(list, slot)
		}
	}
	if !slices.IsSorted(list) || len(slices.Compact(slices.Clone(list))) != len(list) || setText(list) != text {
		return nil
	}
	return list
}

// stateOf is the state whose text it is, as the chapter words it: line by line, each where it may stand.
func stateOf(text string) (conf.State, bool) {
	var s, none conf.State
	lines := strings.Split(text, "\n")
	if lines[len(lines)-1] != "" {
		return none, false
	}
	lines = lines[:len(lines)-1]
	if len(lines) == 0 {
		return none, false
	}
	m := selfLine.FindStringSubmatch(lines[0])
	if m == nil || found(m[1:]) == nil {
		return none, false
	}
	n := found(m[1:])
	s.ID, s.Master, s.Epochs = n[0], n[1], epoch.Epochs{Current: n[2], Vote: n[3], Config: n[4]}
	lines = lines[1:]
	for len(lines) > 0 && strings.HasPrefix(lines[0], "node") {
		m := nodeLine.FindStringSubmatch(lines[0])
		if m == nil || found(m[1:]) == nil {
			return none, false
		}
		n := found(m[1:])
		s.Known = append(s.Known, conf.Known{ID: n[0], Master: n[1], Config: n[2]})
		lines = lines[1:]
	}
	last := []int{0, 0}
	for _, line := range lines {
		m := slotsLine.FindStringSubmatch(line)
		if m == nil || found(m[1:3]) == nil || setOf(m[3]) == nil {
			return none, false
		}
		n := found(m[1:3])
		if slices.Compare(last, n) >= 0 {
			return none, false
		}
		last = n
		for _, slot := range setOf(m[3]) {
			if s.Table.Owner[slot] != 0 {
				return none, false
			}
			s.Table.Owner[slot], s.Table.Epoch[slot] = n[0], n[1]
		}
	}
	return s, right(s)
}

// pick is one of some numbers.
func pick(r *rand.Rand, list ...int) int { return list[r.Intn(len(list))] }

// anyState is a state that is right.
func anyState(r *rand.Rand) conf.State {
	all := []int{1, 2, 3, 4, 5, 6, 9, 10, 11, 12, 99, 100, 101, 1 << 31, 1<<31 - 1, topID - 2, topID - 1, topID}
	r.Shuffle(len(all), func(i, j int) { all[i], all[j] = all[j], all[i] })
	others := slices.Sorted(slices.Values(all[1 : 1+pick(r, 0, 1, 2, 3, 5, most)]))
	master := func(id int) int {
		if m := pick(r, append(ids, all...)...); m != id && r.Intn(2) == 0 {
			return m
		}
		return 0
	}
	s := conf.State{ID: all[0], Master: master(all[0])}
	s.Epochs.Current = pick(r, append(epochs, r.Intn(20), r.Intn(topEpoch))...)
	s.Epochs.Vote = pick(r, 0, s.Epochs.Current, r.Intn(s.Epochs.Current+1))
	s.Epochs.Config = pick(r, 0, s.Epochs.Current, r.Intn(s.Epochs.Current+1))
	for _, id := range others {
		s.Known = append(s.Known, conf.Known{ID: id, Master: master(id), Config: pick(r, append(epochs, r.Intn(20))...)})
	}
	s.Table = anyTable(r, append(slices.Clone(others), s.ID))
	return s
}

// anyTable is a table in which these, and nobody, have slots, in stretches and alone.
func anyTable(r *rand.Rand, owners []int) claims.Table {
	var x claims.Table
	owner, epoch, share := 0, 0, pick(r, 1, 2, 4, 30, 100)
	few := epochs[:pick(r, 1, 2, len(epochs))]
	for slot := range 64 {
		if r.Intn(share) == 0 {
			owner, epoch = pick(r, append(owners, 0)...), pick(r, few...)
		}
		if x.Owner[slot] = owner; owner != 0 {
			x.Epoch[slot] = epoch
		}
	}
	return x
}

// spoilt is a state of which something was changed, so that it may be right or not.
func spoilt(r *rand.Rand, s conf.State) conf.State {
	s = copied(s)
	numbers := slices.Concat(ids, noIDs, epochs, noEpochs, []int{s.ID, s.Master, s.Epochs.Current, s.Epochs.Current + 1})
	for _, k := range s.Known {
		numbers = append(numbers, k.ID, k.ID+1, k.ID-1)
	}
	n := pick(r, numbers...)
	places := []*int{&s.ID, &s.Master, &s.Epochs.Current, &s.Epochs.Vote, &s.Epochs.Config, &s.Table.Owner[r.Intn(64)], &s.Table.Epoch[r.Intn(64)]}
	for i := range s.Known {
		places = append(places, &s.Known[i].ID, &s.Known[i].Master, &s.Known[i].Config)
	}
	*places[r.Intn(len(places))] = n
	switch r.Intn(4) {
	case 0:
		r.Shuffle(len(s.Known), func(i, j int) { s.Known[i], s.Known[j] = s.Known[j], s.Known[i] })
	case 1:
		s.Known = append(s.Known, conf.Known{ID: n})
	}
	return s
}

// P13.1, P13.2: any states that are right have the text that the chapter says, and are read back.
func TestAnyState(t *testing.T) {
	r := rand.New(rand.NewSource(1))
	for range 4000 {
		s := anyState(r)
		if !right(s) {
			t.Fatalf("the test's own %+v isn't right", s)
		}
		wantRight(t, s, textOf(s))
	}
}

// P13.1: any states of which something was changed are told right, or refused.
func TestSpoiltState(t *testing.T) {
	r := rand.New(rand.NewSource(2))
	seen := map[bool]int{}
	for range 10000 {
		s := spoilt(r, anyState(r))
		is := right(s)
		seen[is]++
		if is {
			wantRight(t, s, textOf(s))
			continue
		}
		wantWrong(t, s)
		text := textOf(s)
		if _, hidden := stateOf(text); !hidden { // a text doesn't tell the epoch of who is nobody
			wantSyntax(t, text)
		}
	}
	if seen[true] < 1000 || seen[false] < 1000 {
		t.Errorf("states that are right and aren't: %v", seen)
	}
}

// meddled is a text of which something was changed.
func meddled(r *rand.Rand, text string) string {
	parts := []string{"0", "1", "2", "5", "9", "63", "64", " ", "\n", "-", ":", "self", "node", "slots", "master", "epoch", "config", "+", "a", "\x00", "é"}
	i, j := r.Intn(len(text)+1), r.Intn(len(text)+1)
	if j < i {
		i, j = j, i
	}
	part := parts[r.Intn(len(parts))]
	switch r.Intn(6) {
	case 0:
		return text[:i] + part + text[i:]
	case 1:
		return text[:i] + part + text[min(i+1, len(text)):]
	case 2:
		return text[:i] + text[min(i+1, len(text)):]
	case 3:
		return text[:i] + text[j:]
	case 4:
		return text[:j] + text[i:]
	}
	lines := strings.SplitAfter(text, "\n")
	a, b := r.Intn(len(lines)), r.Intn(len(lines))
	if r.Intn(2) == 0 {
		lines[a], lines[b] = lines[b], lines[a]
		return strings.Join(lines, "")
	}
	return strings.Join(slices.Delete(lines, a, a+1), "")
}

// P13.2: any texts that were meddled with are read as the chapter says, or refused.
func TestMeddledText(t *testing.T) {
	r := rand.New(rand.NewSource(3))
	seen := map[bool]int{}
	for range 30000 {
		text := textOf(anyState(r))
		for range 1 + r.Intn(2) {
			text = meddled(r, text)
		}
		must, is := stateOf(text)
		seen[is]++
		if !is {
			wantSyntax(t, text)
			continue
		}
		if got, e := conf.Parse(text); !same(got, must) || e != api.OK {
			t.Fatalf("Parse(%q) = %+v, %d, want %+v", text, got, e, must)
		}
		if again, e := conf.Text(must); again != text || e != api.OK {
			t.Fatalf("Text(%+v) = %q, %d, want %q", must, again, e, text)
		}
	}
	if seen[true] < 1000 || seen[false] < 1000 {
		t.Errorf("texts that are some state's and aren't: %v", seen)
	}
}
