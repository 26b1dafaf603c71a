package route_test

import (
	"math"
	"slices"
	"testing"

	"grapevine/api"
	"grapevine/conf"
	"grapevine/node"
	"grapevine/route"
	"grapevine/wire"
)

// noIDs are numbers that are no ids.
var noIDs = []int{math.MinInt, -topID, -1, 0, topID + 1, math.MaxInt}

// owned starts a node in whose table somebody, or nobody (0), has all slots.
func owned(t *testing.T, self, owner int) *node.Node {
	t.Helper()
	s := conf.State{ID: self}
	if owner != 0 {
		s.Table, _, _ = s.Table.Claim(owner, 0, all)
	}
	if owner != 0 && owner != self {
		s.Known = []conf.Known{{ID: owner}}
	}
	return of(t, s)
}

// chain starts the nodes 1, 2, .., each of which sends all keys to the one behind it, and the last one to the id that is told.
func chain(t *testing.T, n, last int) []*node.Node {
	t.Helper()
	var list []*node.Node
	for id := 1; id < n; id++ {
		list = append(list, owned(t, id, id+1))
	}
	return append(list, owned(t, n, last))
}

// along are the ways of the key foo to the ids first, first + 1, .. last, each of which it is moved to.
func along(first, last int) []route.Way {
	var ways []route.Way
	for id := first; id <= last; id++ {
		ways = append(ways, route.Way{Kind: moved, Slot: 22, To: id})
	}
	return ways
}

// end is along, and a way of another kind behind that.
func end(first, last, kind int) []route.Way {
	return append(along(first, last), route.Way{Kind: kind, Slot: 22})
}

// wantFollowed holds the ways of the key foo, each time that it is followed, in whatever order the nodes stand.
func wantFollowed(t *testing.T, nodes []*node.Node, from, most int, must []route.Way, e api.Errno) {
	t.Helper()
	other := slices.Clone(nodes)
	slices.Reverse(other)
	for _, list := range [][]*node.Node{nodes, other, nodes} {
		was := slices.Clone(list)
		got, ge := route.Follow(list, from, "foo", most)
		if !slices.Equal(got, must) || ge != e {
			t.Fatalf("from %d, at most %d: %.300v, %d, want %.300v, %d", from, most, got, ge, must, e)
		}
		if !slices.Equal(list, was) {
			t.Fatal("the nodes are others")
		}
	}
}

// P18.2: a key is followed to the one that has it, from each node of a chain.
func TestFollow(t *testing.T) {
	for n := 1; n <= 20; n++ {
		list := chain(t, n, n)
		for from := 1; from <= n; from++ {
			must := end(from+1, n, here)
			for _, most := range []int{len(must), len(must) + 1, 100, 1 << 31, math.MaxInt} {
				wantFollowed(t, list, from, most, must, api.OK)
			}
		}
	}
}

// P18.2: a key is followed to where it is down.
func TestFollowDown(t *testing.T) {
	list := chain(t, 3, 0) // nobody has anything in the last one's table
	wantFollowed(t, list, 1, 3, end(2, 3, down), api.OK)
	wantFollowed(t, list, 3, 1, end(4, 3, down), api.OK)
	list = chain(t, 3, 3)
	wantDone(t, list[2].Do(node.Command{Kind: 4, Set: 1 << 22}, 0))
	wantFollowed(t, list, 1, 9, end(2, 3, down), api.OK)
	list = chain(t, 4, 4)
	wantFollowed(t, list, 1, 9, end(2, 4, here), api.OK)
	hear(t, list[1], wire.Packet{Kind: 4, From: 3, About: 3, Slots: all}, 0) // 2 holds 3 to have failed, which has all slots still
	wantFollowed(t, list, 1, 9, end(2, 2, down), api.OK)
	wantFollowed(t, list, 3, 9, end(4, 4, here), api.OK)
}

// P18.2: the key tells whom it is moved to.
func TestFollowKeys(t *testing.T) {
	list := []*node.Node{of(t, thirds(4)), of(t, thirds(2)), of(t, thirds(1)), of(t, thirds(topID)), of(t, thirds(3))}
	for at, key := range keys(t) {
		owner := 1 + (at*3+2)/64
		for _, from := range []int{1, 2, 3, 4, topID} {
			must := []route.Way{{Kind: here, Slot: at}}
			if from != owner {
				must = []route.Way{{Kind: moved, Slot: at, To: owner}, {Kind: here, Slot: at}}
			}
			if got, e := route.Follow(list, from, key, 2); e != api.OK || !slices.Equal(got, must) {
				t.Fatalf("%q from %d: %v, %d, want %v", key, from, got, e, must)
			}
		}
	}
}

// P18.2: there is no node of the id that it begins with.
func TestFollowFromNobody(t *testing.T) {
	for _, list := range [][]*node.Node{nil, {}, chain(t, 1, 1), chain(t, 3, 3), chain(t, 3, 1)} {
		for _, from := range append([]int{4, 7, topID}, noIDs...) {
			for _, most := range []int{math.MinInt, -1, 0, 1, 5, math.MaxInt} {
				wantFollowed(t, list, from, most, nil, api.ErrNode)
			}
		}
	}
}

// P18.2: there is no node of an id that it is moved to, which comes ahead of there being too many ways.
func TestFollowToNobody(t *testing.T) {
	for n := 1; n <= 6; n++ {
		for _, last := range []int{n + 1, topID} {
			list := chain(t, n, last)
			must := append(along(2, n), route.Way{Kind: moved, Slot: 22, To: last})
			for _, most := range []int{n, n + 1, 100, math.MaxInt} {
				wantFollowed(t, list, 1, most, must, api.ErrNode)
			}
			for most := range n {
				wantFollowed(t, list, 1, most, must[:most], api.ErrBig) // it isn't known there that nobody comes behind
			}
		}
	}
	list := chain(t, 5, 5)
	wantFollowed(t, append(list[:2:2], list[3:]...), 1, 9, along(2, 3), api.ErrNode)
}

// P18.2: as many ways as may be are told, and none of below 1.
func TestFollowTooFar(t *testing.T) {
	list := chain(t, 6, 6)
	whole := end(2, 6, here)
	for most := 1; most < 6; most++ {
		wantFollowed(t, list, 1, most, whole[:most], api.ErrBig)
	}
	wantFollowed(t, list, 1, 6, whole, api.OK)
	for _, most := range []int{math.MinInt, -6, -1, 0} {
		for from := 1; from <= 6; from++ {
			wantFollowed(t, list, from, most, nil, api.ErrBig)
		}
	}
}

// P18.2: a key that goes round in circles is followed as far as may be.
func TestFollowRound(t *testing.T) {
	for _, n := range []int{2, 3, 7} {
		for back := 1; back < n; back++ {
			list := chain(t, n, back)
			for _, most := range []int{1, 2, 5, 100, 30000} {
				var must []route.Way
				for at := 1; len(must) < most; {
					if at++; at > n {
						at = back
					}
					must = append(must, route.Way{Kind: moved, Slot: 22, To: at})
				}
				wantFollowed(t, list, 1, most, must, api.ErrBig)
			}
		}
	}
}

// P18.2: a great many ways are told in a short time.
func TestFollowLong(t *testing.T) {
	const most = 3000000
	if got, e := route.Follow(chain(t, 2, 1), 2, "foo", most); len(got) != most || e != api.ErrBig {
		t.Errorf("%d ways, %d", len(got), e)
	}
}

// P18.2: no two answers share memory, spare room neither.
func TestFollowMemory(t *testing.T) {
	list := chain(t, 3, 3)
	first, _ := route.Follow(list, 1, "foo", 5)
	for i := range first[:cap(first)] {
		first[:cap(first)][i] = route.Way{Kind: 77}
	}
	wantFollowed(t, list, 1, 5, end(2, 3, here), api.OK)
	second, _ := route.Follow(list, 1, "foo", 5)
	for i := range first[:cap(first)] {
		first[:cap(first)][i] = route.Way{Kind: 78}
	}
	if !slices.Equal(second, end(2, 3, here)) {
		t.Error(second)
	}
}
