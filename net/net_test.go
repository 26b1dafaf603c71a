package net_test

import (
	"math"
	"slices"
	"strconv"
	"strings"
	"testing"

	"grapevine/api"
	"grapevine/net"
)

// most is how many may be under way, written out so that the limit itself is held too.
const most = 4096

// Places that are none in a net of few messages, and ids of all sizes, such as are none of a node's too.
var (
	noPlaces = []int{math.MinInt, -most, -1 << 32, -2, -1, most - 1, most, 1 << 32, math.MaxInt - 1, math.MaxInt}
	ids      = []int{math.MinInt, -2, -1, 0, 1, 2, 3, 1 << 31, 1<<32 - 1, 1 << 32, 1<<32 + 1, 1<<32 + 2, math.MaxInt}
)

// message is what a message must be.
type message struct {
	from, to int
	data     string
}

// made is a message, with room behind its bytes.
func made(m message) net.Message {
	return net.Message{From: m.from, To: m.to, Data: append(make([]byte, 0, len(m.data)+9), m.data...)}
}

// some are messages from 1 on to 10 on, unlike each other.
func some(n int) []message {
	list := make([]message, n)
	for i := range list {
		list[i] = message{1 + i, 10 + i%7, strconv.Itoa(i)}
	}
	return list
}

// of is a net with some messages.
func of(t *testing.T, list ...message) *net.Net {
	t.Helper()
	n := net.New()
	for _, m := range list {
		wantPut(t, n, m, api.OK)
	}
	return n
}

// wantPut puts, and holds what is answered.
func wantPut(t *testing.T, n *net.Net, m message, must api.Errno) {
	t.Helper()
	if e := n.Put(made(m)); e != must {
		t.Fatalf("Put(%v) = %d, want %d", m, e, must)
	}
}

// same tells whether a message is as it must be.
func same(m net.Message, must message) bool {
	return m.From == must.from && m.To == must.to && string(m.Data) == must.data
}

// wantTake takes, and holds what is answered.
func wantTake(t *testing.T, n *net.Net, i int, must message) net.Message {
	t.Helper()
	m, ok := n.Take(i)
	if !ok || !same(m, must) {
		t.Fatalf("Take(%d) = %v, %v, want %v", i, m, ok, must)
	}
	return m
}

// wantNoTake takes where there is nothing.
func wantNoTake(t *testing.T, n *net.Net, i int) {
	t.Helper()
	if m, ok := n.Take(i); ok || m.From != 0 || m.To != 0 || len(m.Data) != 0 {
		t.Fatalf("Take(%d) = %v, %v, want nothing", i, m, ok)
	}
}

// wantDouble doubles, and holds what is answered.
func wantDouble(t *testing.T, n *net.Net, i int, must bool) {
	t.Helper()
	if got := n.Double(i); got != must {
		t.Fatalf("Double(%d) = %v, want %v", i, got, must)
	}
}

// wantTo holds the places of the messages to an id.
func wantTo(t *testing.T, n *net.Net, id int, must ...int) {
	t.Helper()
	if got := n.To(id); !slices.Equal(got, must) {
		t.Fatalf("To(%d) = %v, want %v", id, got, must)
	}
}

// wantNet holds all that a net tells.
func wantNet(t *testing.T, n *net.Net, lost int, must ...message) {
	t.Helper()
	if got := n.Len(); got != len(must) {
		t.Fatalf("Len = %d, want %d", got, len(must))
	}
	if list := n.List(); !slices.EqualFunc(list, must, same) {
		t.Fatalf("List = %v, want %v", list, must)
	}
	if got := n.Lost(); got != lost {
		t.Fatalf("Lost = %d, want %d", got, lost)
	}
	places := map[int][]int{}
	for i, m := range must {
		places[m.to] = append(places[m.to], i)
	}
	for _, id := range ids {
		wantTo(t, n, id, places[id]...)
	}
	for id, list := range places {
		wantTo(t, n, id, list...)
	}
}

// P19.1: so many may be under way, as the chapter's constant says.
func TestMost(t *testing.T) {
	if net.Most != most {
		t.Error(net.Most)
	}
}

// P19.1, P19.2: a new net has nothing, in any place, to anybody, and each is another one.
func TestNew(t *testing.T) {
	n, other := net.New(), net.New()
	wantNet(t, n, 0)
	for _, i := range append([]int{0, 1}, noPlaces...) {
		wantNoTake(t, n, i)
		wantDouble(t, n, i, false)
	}
	wantNet(t, n, 0)
	wantPut(t, n, message{1, 2, "a"}, api.OK)
	wantNet(t, n, 0, message{1, 2, "a"})
	wantNet(t, other, 0)
}

// P19.1, P19.2: the chapter's example.
func TestExample(t *testing.T) {
	a, b := message{1, 2, "a"}, message{2, 1, "b"}
	n := of(t, a, b)
	wantDouble(t, n, 0, true)
	wantTake(t, n, 0, a)
	wantNet(t, n, 0, b, a)
}

// P19.1: what is put is the last one, be its ids and bytes what they may, also if there is one like it.
func TestPut(t *testing.T) {
	var list []message
	for _, from := range ids {
		for k, to := range ids {
			m := message{from, to, []string{"", "a", "\x00", "\xff\x00\n", strings.Repeat("long ", 20000)}[k%5]}
			list = append(list, m, m)
		}
	}
	n := net.New()
	for i, m := range list {
		wantPut(t, n, m, api.OK)
		if n.Len() != i+1 {
			t.Fatal(n.Len())
		}
	}
	wantNet(t, n, 0, list...)
	for _, m := range list {
		wantTake(t, n, 0, m)
	}
	wantNet(t, n, 0)
}

// P19.1, P19.2: a message without bytes is one, whether they are nil or empty, and to and from nobody too.
func TestNoBytes(t *testing.T) {
	n := net.New()
	for _, m := range []net.Message{{}, {Data: []byte{}}, {Data: make([]byte, 0, 5)}} {
		if e := n.Put(m); e != api.OK {
			t.Fatal(e)
		}
	}
	wantDouble(t, n, 1, true)
	wantNet(t, n, 0, make([]message, 4)...)
	for left := 4; left > 0; left-- {
		wantTake(t, n, left-1, message{})
	}
	wantNoTake(t, n, 0)
}

// P19.1: the last one that finds place is the one by which there are 4096; each one more is ErrFull, lost, counted and changes nothing else.
func TestFull(t *testing.T) {
	list := some(most)
	n := of(t, list[:most-1]...)
	wantNet(t, n, 0, list[:most-1]...)
	wantPut(t, n, list[most-1], api.OK)
	wantNet(t, n, 0, list...)
	for lost := range 5 {
		wantPut(t, n, message{-1, 10, "lost"}, api.ErrFull)
		wantNet(t, n, lost+1, list...)
	}
}

// P19.1, P19.2: in a full net there is place again for each one that is taken, and what was lost stays lost and counted.
func TestFullNoMore(t *testing.T) {
	list := some(most)
	n := of(t, list...)
	wantPut(t, n, message{-1, 10, "lost"}, api.ErrFull)
	wantTake(t, n, 7, list[7])
	list = slices.Delete(list, 7, 8)
	wantNet(t, n, 1, list...)
	wantPut(t, n, message{-1, 11, "new"}, api.OK)
	list = append(list, message{-1, 11, "new"})
	wantNet(t, n, 1, list...)
	wantPut(t, n, message{-1, 10, "lost"}, api.ErrFull)
	wantNet(t, n, 2, list...)
	for _, m := range list {
		wantTake(t, n, 0, m)
	}
	wantNet(t, n, 2)
	wantPut(t, n, message{1, 2, "a"}, api.OK)
	wantNet(t, n, 2, message{1, 2, "a"})
}

// P19.1: each net counts what it lost itself.
func TestLostOfEach(t *testing.T) {
	n, other := of(t, some(most)...), of(t, some(most)...)
	wantPut(t, n, message{}, api.ErrFull)
	wantPut(t, n, message{}, api.ErrFull)
	wantPut(t, other, message{}, api.ErrFull)
	if n.Lost() != 2 || other.Lost() != 1 {
		t.Fatal(n.Lost(), other.Lost())
	}
}

// P19.2: from any place a message is taken, and those behind it come up by one.
func TestTake(t *testing.T) {
	for size := 1; size < 8; size++ {
		for i := range size {
			list := some(size)
			n := of(t, list...)
			wantTake(t, n, i, list[i])
			wantNet(t, n, 0, append(list[:i:i], list[i+1:]...)...)
		}
	}
}

// P19.2: from places that are none nothing is taken, and nothing is doubled there; that changes nothing.
func TestNoPlace(t *testing.T) {
	for size := range 6 {
		list := some(size)
		n := of(t, list...)
		for _, i := range append([]int{size, size + 1}, noPlaces...) {
			wantNoTake(t, n, i)
			wantDouble(t, n, i, false)
		}
		wantNet(t, n, 0, list...)
	}
	n := of(t, some(most)...)
	wantNoTake(t, n, -1)
	wantNoTake(t, n, most)
	wantTake(t, n, most-1, some(most)[most-1])
	wantNoTake(t, n, most-1)
	wantNet(t, n, 0, some(most)[:most-1]...)
}

// P19.2: one like that at any place comes behind all, which stay where they are.
func TestDouble(t *testing.T) {
	for size := 1; size < 8; size++ {
		for i := range size {
			list := some(size)
			n := of(t, list...)
			wantDouble(t, n, i, true)
			list = append(list, list[i])
			wantNet(t, n, 0, list...)
			wantDouble(t, n, size, true) // the double's own double
			wantNet(t, n, 0, append(list, list[i])...)
		}
	}
}

// P19.2: in a full net nothing is doubled, which counts as nothing lost; where one finds place yet, one is.
func TestDoubleFull(t *testing.T) {
	list := some(most)
	n := of(t, list[:most-1]...)
	wantDouble(t, n, most-1, false)
	wantDouble(t, n, 5, true)
	list[most-1] = list[5]
	wantNet(t, n, 0, list...)
	for _, i := range []int{0, 5, most - 1, most, -1} {
		wantDouble(t, n, i, false)
	}
	wantNet(t, n, 0, list...)
	wantTake(t, n, 0, list[0])
	wantDouble(t, n, most-1, false)
	wantDouble(t, n, 0, true)
	wantNet(t, n, 0, append(list[1:], list[1])...)
}

// P19.2: the places of those to an id, not of those from it, as they stand when it is asked.
func TestTo(t *testing.T) {
	n := of(t, message{1, 2, "a"}, message{2, 1, "b"}, message{3, 2, "c"}, message{2, 2, "d"}, message{2, 3, "e"})
	wantTo(t, n, 2, 0, 2, 3)
	wantTo(t, n, 1, 1)
	wantTo(t, n, 3, 4)
	wantTo(t, n, 0)
	wantTo(t, n, -2)
	wantTo(t, n, 1<<32+2)
	wantTake(t, n, 0, message{1, 2, "a"})
	wantTo(t, n, 2, 1, 2)
	wantTo(t, n, 1, 0)
	wantDouble(t, n, 1, true)
	wantTo(t, n, 2, 1, 2, 4)
	full := net.New()
	for range most {
		wantPut(t, full, message{1, 9, ""}, api.OK)
	}
	if got := full.To(9); len(got) != most || got[0] != 0 || got[most-1] != most-1 || !slices.IsSorted(got) {
		t.Fatal(got)
	}
}
