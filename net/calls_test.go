package net_test

import (
	"math/rand"
	"slices"
	"testing"

	"grapevine/api"
	"grapevine/net"
)

// spoil overwrites bytes and the room behind them.
func spoil(b []byte) {
	b = b[:cap(b)]
	for i := range b {
		b[i] = '!'
	}
}

// P19.1: bytes that are handed in are neither changed nor kept, the room behind them neither, be the message put or lost.
func TestHandedIn(t *testing.T) {
	n := net.New()
	buffer := []byte("abcdef")
	for range most {
		n.Put(net.Message{From: 1, To: 2, Data: buffer[1:3]})
	}
	n.Put(net.Message{From: 1, To: 2, Data: buffer[1:3]})
	n.Take(most - 1)
	n.Double(0)
	n.List()
	if string(buffer) != "abcdef" {
		t.Fatalf("%q", buffer)
	}
	spoil(buffer[:0])
	for _, m := range n.List() {
		if string(m.Data) != "bc" {
			t.Fatalf("%q", m.Data)
		}
		spoil(m.Data)
	}
	for range most {
		spoil(wantTake(t, n, 0, message{1, 2, "bc"}).Data)
	}
	if string(buffer) != "!!!!!!" {
		t.Fatalf("%q", buffer)
	}
}

// P19.1, P19.2: what is told is new memory: no list, no message and no double shares any with another, nor with the net.
func TestNewMemory(t *testing.T) {
	must := []message{{1, 2, "aaa"}, {3, 2, "bbbb"}, {4, 2, "c"}, {1, 2, "aaa"}, {1, 2, "aaa"}}
	n := of(t, must[:3]...)
	wantDouble(t, n, 0, true)
	wantDouble(t, n, 3, true)
	first, second, places := n.List(), n.List(), n.To(2)
	for i := range first {
		spoil(first[i].Data)
		for k := range first {
			if k > i && !same(first[k], must[k]) {
				t.Fatalf("%d shares with %d: %v", k, i, first[k])
			}
		}
	}
	clear(first[:cap(first)])
	clear(places[:cap(places)])
	if !slices.EqualFunc(second, must, same) {
		t.Fatal(second)
	}
	wantNet(t, n, 0, must...)
	for len(must) > 0 {
		spoil(wantTake(t, n, len(must)/2, must[len(must)/2]).Data)
		must = slices.Delete(must, len(must)/2, len(must)/2+1)
		wantNet(t, n, 0, must...)
	}
	if !same(second[1], message{3, 2, "bbbb"}) {
		t.Fatal(second)
	}
}

// P19.2: what was taken stays as it is, whatever comes and goes behind it.
func TestTakenStays(t *testing.T) {
	n := of(t, some(9)...)
	var taken []net.Message
	for i := range 9 {
		taken = append(taken, wantTake(t, n, 0, some(9)[i]))
		wantPut(t, n, message{7, 7, "other"}, api.OK)
		wantDouble(t, n, n.Len()-1, true)
	}
	if !slices.EqualFunc(taken, some(9), same) {
		t.Fatal(taken)
	}
}

// model is a net as the chapter words it.
type model struct {
	list []message
	lost int
}

// step makes one call of both, and tells whether it was refused.
func step(t *testing.T, r *rand.Rand, n *net.Net, m *model, put int) bool {
	t.Helper()
	i := r.Intn(len(m.list)+4) - 2
	is := i >= 0 && i < len(m.list)
	switch k := r.Intn(100); {
	case k < put:
		one := message{r.Intn(5), r.Intn(5), string(rune('a' + r.Intn(26)))}
		if len(m.list) == most {
			m.lost++
			wantPut(t, n, one, api.ErrFull)
			return true
		}
		wantPut(t, n, one, api.OK)
		m.list = append(m.list, one)
		return false
	case k < put+20:
		ok := is && len(m.list) < most
		wantDouble(t, n, i, ok)
		if ok {
			m.list = append(m.list, m.list[i])
		}
		return !ok
	case !is:
		wantNoTake(t, n, i)
		return true
	}
	wantTake(t, n, i, m.list[i])
	m.list = slices.Delete(m.list, i, i+1)
	return false
}

// P19.1, P19.2: any calls in any order answer what the chapter says, in a net of few messages.
func TestCalls(t *testing.T) {
	r := rand.New(rand.NewSource(19))
	refused := 0
	for range 300 {
		n, m := net.New(), &model{}
		for range 200 {
			if step(t, r, n, m, 31) {
				refused++
			}
			wantNet(t, n, m.lost, m.list...)
		}
	}
	if refused < 5000 {
		t.Error(refused)
	}
}

// P19.1, P19.2: any calls in any order answer what the chapter says, in a net that is full or nearly so.
func TestCallsFull(t *testing.T) {
	r := rand.New(rand.NewSource(20))
	list := some(most - 5)
	n, m := of(t, list...), &model{list: list}
	refused := 0
	for range 10000 {
		if step(t, r, n, m, 40) {
			refused++
		}
		if n.Len() != len(m.list) || n.Lost() != m.lost {
			t.Fatal(n.Len(), n.Lost(), len(m.list), m.lost)
		}
	}
	wantNet(t, n, m.lost, m.list...)
	if refused < 1000 || m.lost < 500 {
		t.Error(refused, m.lost)
	}
}
