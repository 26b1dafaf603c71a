package wire_test

import (
	"bytes"
	"encoding/binary"
	"math/rand"
	"slices"
	"testing"

	"grapevine/api"
	"grapevine/slots"
	"grapevine/wire"
)

// in tells whether a number is from one to another one.
func in(n, from, to int) bool { return from <= n && n <= to }

// right tells whether a packet is right, as the chapter words it.
func right(p wire.Packet) bool {
	seen := map[int]bool{p.From: true}
	for _, e := range p.Section {
		if !in(e.ID, 1, topID) || !in(e.State, well, failed) || seen[e.ID] {
			return false
		}
		seen[e.ID] = true
	}
	speaks, tells := p.Kind == fail || p.Kind == update, p.Kind == update
	switch {
	case !in(p.Kind, ping, ack), !in(p.From, 1, topID), !in(p.Epoch, 0, topEpoch), !in(p.Config, 0, p.Epoch), !in(p.Offset, 0, topOffset):
		return false
	case p.Master != 0 && (!in(p.Master, 1, topID) || p.Master == p.From || p.Slots != 0):
		return false
	case speaks && !in(p.About, 1, topID), !speaks && p.About != 0:
		return false
	case tells && !in(p.AboutConfig, 0, topEpoch), !tells && (p.AboutConfig != 0 || p.AboutSlots != 0):
		return false
	}
	return len(p.Section) <= mostEntries && (len(p.Section) == 0 || p.Kind <= meet)
}

// number is the number of eight bytes at a place.
func number(b []byte, at int) int { return int(binary.BigEndian.Uint64(b[at:])) }

// read is what bytes say, as the chapter words it: error by error.
func read(b []byte) (wire.Packet, api.Errno) {
	var none wire.Packet
	switch {
	case len(b) < 4:
		return none, api.ErrEnd
	case !bytes.Equal(b[:2], []byte{0x47, 0x56}):
		return none, api.ErrForm
	case b[2] != 1 || b[3] < 1 || b[3] > 7:
		return none, api.ErrKind
	case len(b) < 77:
		return none, api.ErrEnd
	case b[76] > mostEntries:
		return none, api.ErrBig
	case len(b) < 79+9*int(b[76]):
		return none, api.ErrEnd
	case len(b) > 79+9*int(b[76]):
		return none, api.ErrForm
	case sum(b[:len(b)-2]) != binary.BigEndian.Uint16(b[len(b)-2:]):
		return none, api.ErrSum
	}
	p := wire.Packet{
		Kind: int(b[3]), From: number(b, 4), Epoch: number(b, 12), Config: number(b, 20), Master: number(b, 28), Slots: slots.Set(number(b, 36)),
		Offset: number(b, 44), About: number(b, 52), AboutConfig: number(b, 60), AboutSlots: slots.Set(number(b, 68)),
	}
	for at := 77; at < len(b)-2; at += 9 {
		p.Section = append(p.Section, wire.Entry{ID: number(b, at), State: int(b[at+8])})
	}
	if !right(p) {
		return none, api.ErrForm
	}
	return p, api.OK
}

// pick is one of some numbers.
func pick(r *rand.Rand, list ...int) int { return list[r.Intn(len(list))] }

// anyOf is mostly one of some numbers, and now and then another one.
func anyOf(r *rand.Rand, right, wrong []int) int {
	if r.Intn(60) == 0 {
		return pick(r, wrong...)
	}
	return pick(r, right...)
}

// anyPacket is mostly one that is right, or nearly so.
func anyPacket(r *rand.Rand) wire.Packet {
	p := wire.Packet{
		Kind:   anyOf(r, kinds, noKinds),
		From:   anyOf(r, ids, noIDs),
		Epoch:  anyOf(r, epochs, noEpochs),
		Config: anyOf(r, epochs[:3], noEpochs),
		Offset: anyOf(r, offsets, noOffsets),
	}
	if p.Epoch > 1000 && r.Intn(2) == 0 {
		p.Config = p.Epoch - r.Intn(3) + r.Intn(2)
	}
	if r.Intn(3) == 0 {
		p.Master = anyOf(r, ids, noIDs)
	}
	if p.Master == 0 || r.Intn(60) == 0 {
		p.Slots = sets[r.Intn(len(sets))]
	}
	if p.Kind == fail || p.Kind == update || r.Intn(60) == 0 {
		p.About = anyOf(r, ids, noIDs)
	}
	if p.Kind == update || r.Intn(60) == 0 {
		p.AboutConfig, p.AboutSlots = anyOf(r, epochs, noEpochs), sets[r.Intn(len(sets))]
	}
	if p.Kind <= meet || r.Intn(60) == 0 {
		for range pick(r, 0, 1, 1, 2, 2, 3, 3, 3, 4) {
			p.Section = append(p.Section, wire.Entry{ID: anyOf(r, ids, noIDs), State: anyOf(r, states, noStates)})
		}
	}
	return p
}

// spoilt are bytes in which something may be another thing; the sum is mostly mended.
func spoilt(r *rand.Rand, b []byte) []byte {
	c := slices.Clone(b)
	for range r.Intn(3) {
		at := r.Intn(len(c))
		if r.Intn(3) == 0 {
			at = pick(r, 0, 1, 2, 3, 76) % len(c)
		}
		c[at] = byte(pick(r, 0, 1, 2, 3, 4, 7, 8, 127, 128, 255))
	}
	if r.Intn(8) > 0 && len(c) >= 2 {
		c = sealed(c[:len(c)-2])
	}
	switch r.Intn(8) {
	case 0:
		c = c[:r.Intn(len(c)+1)]
	case 1:
		c = append(c, make([]byte, r.Intn(20))...)
	}
	return c
}

// P11.1, P11.2: any packets, and any bytes made of theirs, are answered as the chapter says.
func TestCalls(t *testing.T) {
	r := rand.New(rand.NewSource(1))
	told, rights := map[api.Errno]int{}, map[bool]int{}
	for range 60000 {
		p := anyPacket(r)
		is := right(p)
		rights[is]++
		if is {
			wantRight(t, p)
		} else {
			wantWrong(t, p)
		}
		b := spoilt(r, sealed(laid(p)))
		must, e := read(b)
		told[e]++
		if e != api.OK {
			wantRefused(t, b, e)
			continue
		}
		wantRight(t, must)
		if got, e := wire.Decode(b); !same(got, must) || e != api.OK {
			t.Fatalf("Decode(%x) = %+v, %d, want %+v", b, got, e, must)
		}
	}
	for _, e := range []api.Errno{api.OK, api.ErrEnd, api.ErrForm, api.ErrKind, api.ErrBig, api.ErrSum} {
		if told[e] < 100 {
			t.Errorf("%d was answered %d times only", e, told[e])
		}
	}
	if rights[true] < 10000 || rights[false] < 10000 {
		t.Errorf("%v packets were right and wrong", rights)
	}
}

// P11.2: any bytes at all are answered as the chapter says, and nothing panics.
func TestAnyBytes(t *testing.T) {
	r := rand.New(rand.NewSource(2))
	for range 60000 {
		b := make([]byte, r.Intn(130))
		r.Read(b)
		if len(b) > 4 && r.Intn(4) > 0 {
			copy(b, []byte{0x47, 0x56, 0x01, byte(r.Intn(9))})
		}
		if len(b) > 76 && r.Intn(4) > 0 {
			b[76] = byte(r.Intn(5))
		}
		must, e := read(b)
		if got, x := wire.Decode(b); !same(got, must) || x != e {
			t.Fatalf("Decode(%x) = %+v, %d, want %+v, %d", b, got, x, must, e)
		}
	}
}
