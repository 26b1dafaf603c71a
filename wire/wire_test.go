package wire_test

import (
	"bytes"
	"encoding/binary"
	"encoding/hex"
	"math"
	"slices"
	"strings"
	"testing"

	"grapevine/api"
	"grapevine/slots"
	"grapevine/wire"
)

// The greatest id, epoch and offset, and how many entries there are at most, written out so that the limits themselves are held too.
const (
	topID       = 4294967296
	topEpoch    = 281474976710656
	topOffset   = 281474976710656
	mostEntries = 3
)

// The kinds and the states, as the chapter numbers them.
const (
	ping, pong, meet, fail, update, ask, ack = 1, 2, 3, 4, 5, 6, 7
	well, suspect, failed                    = 0, 1, 2
)

// all are all slots.
const all slots.Set = math.MaxUint64

// Numbers at all limits: those that are something, and those that are none.
var (
	kinds     = []int{ping, pong, meet, fail, update, ask, ack}
	noKinds   = []int{math.MinInt, -255, -2, -1, 0, 8, 9, 128, 255, 256, 257, 263, 512 + 1, math.MaxInt}
	ids       = []int{1, 2, 3, 255, 256, 1<<31 - 1, 1 << 31, topID - 1, topID}
	noIDs     = []int{math.MinInt, math.MinInt + 1, -topID, -2, -1, 0, topID + 1, topID + 2, 2 * topID, math.MaxInt - 1, math.MaxInt}
	epochs    = []int{0, 1, 2, 255, 256, 1 << 32, topEpoch - 1, topEpoch}
	noEpochs  = []int{math.MinInt, math.MinInt + 1, -topEpoch, -2, -1, topEpoch + 1, topEpoch + 2, 2 * topEpoch, math.MaxInt - 1, math.MaxInt}
	offsets   = []int{0, 1, 2, 255, 256, 1 << 32, topOffset - 1, topOffset}
	noOffsets = []int{math.MinInt, math.MinInt + 1, -topOffset, -2, -1, topOffset + 1, topOffset + 2, 2 * topOffset, math.MaxInt - 1, math.MaxInt}
	states    = []int{well, suspect, failed}
	noStates  = []int{math.MinInt, -256, -2, -1, 3, 4, 128, 255, 256, 257, 258, math.MaxInt}
	sets      = []slots.Set{0, 1, 2, 3, 1 << 31, 1 << 32, 1<<63 - 1, 1 << 63, 1<<63 | 1, all - 1, all}
)

// spare is a packet that is right, with nothing but what its kind needs.
func spare(kind int) wire.Packet {
	p := wire.Packet{Kind: kind, From: 9}
	if kind == fail || kind == update {
		p.About = 8
	}
	return p
}

// full is a packet that is right, with all that its kind may have.
func full(kind int) wire.Packet {
	p := wire.Packet{Kind: kind, From: 9, Epoch: 1000, Config: 700, Slots: 0b1101, Offset: 12345}
	if kind == fail || kind == update {
		p.About = 8
	}
	if kind == update {
		p.AboutConfig, p.AboutSlots = 2000, 0b10010
	}
	if kind <= meet {
		p.Section = []wire.Entry{{5, failed}, {3, well}, {7, suspect}}
	}
	return p
}

// same tells whether two packets are the same.
func same(p, q wire.Packet) bool {
	return slices.Equal(p.Section, q.Section) && slices.Equal(numbers(p), numbers(q)) && p.Kind == q.Kind
}

// numbers are a packet's numbers of eight bytes, in their order.
func numbers(p wire.Packet) []uint64 {
	return []uint64{uint64(p.From), uint64(p.Epoch), uint64(p.Config), uint64(p.Master), uint64(p.Slots), uint64(p.Offset), uint64(p.About), uint64(p.AboutConfig), uint64(p.AboutSlots)}
}

// laid are a packet's bytes as the chapter words them, be it right or not, without the sum.
func laid(p wire.Packet) []byte {
	b := []byte{0x47, 0x56, 0x01, byte(p.Kind)}
	for _, n := range numbers(p) {
		b = binary.BigEndian.AppendUint64(b, n)
	}
	b = append(b, byte(len(p.Section)))
	for _, e := range p.Section {
		b = append(binary.BigEndian.AppendUint64(b, uint64(e.ID)), byte(e.State))
	}
	return b
}

// sum is layer 1's sum, bit by bit.
func sum(b []byte) uint16 {
	var s uint16
	for _, c := range b {
		s ^= uint16(c) << 8
		for range 8 {
			if s >= 0x8000 {
				s = s<<1 ^ 0x1021
			} else {
				s <<= 1
			}
		}
	}
	return s
}

// sealed are bytes with their sum behind them, in new memory.
func sealed(b []byte) []byte { return binary.BigEndian.AppendUint16(slices.Clone(b), sum(b)) }

// fits tells whether bytes can say what a packet says, so that reading them must tell the same of it.
func fits(p wire.Packet) bool {
	for _, e := range p.Section {
		if e.State != e.State&0xff {
			return false
		}
	}
	return p.Kind >= ping && p.Kind <= ack && len(p.Section) <= mostEntries
}

// wantRight holds that a packet is right, is written as the chapter says, and read back.
func wantRight(t *testing.T, p wire.Packet) {
	t.Helper()
	if !p.Right() {
		t.Fatalf("Right of %+v = false", p)
	}
	must := sealed(laid(p))
	if b, e := wire.Encode(p); !bytes.Equal(b, must) || e != api.OK {
		t.Fatalf("Encode(%+v) = %x, %d, want %x", p, b, e, must)
	}
	if q, e := wire.Decode(must); !same(p, q) || e != api.OK {
		t.Fatalf("Decode(%x) = %+v, %d, want %+v", must, q, e, p)
	}
}

// wantWrong holds that a packet isn't right, isn't written, and isn't read where bytes can say it.
func wantWrong(t *testing.T, p wire.Packet) {
	t.Helper()
	if p.Right() {
		t.Fatalf("Right of %+v = true", p)
	}
	if b, e := wire.Encode(p); len(b) != 0 || e != api.ErrForm {
		t.Fatalf("Encode(%+v) = %x, %d, want nothing, %d", p, b, e, api.ErrForm)
	}
	if fits(p) {
		wantRefused(t, sealed(laid(p)), api.ErrForm)
	}
}

// wantRefused holds that bytes are no packet's.
func wantRefused(t *testing.T, b []byte, must api.Errno) {
	t.Helper()
	if p, e := wire.Decode(b); !same(p, wire.Packet{}) || e != must {
		t.Fatalf("Decode(%x) = %+v, %d, want nothing, %d", b, p, e, must)
	}
}

// wantEach holds of a packet with another number at one place whether it is right.
func wantEach(t *testing.T, p wire.Packet, right, wrong []int, at func(p *wire.Packet) *int) {
	t.Helper()
	for _, n := range right {
		*at(&p) = n
		wantRight(t, p)
	}
	for _, n := range wrong {
		*at(&p) = n
		wantWrong(t, p)
	}
}

// P11.1, P11.2: a packet of each kind is right, with all that it may have and without.
func TestKinds(t *testing.T) {
	for _, kind := range kinds {
		wantRight(t, spare(kind))
		wantRight(t, full(kind))
	}
}

// P11.1: of what is no kind no packet is right, and none is written by the last byte of its number.
func TestNoKinds(t *testing.T) {
	for _, kind := range noKinds {
		for _, p := range []wire.Packet{spare(ping), spare(fail), spare(update), full(ping), full(update), full(ack)} {
			p.Kind = kind
			wantWrong(t, p)
		}
	}
	wantWrong(t, wire.Packet{})
}

// P11.1, P11.2: From is an id.
func TestFrom(t *testing.T) {
	for _, kind := range kinds {
		p := full(kind)
		p.Section = nil
		wantEach(t, p, ids, noIDs, func(p *wire.Packet) *int { return &p.From })
	}
}

// P11.1, P11.2: Epoch is an epoch, and Config one up to it.
func TestEpochs(t *testing.T) {
	for _, kind := range kinds {
		p := spare(kind)
		wantEach(t, p, epochs, noEpochs, func(p *wire.Packet) *int { return &p.Epoch })
		for _, epoch := range epochs {
			p.Epoch = epoch
			right := slices.DeleteFunc(append([]int{epoch, max(epoch-1, 0)}, epochs...), func(n int) bool { return n > epoch })
			wrong := slices.DeleteFunc(append([]int{epoch + 1, epoch + 2}, epochs...), func(n int) bool { return n <= epoch })
			wantEach(t, p, right, slices.Concat(wrong, noEpochs), func(p *wire.Packet) *int { return &p.Config })
		}
		p = spare(kind)
		for _, n := range noEpochs {
			p.Epoch, p.Config = n, n
			wantWrong(t, p)
		}
	}
}

// P11.1, P11.2: Master is 0 or another id than From.
func TestMaster(t *testing.T) {
	for _, kind := range kinds {
		for _, from := range ids {
			p := spare(kind)
			p.From = from
			right := append([]int{0}, ids...)
			right = slices.DeleteFunc(right, func(n int) bool { return n == from })
			wrong := slices.DeleteFunc(slices.Clone(noIDs), func(n int) bool { return n == 0 })
			wantEach(t, p, right, append(wrong, from), func(p *wire.Packet) *int { return &p.Master })
		}
	}
}

// P11.1, P11.2: a master has any slots, and a replica none; its offset and whom it speaks of may be as a master's.
func TestSlots(t *testing.T) {
	for _, kind := range kinds {
		for _, set := range sets {
			p := full(kind)
			p.Slots = set
			wantRight(t, p)
			p.Master = 4
			if set == 0 {
				wantRight(t, p)
			} else {
				wantWrong(t, p)
			}
		}
	}
}

// P11.1, P11.2: Offset is from 0 to MaxOffset.
func TestOffset(t *testing.T) {
	for _, kind := range kinds {
		wantEach(t, full(kind), offsets, noOffsets, func(p *wire.Packet) *int { return &p.Offset })
	}
}

// P11.1, P11.2: About is an id of fail and update, be it who sends, and else 0.
func TestAbout(t *testing.T) {
	about := func(p *wire.Packet) *int { return &p.About }
	for _, kind := range kinds {
		if kind == fail || kind == update {
			wantEach(t, full(kind), append([]int{9}, ids...), noIDs, about)
			continue
		}
		wantEach(t, full(kind), []int{0}, slices.Concat(ids, noIDs[:5], noIDs[6:]), about)
	}
}

// P11.1, P11.2: AboutConfig is an epoch of update, be it above the sender's own, and else 0.
func TestAboutConfig(t *testing.T) {
	for _, kind := range kinds {
		right, wrong := epochs[:1], slices.Concat(epochs[1:], noEpochs)
		if kind == update {
			right, wrong = epochs, noEpochs
		}
		for _, p := range []wire.Packet{full(kind), spare(kind)} {
			wantEach(t, p, right, wrong, func(p *wire.Packet) *int { return &p.AboutConfig })
		}
	}
}

// P11.1, P11.2: AboutSlots are any of update, and else 0.
func TestAboutSlots(t *testing.T) {
	for _, kind := range kinds {
		for _, set := range sets {
			for _, p := range []wire.Packet{full(kind), spare(kind)} {
				p.AboutSlots = set
				if kind == update || set == 0 {
					wantRight(t, p)
				} else {
					wantWrong(t, p)
				}
			}
		}
	}
}

// many are as many entries, of unlike ids.
func many(n int) []wire.Entry {
	list := make([]wire.Entry, n)
	for i := range list {
		list[i] = wire.Entry{ID: 1000 - i, State: i % 3}
	}
	return list
}

// P11.1, P11.2: ping, pong and meet have a section of three entries at most, and no other kind has one.
func TestSectionSize(t *testing.T) {
	for _, kind := range kinds {
		for _, n := range []int{0, 1, 2, 3, 4, 5, 16, 255, 256, 257, 258, 512} {
			p := full(kind)
			p.Section = many(n)
			if n == 0 || n <= mostEntries && kind <= meet {
				wantRight(t, p)
			} else {
				wantWrong(t, p)
			}
		}
	}
}

// P11.1, P11.2: at each place of a section there is an id with a state.
func TestEntries(t *testing.T) {
	for _, kind := range []int{ping, pong, meet} {
		for n := 1; n <= mostEntries; n++ {
			for i := range n {
				p := full(kind)
				p.Section = many(n)
				wantEach(t, p, states, noStates, func(p *wire.Packet) *int { return &p.Section[i].State })
				p.Section = many(n)
				wantEach(t, p, ids, noIDs, func(p *wire.Packet) *int { return &p.Section[i].ID })
			}
		}
	}
}

// P11.1, P11.2: no entry is of who sends, and no two are of one, in whatever state; of the sender's master one may be.
func TestEntriesOfUnlikeIDs(t *testing.T) {
	for _, kind := range []int{ping, pong, meet} {
		for n := 1; n <= mostEntries; n++ {
			for i := range n {
				p := full(kind)
				p.Section = many(n)
				p.Section[i].ID = p.From
				wantWrong(t, p)
				for j := range i {
					p.Section = many(n)
					p.Section[i].ID = p.Section[j].ID
					wantWrong(t, p)
					p.Section[i] = p.Section[j]
					wantWrong(t, p)
				}
				p.Section = many(n)
				p.Slots, p.Master = 0, p.Section[i].ID
				wantRight(t, p)
			}
		}
	}
}

// P11.1, P11.2: the numbers stand in their order, each in eight bytes, the highest first, and the entries behind them as they came.
func TestLayout(t *testing.T) {
	p := wire.Packet{
		Kind: pong, From: 0x01020304, Epoch: 0x112233445566 >> 8, Config: 0x0a0b0c0d0e, Slots: 0x8182838485868788, Offset: 0x212223242526,
		Section: []wire.Entry{{0x51525354, failed}, {0x41424344, well}, {topID, suspect}},
	}
	want(t, p, "475601 02 0000000001020304 0000001122334455 0000000a0b0c0d0e 0000000000000000 8182838485868788 0000212223242526 0000000000000000 0000000000000000 0000000000000000 03 000000005152535402 000000004142434400 000000010000000001")
	q := wire.Packet{
		Kind: update, From: 0x01020304, Epoch: topEpoch, Config: topEpoch, Master: 0x31323334, Offset: topOffset,
		About: 0x61626364, AboutConfig: 0x717273747576, AboutSlots: 0xf1f2f3f4f5f6f7f8,
	}
	want(t, q, "475601 05 0000000001020304 0001000000000000 0001000000000000 0000000031323334 0000000000000000 0001000000000000 0000000061626364 0000717273747576 f1f2f3f4f5f6f7f8 00")
}

// want holds a packet's bytes, of which the sum isn't written out, both ways.
func want(t *testing.T, p wire.Packet, digits string) {
	t.Helper()
	must, err := hex.DecodeString(strings.ReplaceAll(digits, " ", ""))
	if err != nil {
		t.Fatal(err)
	}
	must = sealed(must)
	if b, e := wire.Encode(p); !bytes.Equal(b, must) || e != api.OK {
		t.Errorf("Encode(%+v) = %x, %d, want %x", p, b, e, must)
	}
	if q, e := wire.Decode(must); !same(p, q) || e != api.OK {
		t.Errorf("Decode(%x) = %+v, %d, want %+v", must, q, e, p)
	}
}

// P11.2: of too few bytes ErrEnd is told, of those that must be there first, those whose number the head says, and all others.
func TestBytesLack(t *testing.T) {
	wantRefused(t, nil, api.ErrEnd)
	for _, kind := range kinds {
		for n := 0; n <= mostEntries && (n == 0 || kind <= meet); n++ {
			p := full(kind)
			p.Section = many(n)
			b := sealed(laid(p))
			for k := range b {
				wantRefused(t, b[:k], api.ErrEnd)
				wantRefused(t, b[:k:k], api.ErrEnd)
			}
		}
	}
	wantRefused(t, []byte{1, 2, 3}, api.ErrEnd)       // ahead of what the first bytes are
	wantRefused(t, []byte{0x47, 0x56, 2}, api.ErrEnd) // the third too
}

// P11.2: of too many bytes ErrForm is told, be the sum one of all or not.
func TestBytesLeftOver(t *testing.T) {
	for _, kind := range kinds {
		for _, p := range []wire.Packet{spare(kind), full(kind)} {
			for _, more := range []int{1, 2, 9, 1000} {
				wantRefused(t, append(sealed(laid(p)), make([]byte, more)...), api.ErrForm)
				wantRefused(t, sealed(append(laid(p), make([]byte, more)...)), api.ErrForm)
			}
		}
	}
}

// P11.2: the first three bytes are what they are, and the fourth is a kind.
func TestHead(t *testing.T) {
	for _, p := range []wire.Packet{spare(ping), full(update)} {
		for at, right := range []byte{0x47, 0x56, 0x01} {
			for c := range 256 {
				if byte(c) == right {
					continue
				}
				b := laid(p)
				b[at] = byte(c)
				must := api.ErrForm
				if at == 2 {
					must = api.ErrKind
				}
				wantRefused(t, sealed(b), must)
				wantRefused(t, b[:4], must)
			}
		}
		for c := range 256 {
			if c < ping || c > ack {
				b := laid(p)
				b[3] = byte(c)
				wantRefused(t, sealed(b), api.ErrKind)
				wantRefused(t, b[:4], api.ErrKind)
			}
		}
	}
}

// P11.2: more than three entries are too many, be their bytes there or not.
func TestTooManyEntries(t *testing.T) {
	for n := mostEntries + 1; n < 256; n++ {
		p := full(ping)
		p.Section = many(n)
		b := sealed(laid(p))
		wantRefused(t, b, api.ErrBig)
		wantRefused(t, b[:77], api.ErrBig)
		wantRefused(t, b[:79], api.ErrBig)
		wantRefused(t, append(b, 0), api.ErrBig)
		wantRefused(t, b[:76], api.ErrEnd)
	}
}

// P11.2: each sum but the right one is told.
func TestSums(t *testing.T) {
	for _, kind := range kinds {
		b := sealed(laid(full(kind)))
		right := sum(b[:len(b)-2])
		for s := range 1 << 16 {
			if binary.BigEndian.PutUint16(b[len(b)-2:], uint16(s)); uint16(s) != right {
				wantRefused(t, b, api.ErrSum)
			}
		}
	}
}

// P11.2: each bit that is another one behind the head is told by the sum, and ahead of whether the packet is right.
func TestBits(t *testing.T) {
	for _, kind := range kinds {
		b := sealed(laid(full(kind)))
		for at := 4; at < len(b); at++ {
			if at == 76 { // how many entries there are is told ahead of the sum
				continue
			}
			for bit := range 8 {
				b[at] ^= 1 << bit
				wantRefused(t, b, api.ErrSum)
				b[at] ^= 1 << bit
			}
		}
		if _, e := wire.Decode(b); e != api.OK {
			t.Fatalf("Decode(%x) = %d", b, e)
		}
	}
}

// P11.2: of a packet that isn't right ErrForm is told where the sum is right, and ErrSum where it isn't.
func TestWrongPackets(t *testing.T) {
	for _, kind := range kinds {
		p := spare(kind)
		p.Config = 1
		b := sealed(laid(p))
		wantRefused(t, b, api.ErrForm)
		b[len(b)-1] ^= 1
		wantRefused(t, b, api.ErrSum)
	}
}

// P11.2: a number above 2^63 - 1 makes no packet, whatever its other bytes say, but a set of slots may be one.
func TestNumbersAboveAll(t *testing.T) {
	for _, kind := range kinds {
		b := laid(full(kind))
		for at := 4; at < 76; at += 8 {
			for _, high := range []byte{0x80, 0xff} {
				c := slices.Clone(b)
				c[at] = high
				if at == 4+4*8 || at == 4+8*8 && kind == update {
					if p, e := wire.Decode(sealed(c)); e != api.OK || !bytes.Equal(laid(p), c) {
						t.Errorf("Decode(%x) = %+v, %d", c, p, e)
					}
					continue
				}
				wantRefused(t, sealed(c), api.ErrForm)
			}
		}
		for at := 77; at < len(b); at += 9 {
			for _, high := range []byte{0x01, 0x80, 0xff} {
				c := slices.Clone(b)
				c[at] = high
				wantRefused(t, sealed(c), api.ErrForm)
			}
		}
	}
}

// P11.2: of several errors the first one is told: ErrEnd, ErrForm, ErrKind, ErrEnd, ErrBig, ErrEnd, ErrForm, ErrSum, ErrForm.
func TestErrorsInOrder(t *testing.T) {
	b := make([]byte, 79)
	b[3], b[76] = 8, 4
	for _, step := range []struct {
		n    int // how many bytes there are
		mend func()
		must api.Errno
	}{
		{3, func() {}, api.ErrEnd},
		{4, func() {}, api.ErrForm},
		{4, func() { b[0] = 0x47 }, api.ErrForm},
		{4, func() { b[1] = 0x56 }, api.ErrKind},
		{4, func() { b[2] = 0x01 }, api.ErrKind},
		{4, func() { b[3] = ping }, api.ErrEnd},
		{76, func() {}, api.ErrEnd},
		{77, func() {}, api.ErrBig},
		{78, func() { b[76] = 0 }, api.ErrEnd},
		{79, func() { b = append(b, 1) }, api.ErrSum},
		{80, func() {}, api.ErrForm},
		{79, func() { b[78]++ }, api.ErrSum},
		{79, func() { b = sealed(b[:77]) }, api.ErrForm}, // From is 0
	} {
		step.mend()
		wantRefused(t, b[:step.n], step.must)
	}
	b[11] = 1
	b = sealed(b[:77])
	if p, e := wire.Decode(b); e != api.OK || !same(p, wire.Packet{Kind: ping, From: 1}) {
		t.Errorf("Decode(%x) = %+v, %d", b, p, e)
	}
}

// P11.1, P11.2: what is handed in stays as it was, its spare room too.
func TestArgumentsStay(t *testing.T) {
	room := []wire.Entry{{5, failed}, {3, well}, {77, 77}}
	p := full(ping)
	p.Section = room[:2]
	b, e := wire.Encode(p)
	if e != api.OK || !p.Right() || !slices.Equal(room, []wire.Entry{{5, failed}, {3, well}, {77, 77}}) {
		t.Fatalf("Encode = %d, and left %v", e, room)
	}
	bad := full(ping)
	bad.Section = room
	wantWrong(t, bad)
	long := append(slices.Clone(b), 1, 2, 3, 4)
	before := slices.Clone(long)
	if q, e := wire.Decode(long[:len(b)]); e != api.OK || !same(p, q) || !bytes.Equal(long, before) {
		t.Fatalf("Decode = %+v, %d, and left %x of %x", q, e, long, before)
	}
	for n := range long {
		wire.Decode(long[:n])
	}
	if !bytes.Equal(long, before) {
		t.Errorf("Decode left %x of %x", long, before)
	}
}

// P11.1, P11.2: what is told is new memory each time, its spare room too.
func TestAnswersAreNew(t *testing.T) {
	p := full(meet)
	b, _ := wire.Encode(p)
	other, _ := wire.Encode(p)
	b = b[:cap(b)]
	clear(b)
	if must := sealed(laid(p)); !bytes.Equal(other, must) {
		t.Fatalf("two answers of Encode share memory: %x", other)
	}
	p.Section[0] = wire.Entry{ID: 77}
	if must := sealed(laid(full(meet))); !bytes.Equal(other, must) {
		t.Fatalf("an answer of Encode shares memory with the packet: %x", other)
	}
	q, _ := wire.Decode(other)
	r, _ := wire.Decode(other)
	clear(other)
	room := q.Section[:cap(q.Section)]
	for i := range room {
		room[i] = wire.Entry{ID: 77}
	}
	if !same(r, full(meet)) || slices.Contains(r.Section[:cap(r.Section)], wire.Entry{ID: 77}) {
		t.Errorf("two answers of Decode share memory: %+v", r)
	}
}

// P11.1, P11.2: an empty section is one that isn't there.
func TestEmptySection(t *testing.T) {
	for _, kind := range kinds {
		p, q := spare(kind), spare(kind)
		q.Section = make([]wire.Entry, 0, 5)
		wantRight(t, q)
		b, _ := wire.Encode(p)
		c, _ := wire.Encode(q)
		if !bytes.Equal(b, c) {
			t.Errorf("Encode(%+v) = %x, want %x", q, c, b)
		}
	}
}

// P11.1, P11.2: the example of the chapter, and its sum.
func TestExample(t *testing.T) {
	b, e := wire.Encode(wire.Packet{Kind: ask, From: 1, Epoch: 5})
	must := make([]byte, 79)
	copy(must, []byte{0x47, 0x56, 0x01, 0x06, 0, 0, 0, 0, 0, 0, 0, 1, 0, 0, 0, 0, 0, 0, 0, 5})
	must[77], must[78] = 0xca, 0xf0
	if !bytes.Equal(b, must) || e != api.OK {
		t.Errorf("Encode = %x, %d, want %x", b, e, must)
	}
	if p, e := wire.Decode(must); e != api.OK || !same(p, wire.Packet{Kind: ask, From: 1, Epoch: 5}) {
		t.Errorf("Decode = %+v, %d", p, e)
	}
}
