// Package slot is layer 1, which slot a key belongs to: see shared/doc/01-slot.md.
package slot

import (
	"strings"
	"sync"

	"grapevine/api"
)

// poly is what is xored in where a bit is shifted out: the divisor without its highest bit.
const poly uint16 = 0x1021

// Hasher sums bytes by a table, which is made once, when it is first needed.
type Hasher struct {
	once  sync.Once
	table [256]uint16 // what a byte in the upper eight bits comes to behind eight shifts
}

// New makes a hasher.
func New() *Hasher { return &Hasher{} }

// fill makes the table; the once alone calls it, so that hashers may be used by many at once.
func (h *Hasher) fill() {
	for i := range h.table {
		h.table[i] = shifted(uint16(i) << 8)
	}
}

// shifted is the remainder behind the eight bits of one byte.
func shifted(sum uint16) uint16 {
	for range 8 {
		high := sum & 0x8000
		sum <<= 1
		if high != 0 {
			sum ^= poly
		}
	}
	return sum
}

// Sum is the sum of bytes.
func (h *Hasher) Sum(b []byte) int { return h.More(0, b) }

// More is the sum of a text and b behind it, of which sum is the text's.
func (h *Hasher) More(sum int, b []byte) int {
	h.once.Do(h.fill)
	s := uint16(sum)
	for _, c := range b {
		// The lower eight bits have no part in what is xored in during a byte's shifts, so one look-up does for all eight.
		s = s<<8 ^ h.table[byte(s>>8)^c]
	}
	return int(s)
}

// Tag is what counts of a key.
func Tag(key string) string {
	_, behind, _ := strings.Cut(key, "{") // without a { nothing is behind it, so nothing is closed either
	tag, _, closed := strings.Cut(behind, "}")
	if closed && tag != "" {
		return tag
	}
	return key
}

// Slot is a key's slot.
func (h *Hasher) Slot(key string) int { return h.Sum([]byte(Tag(key))) % api.Slots }
