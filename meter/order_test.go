package meter_test

import (
	"math/rand"
	"strings"
	"testing"
	"time"

	"grapevine/meter"
)

// call is one call of a meter, with its numbers, what it answered, and when it began and ended.
type call struct {
	name       string
	a, b       int
	n          int
	ok         bool
	begun, end time.Duration
}

// model is what a meter has, where one call comes behind the other.
type model struct {
	counters [meter.Kinds]int
	high     int
	reason   int
	closed   bool
}

// answer is what the call answers of the model, and the model behind it.
func (m model) answer(c call) (int, bool, model) {
	switch c.name {
	case "count":
		if m.closed || c.a < 0 || c.a >= meter.Kinds || c.b < 0 || c.b > atOnce {
			return 0, false, m
		}
		m.counters[c.a] += c.b
		return 0, true, m
	case "mark":
		if m.closed || c.a <= m.high {
			return 0, false, m
		}
		m.high = c.a
		return 0, true, m
	case "get":
		return m.counters[c.a], true, m
	case "high":
		return m.high, true, m
	case "total":
		total := 0
		for _, n := range m.counters {
			total += n
		}
		return total, true, m
	case "close":
		if m.closed {
			return 0, false, m
		}
		m.closed, m.reason = true, c.a
		return 0, true, m
	}
	return m.reason, m.closed, m
}

// ask asks a meter.
func ask(m *meter.Meter, c call) (int, bool) {
	switch c.name {
	case "count":
		return 0, m.Count(c.a, c.b)
	case "mark":
		return 0, m.Mark(c.a)
	case "get":
		return m.Get(c.a), true
	case "high":
		return m.High(), true
	case "total":
		return m.Total(), true
	case "close":
		return 0, m.Close(c.a)
	}
	return m.Closed()
}

// inSomeOrder tells whether there is an order of all calls, none of them ahead of one that had ended when it began, in
// which the model answers what was answered. Each row is one goroutine's calls.
func inSomeOrder(m model, rows [][]call) bool {
	done := true
	for i, row := range rows {
		if len(row) == 0 {
			continue
		}
		done = false
		if isLate(row[0], rows) {
			continue
		}
		n, ok, behind := m.answer(row[0])
		if n != row[0].n || ok != row[0].ok {
			continue
		}
		rest := append([][]call{}, rows...)
		rest[i] = row[1:]
		if inSomeOrder(behind, rest) {
			return true
		}
	}
	return done
}

// isLate tells whether a call that is still to be put in order had ended when this one began.
func isLate(c call, rows [][]call) bool {
	for _, row := range rows {
		if len(row) > 0 && row[0].end < c.begun {
			return true
		}
	}
	return false
}

// someCalls are calls of a few numbers, so that many of them meet.
func someCalls(r *rand.Rand, n int) []call {
	names := strings.Fields("count count count mark mark get get high total total closed closed")
	if r.Intn(2) == 0 {
		names = append(names, "close")
	}
	var list []call
	for range n {
		list = append(list, call{name: names[r.Intn(len(names))], a: r.Intn(3), b: 1 + r.Intn(2)*9})
	}
	return list
}

// P3.4: what many are answered at once, they might have been answered one behind the other.
func TestAsOneBehindTheOther(t *testing.T) {
	r := rand.New(rand.NewSource(4))
	from := time.Now()
	for range 6000 {
		rows := [][]call{someCalls(r, 5), someCalls(r, 5), someCalls(r, 5), someCalls(r, 5)}
		m := meter.New()
		atOneTime(len(rows), func(i int) {
			for k := range rows[i] {
				c := &rows[i][k]
				c.begun = time.Since(from)
				c.n, c.ok = ask(m, *c)
				c.end = time.Since(from)
			}
		})
		if !inSomeOrder(model{}, rows) {
			t.Fatalf("no order: %v", rows)
		}
	}
}

// The look for an order finds none where there is none.
func TestNoOrder(t *testing.T) {
	for _, rows := range [][][]call{
		{{{name: "count", a: 1, b: 5, ok: true}}, {{name: "get", a: 1, n: 4, ok: true}}},
		{{{name: "close", a: 1, ok: true}}, {{name: "close", a: 2, ok: true}}},
		{{{name: "mark", a: 3, ok: true}, {name: "high", n: 0, ok: true}}},
		{{{name: "mark", a: 3, ok: true, begun: 1, end: 2}}, {{name: "high", n: 0, ok: true, begun: 3, end: 4}}},
	} {
		if inSomeOrder(model{}, rows) {
			t.Errorf("an order of %v", rows)
		}
	}
	rows := [][]call{{{name: "mark", a: 3, ok: true, begun: 1, end: 3}}, {{name: "high", n: 0, ok: true, begun: 3, end: 4}}}
	if !inSomeOrder(model{}, rows) {
		t.Errorf("no order of %v", rows)
	}
}
