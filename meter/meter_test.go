package meter_test

import (
	"math"
	"runtime"
	"sync"
	"sync/atomic"
	"testing"

	"grapevine/meter"
)

const (
	atOnce = 1 << 32 // the most that may be counted in one call
	most   = 1 << 62 // the most that a counter has
)

// noKinds are numbers that no counter has.
var noKinds = []int{math.MinInt, -1 << 32, -16, -1, 16, 17, 32, 1 << 32, math.MaxInt}

// wantCounters holds all counters, and all of them together, against what they are to have; the others are to have 0.
func wantCounters(t *testing.T, m *meter.Meter, want map[int]int) {
	t.Helper()
	total := 0
	for kind := range meter.Kinds {
		total += want[kind]
		if got := m.Get(kind); got != want[kind] {
			t.Errorf("Get(%d) = %d, want %d", kind, got, want[kind])
		}
	}
	if got := m.Total(); got != total {
		t.Errorf("Total = %d, want %d", got, total)
	}
}

// wantOpen wants that a meter isn't closed.
func wantOpen(t *testing.T, m *meter.Meter) {
	t.Helper()
	if reason, closed := m.Closed(); reason != 0 || closed {
		t.Errorf("Closed = %d, %v, want 0, false", reason, closed)
	}
}

// wantClosed wants that a meter is closed for a reason.
func wantClosed(t *testing.T, m *meter.Meter, want int) {
	t.Helper()
	if reason, closed := m.Closed(); reason != want || !closed {
		t.Errorf("Closed = %d, %v, want %d, true", reason, closed, want)
	}
}

// P3.1, P3.2, P3.3: a new meter has 0 everywhere and isn't closed; and it is one of its own.
func TestNew(t *testing.T) {
	if meter.Kinds != 16 {
		t.Errorf("Kinds = %d", meter.Kinds)
	}
	one, other := meter.New(), meter.New()
	if one == nil || other == nil || one == other {
		t.Fatal("New doesn't make meters")
	}
	wantCounters(t, one, nil)
	wantOpen(t, one)
	if one.High() != 0 {
		t.Errorf("High = %d", one.High())
	}
	one.Count(3, 4)
	one.Mark(5)
	one.Close(6)
	wantCounters(t, other, nil)
	wantOpen(t, other)
	if other.High() != 0 {
		t.Errorf("High = %d, as another meter was marked", other.High())
	}
}

// P3.1: each counter counts for itself, and Total counts all.
func TestCount(t *testing.T) {
	m := meter.New()
	want := map[int]int{}
	for round := range 3 {
		for kind := range meter.Kinds {
			n := 1000*kind + round + 1
			if !m.Count(kind, n) {
				t.Errorf("Count(%d, %d) is refused", kind, n)
			}
			want[kind] += n
			wantCounters(t, m, want)
		}
	}
	if m.High() != 0 {
		t.Errorf("High = %d, as was counted", m.High())
	}
	wantOpen(t, m)
}

// P3.1: the example of the chapter.
func TestCountExample(t *testing.T) {
	m := meter.New()
	if !m.Count(2, 5) || !m.Count(2, 1) {
		t.Error("Count is refused")
	}
	wantCounters(t, m, map[int]int{2: 6})
}

// P3.1: from 0 to 2^32 may be counted in one call, and nothing else.
func TestCountOfEachNumber(t *testing.T) {
	m := meter.New()
	want := map[int]int{}
	for _, n := range []int{0, 1, 2, atOnce - 1, atOnce, 0} {
		if !m.Count(7, n) {
			t.Errorf("Count(7, %d) is refused", n)
		}
		want[7] += n
		wantCounters(t, m, want)
	}
	for _, n := range []int{-1, -2, math.MinInt, -atOnce, atOnce + 1, most, math.MaxInt} {
		if m.Count(7, n) {
			t.Errorf("Count(7, %d) is taken", n)
		}
		wantCounters(t, m, want)
	}
}

// P3.1: of no counter nothing is counted, and it has 0.
func TestNoCounter(t *testing.T) {
	m := meter.New()
	want := map[int]int{}
	for kind := range meter.Kinds {
		m.Count(kind, kind+1)
		want[kind] = kind + 1
	}
	for _, kind := range noKinds {
		for _, n := range []int{0, 1, atOnce} {
			if m.Count(kind, n) {
				t.Errorf("Count(%d, %d) is taken", kind, n)
			}
		}
		if got := m.Get(kind); got != 0 {
			t.Errorf("Get(%d) = %d", kind, got)
		}
	}
	wantCounters(t, m, want)
}

// P3.1: a counter has at most 2^62, and Count answers true all the same.
func TestCountToTheMost(t *testing.T) {
	for _, c := range []struct{ has, n, want int }{
		{most - 2, 1, most - 1},
		{most - 2, 2, most},
		{most - 2, 3, most},
		{most - 1, atOnce, most},
		{most - atOnce, atOnce, most},
		{most - atOnce, atOnce - 1, most - 1},
		{most - atOnce - 1, atOnce, most - 1},
		{most, 0, most},
		{most, 1, most},
		{most, atOnce, most},
	} {
		m := meter.New()
		m.Fill(5, int64(c.has))
		if !m.Count(5, c.n) {
			t.Errorf("Count of %d is refused at %d", c.n, c.has)
		}
		if got := m.Get(5); got != c.want {
			t.Errorf("Count of %d at %d: Get = %d, want %d", c.n, c.has, got, c.want)
		}
		if got := m.Total(); got != c.want {
			t.Errorf("Count of %d at %d: Total = %d, want %d", c.n, c.has, got, c.want)
		}
	}
}

// P3.1: all together are at most 2^62, however many counters have the most.
func TestTotalToTheMost(t *testing.T) {
	for full := 1; full <= meter.Kinds; full++ {
		m := meter.New()
		for kind := range full {
			m.Fill(kind, most)
			m.Count(kind, atOnce)
		}
		if full < meter.Kinds {
			m.Count(full, 9)
		}
		if got := m.Total(); got != most {
			t.Errorf("%d counters have the most: Total = %d, want %d", full, got, most)
		}
	}
	for more, want := range map[int]int{0: most - 1, 1: most, 2: most} {
		m := meter.New()
		m.Fill(0, most/2)
		m.Fill(15, most/2-1)
		m.Count(8, more)
		if got := m.Total(); got != want {
			t.Errorf("2^62 - 1 and %d more: Total = %d, want %d", more, got, want)
		}
	}
}

// P3.2: only what is above the greatest mark is marked.
func TestMark(t *testing.T) {
	m := meter.New()
	for _, c := range []struct {
		n    int
		want bool
		high int
	}{
		{0, false, 0},
		{-1, false, 0},
		{math.MinInt, false, 0},
		{1, true, 1},
		{1, false, 1},
		{0, false, 1},
		{3, true, 3},
		{2, false, 3},
		{3, false, 3},
		{4, true, 4},
		{-5, false, 4},
		{atOnce + 1, true, atOnce + 1},
		{atOnce, false, atOnce + 1},
		{most, true, most},
		{most + 1, true, most + 1},
		{math.MaxInt - 1, true, math.MaxInt - 1},
		{math.MaxInt, true, math.MaxInt},
		{math.MaxInt, false, math.MaxInt},
		{math.MinInt, false, math.MaxInt},
	} {
		if got := m.Mark(c.n); got != c.want {
			t.Errorf("Mark(%d) = %v, want %v", c.n, got, c.want)
		}
		if got := m.High(); got != c.high {
			t.Errorf("behind Mark(%d): High = %d, want %d", c.n, got, c.high)
		}
	}
	wantCounters(t, m, nil)
	wantOpen(t, m)
}

// P3.3: the first Close closes, for its reason, whichever number that is; the ones behind it change nothing.
func TestClose(t *testing.T) {
	for _, reason := range []int{7, 0, 1, -1, math.MinInt, math.MaxInt} {
		m := meter.New()
		wantOpen(t, m)
		if !m.Close(reason) {
			t.Errorf("the first Close(%d) = false", reason)
		}
		wantClosed(t, m, reason)
		for _, other := range []int{8, 0, reason} {
			if m.Close(other) {
				t.Errorf("Close(%d) = true behind Close(%d)", other, reason)
			}
			wantClosed(t, m, reason)
		}
	}
}

// P3.1, P3.2, P3.3: a closed meter counts and marks nothing, and what it has stays to be asked for.
func TestClosedStays(t *testing.T) {
	m := meter.New()
	m.Count(0, 1)
	m.Count(15, atOnce)
	m.Mark(3)
	m.Close(0)
	want := map[int]int{0: 1, 15: atOnce}
	for _, n := range []int{0, 1, atOnce, -1, atOnce + 1} {
		for kind := -1; kind <= meter.Kinds; kind++ {
			if m.Count(kind, n) {
				t.Errorf("Count(%d, %d) is taken of a closed meter", kind, n)
			}
		}
	}
	for _, n := range []int{-1, 0, 2, 3, 4, math.MaxInt} {
		if m.Mark(n) {
			t.Errorf("Mark(%d) is taken of a closed meter", n)
		}
	}
	wantCounters(t, m, want)
	if m.High() != 3 {
		t.Errorf("High = %d, want 3", m.High())
	}
	wantClosed(t, m, 0)
}

// atOneTime runs a function in n goroutines that begin when all of them are there, and waits for all of them.
func atOneTime(n int, run func(i int)) {
	var there atomic.Int64
	var all sync.WaitGroup
	for i := range n {
		all.Go(func() {
			// A channel would wake one behind the other, and the first would be done ahead of the last.
			for there.Add(1); there.Load() < int64(n); {
				runtime.Gosched()
			}
			run(i)
		})
	}
	all.Wait()
}

// P3.4: nothing that many count is lost, be it of one counter or of all.
func TestManyCount(t *testing.T) {
	m := meter.New()
	atOneTime(12, func(i int) {
		for n := range 40000 {
			if !m.Count(9, 1) || !m.Count((i+n)%meter.Kinds, 2) {
				t.Error("Count is refused")
			}
		}
	})
	want := map[int]int{}
	for kind := range meter.Kinds {
		want[kind] = 12 * 40000 * 2 / meter.Kinds
	}
	want[9] += 12 * 40000
	wantCounters(t, m, want)
}

// P3.4: many count one counter up to the most, and not above it.
func TestManyCountToTheMost(t *testing.T) {
	m := meter.New()
	m.Fill(1, most-100*atOnce)
	atOneTime(8, func(i int) {
		for range 50 {
			if !m.Count(1, atOnce) {
				t.Error("Count is refused")
			}
			if m.Get(1) > most || m.Total() > most {
				t.Error("more than the most")
			}
		}
	})
	wantCounters(t, m, map[int]int{1: most})
}

// P3.4: where many mark the same numbers, each number is above the greatest mark for at most one of them, and the greatest for one.
func TestManyMark(t *testing.T) {
	for range 200 {
		m := meter.New()
		var marked [8][41]bool
		atOneTime(8, func(i int) {
			for n := range 41 {
				marked[i][n] = m.Mark(n)
				if m.High() < n {
					t.Error("the greatest mark is below what was marked")
				}
			}
		})
		for n := range 41 {
			times := 0
			for i := range marked {
				if marked[i][n] {
					times++
				}
			}
			if times > 1 || times == 0 && n == 40 {
				t.Fatalf("Mark(%d) was taken %d times", n, times)
			}
		}
		if m.High() != 40 {
			t.Fatalf("High = %d, want 40", m.High())
		}
	}
}

// P3.4: where many close, one of them closes, and behind his Close each of them sees his reason.
func TestManyClose(t *testing.T) {
	for range 2000 {
		m := meter.New()
		var first [8]bool
		var saw [8]int
		atOneTime(8, func(i int) {
			first[i] = m.Close(100 + i)
			reason, closed := m.Closed()
			if !closed {
				t.Error("open behind a Close")
			}
			saw[i] = reason
		})
		reason, closed := m.Closed()
		times := 0
		for i := range first {
			if first[i] {
				times++
			}
			if first[i] != (reason == 100+i) || saw[i] != reason {
				t.Fatalf("Close(%d) = %v, and then the reason %d; at last it is %d", 100+i, first[i], saw[i], reason)
			}
		}
		if times != 1 || !closed {
			t.Fatalf("%d calls closed", times)
		}
	}
}

// P3.4: behind a Close nothing is counted or marked any more by those who were at it.
func TestCloseAmongMany(t *testing.T) {
	for round := range 4000 {
		m := meter.New()
		var counted, marked [6]int
		var total, high int
		atOneTime(7, func(i int) {
			if i == 6 {
				for m.Total() < round%50 { // not at once, but while the others count
					runtime.Gosched()
				}
				m.Close(3)
				total, high = m.Total(), m.High()
				return
			}
			for n := 1; n < 1<<20 && m.Count(i, 1); n++ {
				counted[i]++
				if m.Mark(10*n + i) {
					marked[i] = 10*n + i
				}
				if n%128 == 0 { // where there is one processor, all come to their turn
					runtime.Gosched()
				}
			}
		})
		greatest, sum := 0, 0
		for i := range counted {
			greatest = max(greatest, marked[i])
			sum += counted[i]
		}
		if sum != total || m.Total() != total {
			t.Fatalf("counted %d; behind the Close %d, at last %d", sum, total, m.Total())
		}
		if greatest != high || m.High() != high {
			t.Fatalf("marked %d; behind the Close %d, at last %d", greatest, high, m.High())
		}
	}
}

// P3.4: Total tells all counters of one moment: of two that are counted by turns the one is never ahead in it.
func TestTotalOfOneMoment(t *testing.T) {
	m := meter.New()
	var done atomic.Bool
	atOneTime(5, func(i int) {
		if i == 0 {
			for range 20000 {
				m.Count(0, 1)
				m.Count(15, 1000)
			}
			done.Store(true)
			return
		}
		for !done.Load() {
			if total := m.Total(); total%1001 > 1 {
				t.Errorf("Total = %d at no moment", total)
				return
			}
		}
	})
	wantCounters(t, m, map[int]int{0: 20000, 15: 20000 * 1000})
}
