package meter

// Fill makes a counter have n, as counting up to the most takes 2^30 calls.
func (m *Meter) Fill(kind int, n int64) { m.counters[kind].Store(n) }
