package sums

import (
	"sync"
	"sync/atomic"
)

// Meter sums, and counts what it summed; many may use it at once.
type Meter struct {
	once  sync.Once
	table [256]int // the sum of each byte alone
	bytes atomic.Int64
	times atomic.Int64
}

// NewMeter is one that has counted nothing.
func NewMeter() *Meter { return &Meter{} }

// Sum16 is as Sum16, and counted.
func (m *Meter) Sum16(l ...[]byte) int {
	if m == nil {
		return 0
	}
	m.once.Do(m.fill)
	m.count(l)
	return sixteen.sum(l, func(v int) int { return m.table[v] })
}

// Many is how many bytes were summed, and how often.
func (m *Meter) Many() (bytes, times int) {
	if m == nil {
		return 0, 0
	}
	// The times first, since they are counted last: whoever is counted has its bytes counted too.
	times = int(m.times.Load())
	bytes = int(m.bytes.Load())
	return bytes, times
}

// fill makes the table.
func (m *Meter) fill() {
	for v := range m.table {
		m.table[v] = Sum16([]byte{byte(v)})
	}
}

// count counts one who asks, and the bytes of it.
func (m *Meter) count(l [][]byte) {
	many := 0
	for _, b := range l {
		many += len(b)
	}
	m.bytes.Add(int64(many))
	m.times.Add(1)
}
