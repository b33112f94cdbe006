// Package bits is layer 1: see shared/doc/01-bits.md.
package bits

// Limits: how many bits a number has, and how great a unary one may be that is written (one that is read may be greater).
const (
	mostBits  = 48
	mostUnary = 65536
)

// place is a place among bits: how many of them are behind it.
type place struct {
	at int
}

// forth goes over bits.
func (p *place) forth(n int) { p.at += n }

// room is how many bits of its byte are ahead: all 8, if it stands at a byte's beginning.
func (p *place) room() int { return 8 - p.at%8 }

// pad is how many bits there are up to the next byte's beginning: none, if it stands at one.
func (p *place) pad() int { return p.room() % 8 }

// share is how many of the next n bits its byte holds, and how many bits of that byte come behind them.
func (p *place) share(n int) (many, behind int) {
	many = min(n, p.room())
	return many, p.room() - many
}

// mayBe tells whether numbers have so many bits.
func mayBe(n int) bool { return 0 <= n && n <= mostBits }
