package brk

import (
	"math"
	"math/bits"
)

// total is a sum of Advs. It has 128 bits, so that it doesn't wrap round, however
// far each glyph leads.
type total struct {
	high int64
	low  uint64
}

func (t total) plus(n int64) total {
	low, carry := bits.Add64(t.low, uint64(n), 0)
	return total{t.high + n>>63 + int64(carry), low}
}

func (t total) minus(o total) total {
	low, borrow := bits.Sub64(t.low, o.low, 0)
	return total{t.high - o.high - int64(borrow), low}
}

func (t total) above(o total) bool {
	return t.high > o.high || t.high == o.high && t.low > o.low
}

// held answers the number that is nearest to t.
func (t total) held() int64 {
	n := int64(t.low)
	switch {
	case t.high == n>>63:
		return n
	case t.high < 0:
		return math.MinInt64
	}
	return math.MaxInt64
}
