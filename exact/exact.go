// Package exact holds sums that don't wrap round, for those layers that add up
// what they are handed in, however great that is.
package exact

import (
	"math"
	"math/bits"
)

// Sum is a sum of 128 bits; its zero value is 0.
type Sum struct {
	high int64
	low  uint64
}

// Of answers the sum of l.
func Of(l ...int64) Sum {
	var s Sum
	for _, n := range l {
		s = s.Plus(n)
	}
	return s
}

// Plus answers s and n together.
func (s Sum) Plus(n int64) Sum {
	low, carry := bits.Add64(s.low, uint64(n), 0)
	return Sum{s.high + n>>63 + int64(carry), low}
}

// Minus answers s less o.
func (s Sum) Minus(o Sum) Sum {
	low, borrow := bits.Sub64(s.low, o.low, 0)
	return Sum{s.high - o.high - int64(borrow), low}
}

// Half answers the half of s, rounded down.
func (s Sum) Half() Sum {
	return Sum{s.high >> 1, uint64(s.high)<<63 | s.low>>1}
}

// Above answers whether s is greater than o.
func (s Sum) Above(o Sum) bool {
	return s.high > o.high || s.high == o.high && s.low > o.low
}

// Held answers the number that is nearest to s.
func (s Sum) Held() int64 {
	n := int64(s.low)
	switch {
	case s.high == n>>63:
		return n
	case s.high < 0:
		return math.MinInt64
	}
	return math.MaxInt64
}
