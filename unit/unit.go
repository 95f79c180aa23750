// Package unit reckons with lengths: whole numbers of units, 64 of a pixel.
package unit

import (
	"math/bits"

	"quoin/api"
)

const (
	perPixel      = 64
	perThousand   = 1000
	perWhole      = 10000
	mostTold      = 1000000000000
	mostHundredth = 1000000000
	mostWhole     = 1 << 60
	mostWeight    = 1 << 50
	mostWeights   = 1000
)

// Hold answers n, or the end of -Far to Far that is nearest to it.
func Hold(n int64) int64 {
	return within(n, api.Far)
}

// Add answers the sum of l, held at each step.
func Add(l ...int64) int64 {
	var sum int64
	for _, n := range l {
		// Each summand is held too: two great ones would wrap round.
		sum = Hold(sum + Hold(n))
	}
	return sum
}

// Px answers the length of so many thousandths of a pixel.
func Px(thousandths int64) int64 {
	return Hold(nearest(perPixel*within(thousandths, mostTold), perThousand))
}

// Pct answers so many hundredths of a percent of base.
func Pct(base, hundredths int64) int64 {
	return Hold(nearest(Hold(base)*within(hundredths, mostHundredth), perWhole))
}

// Ratio answers n times part over whole, rounded down, or 0 where one of them
// is out of its bounds.
func Ratio(n, part, whole int64) int64 {
	if !sharable(n) || whole < 1 || whole > mostWhole || part < 0 || part > whole {
		return 0
	}
	// The product needs up to 120 bits. Div64 doesn't panic: with part at
	// most whole, and n below 2^64, the product's upper word is below whole.
	high, low := bits.Mul64(uint64(max(n, -n)), uint64(part))
	quotient, rest := bits.Div64(high, low, uint64(whole))
	if n >= 0 {
		return int64(quotient)
	}
	if rest > 0 {
		quotient++
	}
	return -int64(quotient)
}

// Share answers how n is shared among weights, or none where n or a weight is
// out of its bounds.
func Share(n int64, weights []int64) []int64 {
	whole, ok := sum(weights)
	if !ok || !sharable(n) {
		return nil
	}
	parts := make([]int64, len(weights))
	var upTo, given int64
	for k, w := range weights {
		upTo += w
		// What is rounded off one part falls to a later one, for the last
		// ratio is n itself. Where all weights are 0, so is each ratio.
		now := Ratio(n, upTo, whole)
		parts[k] = now - given
		given = now
	}
	return parts
}

// sum answers false where there are too many weights, or one out of its bounds.
func sum(weights []int64) (int64, bool) {
	if len(weights) > mostWeights {
		return 0, false
	}
	var whole int64
	for _, w := range weights {
		if w < 0 || w > mostWeight {
			return 0, false
		}
		whole += w
	}
	return whole, true
}

func sharable(n int64) bool {
	return -mostWhole <= n && n <= mostWhole
}

func within(n, most int64) int64 {
	return max(-most, min(n, most))
}

// nearest answers n over the even number whole, a half rounded up.
func nearest(n, whole int64) int64 {
	n += whole / 2
	quotient := n / whole
	// The language's division rounds towards 0, not down.
	if n%whole < 0 {
		quotient--
	}
	return quotient
}
