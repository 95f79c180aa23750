package exact_test

import (
	"math"
	"math/big"
	"math/rand"
	"testing"

	"quoin/exact"
)

func big128(l ...int64) *big.Int {
	s := new(big.Int)
	for _, n := range l {
		s.Add(s, big.NewInt(n))
	}
	return s
}

// held is the number that is nearest to n.
func held(n *big.Int) int64 {
	switch {
	case n.IsInt64():
		return n.Int64()
	case n.Sign() < 0:
		return math.MinInt64
	}
	return math.MaxInt64
}

var extremes = []int64{
	0, 1, -1, 2, -2, 10, 1 << 32, -1 << 32, 1<<62 - 1, 1 << 62, -1 << 62, math.MaxInt64, math.MaxInt64 - 1, math.MinInt64,
	math.MinInt64 + 1,
}

// lists calls do with short lists of extremes, and with longer drawn ones.
func lists(do func(l []int64)) {
	do(nil)
	for _, a := range extremes {
		do([]int64{a})
		for _, b := range extremes {
			do([]int64{a, b})
			for _, c := range extremes {
				do([]int64{a, b, c})
			}
		}
	}
	r := rand.New(rand.NewSource(1))
	for range 1000 {
		l := make([]int64, r.Intn(40))
		for i := range l {
			l[i] = extremes[r.Intn(len(extremes))]
		}
		do(l)
	}
}

func TestSums(t *testing.T) {
	lists(func(l []int64) {
		var sum exact.Sum
		for _, n := range l {
			sum = sum.Plus(n)
		}
		if sum != exact.Of(l...) {
			t.Fatalf("%d: %v at once, %v one by one", l, exact.Of(l...), sum)
		}
		if got, want := sum.Held(), held(big128(l...)); got != want {
			t.Fatalf("%d: %d, not %d", l, got, want)
		}
		// What is beyond an int64 is not lost.
		if n := len(l); n > 1 {
			less := exact.Of(l...).Minus(exact.Of(l[1:]...))
			if got := less.Held(); got != l[0] {
				t.Fatalf("%d less all but the first: %d", l, got)
			}
			if got, want := exact.Of(l[:n/2]...).Minus(exact.Of(l[n/2:]...)).Held(), held(new(big.Int).Sub(big128(l[:n/2]...), big128(l[n/2:]...))); got != want {
				t.Fatalf("%d less %d: %d, not %d", l[:n/2], l[n/2:], got, want)
			}
		}
	})
}

func TestHalf(t *testing.T) {
	two := big.NewInt(2)
	lists(func(l []int64) {
		half := exact.Of(l...).Half()
		// Of whole numbers Div by a number above 0 rounds down.
		want := new(big.Int).Div(big128(l...), two)
		if got := half.Held(); got != held(want) {
			t.Fatalf("half of %d: %d, not %d", l, got, held(want))
		}
		// What is beyond an int64 is not lost.
		rest := new(big.Int).Sub(big128(l...), want)
		if got := exact.Of(l...).Minus(half).Held(); got != held(rest) {
			t.Fatalf("%d less its half: %d, not %d", l, got, held(rest))
		}
	})
}

func TestAbove(t *testing.T) {
	lists(func(l []int64) {
		for n := range len(l) + 1 {
			a, b := l[:n], l[n:]
			if got, want := exact.Of(a...).Above(exact.Of(b...)), big128(a...).Cmp(big128(b...)) > 0; got != want {
				t.Fatalf("%d above %d: %t", a, b, got)
			}
		}
	})
}
