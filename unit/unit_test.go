package unit_test

import (
	"math"
	"math/big"
	"slices"
	"testing"

	"quoin/api"
	"quoin/unit"
)

const (
	far        = api.Far
	mostWhole  = 1 << 60
	mostWeight = 1 << 50
)

// wild crosses every bound of the chapter, from both sides.
func wild() []int64 {
	l := []int64{0, 1, 2, 3, 7, 8, 9, 23, 24, 62, 63, 64, 99, 100, 101, 499, 500, 501, 999, 1000, 1001, 4999, 5000, 5001, 9999, 10000, 10001, 123456789}
	for _, bound := range []int64{far, 1000000000, 16777216000, 1000000000000, 1 << 43, mostWeight, mostWhole, 1 << 62} {
		l = append(l, bound-9, bound-1, bound, bound+1, bound+9)
	}
	for _, n := range slices.Clone(l) {
		l = append(l, -n)
	}
	return append(l, math.MaxInt64, math.MaxInt64-1, math.MinInt64, math.MinInt64+1)
}

func heldTo(n, most int64) int64 {
	if n > most {
		return most
	}
	if n < -most {
		return -most
	}
	return n
}

// rounded is the reference: (times*n + add) over whole, rounded down, exactly.
func rounded(n, times, add, whole int64) int64 {
	x := new(big.Int).Mul(big.NewInt(n), big.NewInt(times))
	x.Add(x, big.NewInt(add))
	quotient, rest := new(big.Int).QuoRem(x, big.NewInt(whole), new(big.Int))
	if rest.Sign() < 0 {
		quotient.Sub(quotient, big.NewInt(1))
	}
	return quotient.Int64()
}

// 1.1

func TestHold(t *testing.T) {
	for _, x := range [][2]int64{
		{0, 0}, {1, 1}, {-1, -1},
		{far - 1, far - 1}, {far, far}, {far + 1, far},
		{1 - far, 1 - far}, {-far, -far}, {-far - 1, -far},
		{math.MaxInt64, far}, {math.MinInt64, -far},
	} {
		if got := unit.Hold(x[0]); got != x[1] {
			t.Errorf("Hold(%d): %d, not %d", x[0], got, x[1])
		}
	}
	for _, n := range wild() {
		if got := unit.Hold(n); got != heldTo(n, far) {
			t.Errorf("Hold(%d): %d", n, got)
		}
	}
}

func TestAdd(t *testing.T) {
	for _, x := range []struct {
		l    []int64
		want int64
	}{
		{nil, 0},
		{[]int64{}, 0},
		{[]int64{5}, 5},
		{[]int64{3, 4, -10}, -3},
		{[]int64{far, 1, -1}, far - 1},
		{[]int64{-1, far, 1}, far},
		{[]int64{-far, -1, 1}, 1 - far},
		{[]int64{far + 5}, far},
		{[]int64{-far - 5, far}, 0},
		{[]int64{7, far + 7, -7}, far - 7},
		{[]int64{-7, far + 7}, far - 7},
		{[]int64{math.MaxInt64, math.MaxInt64, math.MinInt64, 3}, 3},
		{[]int64{math.MinInt64, math.MinInt64}, -far},
	} {
		was := slices.Clone(x.l)
		if got := unit.Add(x.l...); got != x.want {
			t.Errorf("Add(%d): %d, not %d", x.l, got, x.want)
		}
		if !slices.Equal(was, x.l) {
			t.Errorf("Add turned %d to %d", was, x.l)
		}
	}
	for _, a := range wild() {
		for _, b := range wild() {
			if got := unit.Add(a, b); got != heldTo(heldTo(a, far)+heldTo(b, far), far) {
				t.Errorf("Add(%d, %d): %d", a, b, got)
			}
		}
	}
}

func TestPx(t *testing.T) {
	for _, x := range [][2]int64{
		{0, 0}, {1000, 64}, {1500, 96}, {-1500, -96}, {16, 1}, {-16, -1},
		{7, 0}, {8, 1}, {-7, 0}, {-8, -1}, {23, 1}, {24, 2}, {-23, -1}, {-24, -2},
		{16777215992, far - 1}, {16777215993, far}, {16777216000, far}, {16777216001, far},
		{-16777215992, 1 - far}, {-16777216008, -far},
		{1000000000001, far}, {math.MaxInt64, far}, {math.MinInt64, -far},
	} {
		if got := unit.Px(x[0]); got != x[1] {
			t.Errorf("Px(%d): %d, not %d", x[0], got, x[1])
		}
	}
	for n := int64(-2000); n <= 2000; n++ {
		if got := unit.Px(n); got != rounded(n, 64, 500, 1000) {
			t.Errorf("Px(%d): %d", n, got)
		}
	}
	for _, n := range wild() {
		if got := unit.Px(n); got != heldTo(rounded(heldTo(n, 1000000000000), 64, 500, 1000), far) {
			t.Errorf("Px(%d): %d", n, got)
		}
	}
}

func TestPct(t *testing.T) {
	for _, x := range [][3]int64{
		{0, 10000, 0}, {200, 5000, 100}, {640, 10000, 640}, {640, 3333, 213}, {100, 0, 0},
		{1, 4999, 0}, {1, 5000, 1}, {1, 14999, 1}, {1, 15000, 2},
		{-1, 5000, 0}, {-1, 5001, -1}, {-1, 15000, -1}, {3, -5000, -1}, {-3, -5000, 2},
		{far, 10000, far}, {far, 10001, far}, {-far, 10001, -far}, {-far, -20000, far},
		{far + 1000000, 5000, far / 2}, {math.MaxInt64, 5000, far / 2}, {math.MinInt64, 5000, -far / 2},
		{10, 1000000000, 1000000}, {10, 1000000001, 1000000}, {10, math.MaxInt64, 1000000}, {10, math.MinInt64, -1000000},
		{far, 1000000000, far}, {math.MinInt64, math.MinInt64, far},
	} {
		if got := unit.Pct(x[0], x[1]); got != x[2] {
			t.Errorf("Pct(%d, %d): %d, not %d", x[0], x[1], got, x[2])
		}
	}
	for _, base := range wild() {
		for _, h := range wild() {
			want := heldTo(rounded(heldTo(base, far), heldTo(h, 1000000000), 5000, 10000), far)
			if got := unit.Pct(base, h); got != want {
				t.Errorf("Pct(%d, %d): %d, not %d", base, h, got, want)
			}
		}
	}
}

// 1.2

func TestRatio(t *testing.T) {
	for _, x := range [][4]int64{
		{10, 1, 3, 3}, {10, 2, 3, 6}, {10, 3, 3, 10}, {10, 0, 3, 0},
		{-10, 1, 3, -4}, {-10, 2, 3, -7}, {-10, 3, 3, -10}, {-10, 0, 3, 0}, {-9, 1, 3, -3}, {-1, 1, mostWhole, -1},
		{0, 1, 1, 0}, {7, 0, 1, 0}, {7, 1, 1, 7},
		{mostWhole, mostWhole, mostWhole, mostWhole}, {mostWhole, mostWhole - 1, mostWhole, mostWhole - 1},
		{-mostWhole, mostWhole, mostWhole, -mostWhole}, {-mostWhole, 1, mostWhole, -1},
		{mostWhole, 2, 3, 768614336404564650}, {-mostWhole, 2, 3, -768614336404564651},
		{mostWhole + 1, 1, 1, 0}, {-mostWhole - 1, 1, 1, 0}, {math.MinInt64, 1, 1, 0}, {math.MaxInt64, 1, 1, 0},
		{10, 1, 0, 0}, {10, 0, 0, 0}, {10, 0, -1, 0}, {10, -1, -1, 0}, {10, 1, mostWhole + 1, 0}, {10, 1, math.MinInt64, 0},
		{10, -1, 3, 0}, {10, 4, 3, 0}, {10, math.MinInt64, 3, 0}, {10, math.MaxInt64, math.MaxInt64, 0},
	} {
		if got := unit.Ratio(x[0], x[1], x[2]); got != x[3] {
			t.Errorf("Ratio(%d, %d, %d): %d, not %d", x[0], x[1], x[2], got, x[3])
		}
	}
	for _, n := range wild() {
		for _, part := range wild() {
			for _, whole := range wild() {
				if got := unit.Ratio(n, part, whole); got != ratio(n, part, whole) {
					t.Fatalf("Ratio(%d, %d, %d): %d, not %d", n, part, whole, got, ratio(n, part, whole))
				}
			}
		}
	}
}

func ratio(n, part, whole int64) int64 {
	if whole < 1 || whole > mostWhole || part < 0 || part > whole || n < -mostWhole || n > mostWhole {
		return 0
	}
	return rounded(n, part, 0, whole)
}

func TestShare(t *testing.T) {
	for _, x := range []struct {
		n       int64
		weights []int64
		want    []int64
	}{
		{10, []int64{1, 1, 1}, []int64{3, 3, 4}},
		{-10, []int64{1, 1, 1}, []int64{-4, -3, -3}},
		{1, []int64{1, 1, 1, 1}, []int64{0, 0, 0, 1}},
		{-1, []int64{1, 1, 1, 1}, []int64{-1, 0, 0, 0}},
		{7, []int64{1, 2, 3, 1}, []int64{1, 2, 3, 1}},
		{5, []int64{3, 1}, []int64{3, 2}},
		{10, []int64{0, 5, 0, 5, 0}, []int64{0, 5, 0, 5, 0}},
		{10, []int64{4}, []int64{10}},
		{0, []int64{1, 2}, []int64{0, 0}},
		{10, []int64{0, 0, 0}, []int64{0, 0, 0}},
		{-10, []int64{0}, []int64{0}},
		{10, nil, nil},
		{10, []int64{}, nil},
		{10, []int64{mostWeight, mostWeight}, []int64{5, 5}},
		{10, []int64{1, mostWeight + 1}, nil},
		{10, []int64{1, math.MaxInt64, math.MaxInt64}, nil},
		{10, []int64{1, -1}, nil},
		{10, []int64{-1, 2}, nil},
		{10, []int64{math.MinInt64}, nil},
		{mostWhole, []int64{1, 1}, []int64{1 << 59, 1 << 59}},
		{-mostWhole, []int64{1, 1}, []int64{-1 << 59, -1 << 59}},
		{mostWhole + 1, []int64{1}, nil},
		{-mostWhole - 1, []int64{1}, nil},
		{math.MinInt64, []int64{1, 1}, nil},
		{mostWhole + 1, []int64{0, 0}, nil},
		{math.MinInt64, []int64{0}, nil},
	} {
		if got := unit.Share(x.n, x.weights); !slices.Equal(got, x.want) {
			t.Errorf("Share(%d, %d): %d, not %d", x.n, x.weights, got, x.want)
		}
	}
}

func TestShareIsByRatios(t *testing.T) {
	weights := []int64{3, 0, 1, mostWeight, 7, mostWeight - 5, 0, 11, 1}
	var whole int64
	for _, w := range weights {
		whole += w
	}
	for _, n := range []int64{0, 1, -1, 9, -9, far, -far, mostWhole, -mostWhole} {
		got := unit.Share(n, weights)
		if len(got) != len(weights) {
			t.Fatalf("Share of %d: %d parts", n, len(got))
		}
		var ahead int64
		for k, w := range weights {
			want := ratio(n, ahead+w, whole) - ratio(n, ahead, whole)
			ahead += w
			if got[k] != want {
				t.Errorf("Share of %d: part %d is %d, not %d", n, k, got[k], want)
			}
		}
	}
}

func TestShareTakesThousandWeights(t *testing.T) {
	weights := slices.Repeat([]int64{mostWeight}, 1001)
	if got := unit.Share(1000, weights); len(got) != 0 {
		t.Errorf("of 1001 weights: %d parts", len(got))
	}
	got := unit.Share(1000, weights[:1000])
	if !slices.Equal(got, slices.Repeat([]int64{1}, 1000)) {
		t.Errorf("of 1000 weights: %d", got)
	}
	if got := unit.Share(5, make([]int64, 1001)); len(got) != 0 {
		t.Errorf("of 1001 weights of 0: %d parts", len(got))
	}
}

func TestShareKeepsToItsOwnMemory(t *testing.T) {
	room := []int64{1, 2, 3, 40, 50}
	weights := room[:3]
	first := unit.Share(12, weights)
	second := unit.Share(12, weights)
	for i := range first {
		first[i] = -1
	}
	_ = append(first, 99)
	if !slices.Equal(room, []int64{1, 2, 3, 40, 50}) {
		t.Error("weights, or what is behind them, were turned:", room)
	}
	if !slices.Equal(second, []int64{2, 4, 6}) {
		t.Error("two answers share memory:", second)
	}
}

// 1.3

func TestSharesAreAllOfIt(t *testing.T) {
	for _, weights := range [][]int64{
		{1}, {1, 1}, {1, 1, 1}, {0, 1, 0}, {5, 0, 3, 1}, {mostWeight, 1, mostWeight}, {1, mostWeight}, {mostWeight - 1, 3, 0},
		slices.Repeat([]int64{7}, 999), slices.Repeat([]int64{mostWeight}, 1000),
	} {
		for _, n := range wild() {
			if n < -mostWhole || n > mostWhole {
				continue
			}
			got := unit.Share(n, weights)
			if len(got) != len(weights) {
				t.Fatalf("Share(%d, %d): %d parts", n, weights, len(got))
			}
			var sum int64
			for k, part := range got {
				sum += part
				if (part > 0 && n < 0) || (part < 0 && n > 0) || (part != 0 && weights[k] == 0) {
					t.Errorf("Share(%d, %d): part %d is %d", n, weights, k, part)
				}
			}
			if sum != n {
				t.Errorf("Share(%d, %d): %d in all", n, weights, sum)
			}
		}
	}
}

// 1.4

func TestNoCallPanics(t *testing.T) {
	defer func() {
		if r := recover(); r != nil {
			t.Error("a call panicked:", r)
		}
	}()
	unit.Add()
	unit.Add(wild()...)
	unit.Share(0, nil)
	unit.Share(0, wild())
	for _, a := range wild() {
		unit.Hold(a)
		unit.Px(a)
		for _, b := range wild() {
			unit.Add(a, b, a, b)
			unit.Pct(a, b)
			unit.Share(a, []int64{b})
			for _, c := range wild() {
				unit.Ratio(a, b, c)
				unit.Share(a, []int64{b, c})
			}
		}
	}
}
