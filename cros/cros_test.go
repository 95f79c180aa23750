package cros_test

import (
	"math"
	"math/big"
	"math/rand"
	"slices"
	"testing"

	"quoin/api"
	"quoin/cros"
)

const (
	start = iota
	end
	center
	stretch
)

// ways is all ways of standing, and some that there are not.
func ways() []int {
	return []int{
		start, end, center, stretch, 4, -1, -2, 5, 9, 1 << 32, 1<<32 + end, 1<<32 + center, 256 + end, 256 + center, 65536 + end,
		65536 + center, math.MaxInt, math.MinInt,
	}
}

// extremes is lengths at bounds, and such that a narrower number, or a sum,
// would take for another one.
func extremes() []int64 {
	return []int64{
		0, 1, -1, 2, -2, 10, -10, api.Far - 1, api.Far, api.Far + 1, -api.Far, -api.Far - 1, 1 << 31, -1 << 31, 1 << 32,
		1<<32 + 5, -1 << 32, 5 - 1<<32, 1 << 53, 1<<53 + 1, 1 << 61, math.MaxInt64, math.MaxInt64 - 1, math.MinInt64,
		math.MinInt64 + 1, math.MaxInt64 / 2, math.MinInt64 / 2,
	}
}

func booleans() []bool { return []bool{false, true} }

// held is the number that is nearest to n.
func held(n *big.Int) int64 {
	switch {
	case n.IsInt64():
		return n.Int64()
	case n.Sign() < 0:
		return math.MinInt64
	}
	return math.MaxInt64
}

// less is a less each of l.
func less(a int64, l ...int64) *big.Int {
	n := big.NewInt(a)
	for _, b := range l {
		n.Sub(n, big.NewInt(b))
	}
	return n
}

// half is rounded down, which Div does by a number above 0.
func half(n *big.Int) *big.Int { return new(big.Int).Div(n, big.NewInt(2)) }

// 20.1, one sentence at a time, in numbers of any size.

func stretched(line, around, least, most int64) int64 {
	n := less(line, around)
	if most >= 0 && n.Cmp(big.NewInt(most)) > 0 {
		n = big.NewInt(most)
	}
	for _, atLeast := range []int64{least, 0} {
		if n.Cmp(big.NewInt(atLeast)) < 0 {
			n = big.NewInt(atLeast)
		}
	}
	return held(n)
}

func off(line, outer int64, before, after bool, self int, reverse bool) int64 {
	free, none := less(line, outer), new(big.Int)
	if before || after {
		if free.Sign() <= 0 {
			return 0
		}
		if before && after {
			return held(half(free))
		}
		if before {
			return held(free)
		}
		return 0
	}
	atStart, atEnd := none, free
	if reverse {
		atStart, atEnd = free, none
	}
	switch self {
	case end:
		return held(atEnd)
	case center:
		return held(half(free))
	default:
		return held(atStart)
	}
}

func lined(sizes []int64, whole int64, reverse bool) []int64 {
	var begins []int64
	for i, size := range sizes {
		ahead := new(big.Int)
		for _, n := range sizes[:i] {
			ahead.Add(ahead, big.NewInt(n))
		}
		if reverse {
			ahead.Sub(less(whole, size), ahead)
		}
		begins = append(begins, held(ahead))
	}
	return begins
}

func isStretched(t *testing.T, line, around, least, most int64) {
	t.Helper()
	if got, want := cros.Stretch(line, around, least, most), stretched(line, around, least, most); got != want {
		t.Fatalf("Stretch(%d, %d, %d, %d): %d, not %d", line, around, least, most, got, want)
	}
}

// isOff asks for each margin that may be auto, both directions, and each of
// these ways.
func isOff(t *testing.T, line, outer int64, selfs []int) {
	t.Helper()
	for _, before := range booleans() {
		for _, after := range booleans() {
			for _, self := range selfs {
				for _, reverse := range booleans() {
					got, want := cros.Off(line, outer, before, after, self, reverse), off(line, outer, before, after, self, reverse)
					if got != want {
						t.Fatalf("Off(%d, %d, %t, %t, %d, %t): %d, not %d", line, outer, before, after, self, reverse, got, want)
					}
				}
			}
		}
	}
}

func isLined(t *testing.T, sizes []int64, whole int64) {
	t.Helper()
	for _, reverse := range booleans() {
		if got, want := cros.Lines(sizes, whole, reverse), lined(sizes, whole, reverse); !slices.Equal(got, want) {
			t.Fatalf("Lines(%d, %d, %t): %d, not %d", sizes, whole, reverse, got, want)
		}
	}
}

// each calls do with all lists of up to most of some.
func each(some []int64, most int, do func([]int64)) {
	var grow func([]int64)
	grow = func(l []int64) {
		do(l)
		if len(l) == most {
			return
		}
		for _, n := range some {
			grow(append(slices.Clip(l), n))
		}
	}
	grow(nil)
}

// drawn is a list of up to most of some.
func drawn(r *rand.Rand, some []int64, most int) []int64 {
	l := make([]int64, r.Intn(most+1))
	for i := range l {
		l[i] = some[r.Intn(len(some))]
	}
	return l
}

func sum(l []int64) int64 {
	var all int64
	for _, n := range l {
		all += n
	}
	return all
}

// 20.1: Self

func TestSelfByHand(t *testing.T) {
	for _, x := range []struct {
		what              string
		items, self, want int
	}{
		{"auto, of start", start, 0, start},
		{"auto, of end", end, 0, end},
		{"auto, of center", center, 0, center},
		{"auto, of stretch", stretch, 0, stretch},
		{"auto, of a way that there is not", 9, 0, 9},
		{"auto, of one below 0", -7, 0, -7},
		{"start", stretch, 1, start},
		{"end", stretch, 2, end},
		{"center", stretch, 3, center},
		{"stretch", start, 4, stretch},
		{"one that there is not", start, 5, 4},
		{"one below 0", stretch, -1, -2},
		{"one that is great", stretch, 1<<32 + 1, 1 << 32},
		{"the greatest", stretch, math.MaxInt, math.MaxInt - 1},
		{"nearly the least", stretch, math.MinInt + 1, math.MinInt},
		{"auto, of the greatest", math.MaxInt, 0, math.MaxInt},
		{"auto, of the least", math.MinInt, 0, math.MinInt},
	} {
		if got := cros.Self(x.items, x.self); got != x.want {
			t.Errorf("%s: Self(%d, %d): %d, not %d", x.what, x.items, x.self, got, x.want)
		}
	}
}

func isTold(t *testing.T, items, self int) {
	t.Helper()
	if got := cros.Self(items, self); got != self-1 {
		t.Errorf("Self(%d, %d): %d", items, self, got)
	}
}

// What an item tells holds, whatever its flex element's items do.
func TestSelfIsTold(t *testing.T) {
	for _, items := range ways() {
		if got := cros.Self(items, 0); got != items {
			t.Errorf("Self(%d, 0): %d", items, got)
		}
		for self := 1; self <= 40; self++ {
			isTold(t, items, self)
		}
		for _, way := range ways() {
			// What is told as 0 is auto; of the least number there is none that is less.
			if way != 0 && way != math.MinInt {
				isTold(t, items, way)
			}
		}
	}
}

// The texts that tell both are read so that one number means one way.
func TestSelfOfStyles(t *testing.T) {
	for i, x := range []struct{ items, self, want int }{{1, 0, end}, {1, 1, start}, {0, 2, end}, {0, 3, center}, {0, 4, stretch}} {
		s := api.Style{Items: x.items, Self: x.self}
		if got := cros.Self(s.Items, s.Self); got != x.want {
			t.Errorf("%d: %d, not %d", i, got, x.want)
		}
	}
}

// 20.1: Stretch

func TestStretchByHand(t *testing.T) {
	for _, x := range []struct {
		what                            string
		line, around, least, most, want int64
	}{
		{"all of the line", 10, 0, 0, -1, 10},
		{"less what is around", 10, 3, 0, -1, 7},
		{"nothing is left", 10, 10, 0, -1, 0},
		{"more is around than there is", 10, 11, 0, -1, 0},
		{"what is around leads back", 10, -3, 0, -1, 13},
		{"at most", 10, 3, 0, 6, 6},
		{"just at most", 10, 3, 0, 7, 7},
		{"below most", 10, 3, 0, 8, 7},
		{"a most of 0", 10, 3, 0, 0, 0},
		{"a most of 0, with a least", 10, 3, 2, 0, 2},
		{"no most, by -2", 10, 3, 0, -2, 7},
		{"no most, by less", 10, 3, 0, -99, 7},
		{"at least", 10, 3, 8, -1, 8},
		{"just at least", 10, 3, 7, -1, 7},
		{"above least", 10, 3, 6, -1, 7},
		{"between both", 10, 3, 6, 8, 7},
		{"least ahead of most", 10, 3, 8, 5, 8},
		{"least ahead of most, both below", 10, 3, 6, 5, 6},
		{"least ahead of most, both above", 10, 3, 9, 8, 9},
		{"a least below 0", 10, 30, -9, -1, 0},
		{"a least below 0, with a most", 10, 30, -9, 5, 0},
		{"a least below 0 is no bound", 10, 3, -9, -1, 7},
		{"at least, where nothing is left", 10, 30, 4, -1, 4},
		{"a line of none", 0, 0, 0, -1, 0},
		{"a line of none, at least", 0, 2, 3, 9, 3},
		{"a line below 0", -5, 3, 0, -1, 0},
		{"a line below 0, with so much less around", -5, -9, 0, -1, 4},
		{"beyond Far", 4 * api.Far, 2 * api.Far, 0, -1, 2 * api.Far},
		{"as great as can be told", math.MaxInt64, 0, 0, math.MaxInt64, math.MaxInt64},
		{"greater", math.MaxInt64, -1, 0, -1, math.MaxInt64},
		{"greater, at most", math.MaxInt64, math.MinInt64, 0, 7, 7},
		{"less", math.MinInt64, 1, 0, -1, 0},
		{"less, at least", math.MinInt64, math.MaxInt64, 7, 9, 7},
	} {
		if got := cros.Stretch(x.line, x.around, x.least, x.most); got != x.want {
			t.Errorf("%s: Stretch(%d, %d, %d, %d): %d, not %d", x.what, x.line, x.around, x.least, x.most, got, x.want)
		}
		isStretched(t, x.line, x.around, x.least, x.most)
	}
}

func TestStretchOfAllFewUnits(t *testing.T) {
	for line := int64(-4); line <= 12; line++ {
		for around := int64(-4); around <= 14; around++ {
			for least := int64(-3); least <= 14; least++ {
				for most := int64(-3); most <= 14; most++ {
					isStretched(t, line, around, least, most)
				}
			}
		}
	}
}

// Nothing wraps round: what an int64 can't tell is the nearest that it can.
func TestStretchOfExtremes(t *testing.T) {
	for _, line := range extremes() {
		for _, around := range extremes() {
			for _, least := range extremes() {
				for _, most := range extremes() {
					isStretched(t, line, around, least, most)
				}
			}
		}
	}
}

// 20.1: Off

func TestOffByHand(t *testing.T) {
	for _, x := range []struct {
		what            string
		line, outer     int64
		self            int
		ahead, reversed int64
	}{
		{"the example", 10, 4, end, 6, 0},
		{"start", 10, 4, start, 0, 6},
		{"stretch", 10, 4, stretch, 0, 6},
		{"center", 10, 4, center, 3, 3},
		{"center, rounded down", 10, 5, center, 2, 2},
		{"center of 1", 10, 9, center, 0, 0},
		{"one that there is not", 10, 4, 4, 0, 6},
		{"one below 0", 10, 4, -1, 0, 6},

		{"just full, start", 10, 10, start, 0, 0},
		{"just full, end", 10, 10, end, 0, 0},
		{"just full, center", 10, 10, center, 0, 0},

		{"missing, start", 10, 15, start, 0, -5},
		{"missing, end", 10, 15, end, -5, 0},
		{"missing, stretch", 10, 15, stretch, 0, -5},
		{"missing, center, rounded down", 10, 15, center, -3, -3},
		{"missing, center", 10, 14, center, -2, -2},
		{"missing 1, center", 10, 11, center, -1, -1},

		{"of no size", 10, 0, end, 10, 0},
		{"below 0, as margins can make it", 10, -4, end, 14, 0},
		{"below 0, center", 10, -5, center, 7, 7},
		{"a line of none", 0, 4, end, -4, 0},
		{"a line below 0", -3, 4, center, -4, -4},
		{"beyond Far", 4 * api.Far, api.Far, end, 3 * api.Far, 0},
		{"greater than can be told", math.MaxInt64, -1, end, math.MaxInt64, 0},
		{"the half of that can be told", math.MaxInt64, -1, center, 1 << 62, 1 << 62},
		{"less than can be told", math.MinInt64, 1, end, math.MinInt64, 0},
		{"the half of that, rounded down", math.MinInt64, 1, center, -1<<62 - 1, -1<<62 - 1},
		{"the half of the greatest", math.MaxInt64, math.MinInt64, center, math.MaxInt64, math.MaxInt64},
		{"the half of the least", math.MinInt64, math.MaxInt64, center, math.MinInt64, math.MinInt64},
	} {
		for _, reverse := range booleans() {
			want := x.ahead
			if reverse {
				want = x.reversed
			}
			if got := cros.Off(x.line, x.outer, false, false, x.self, reverse); got != want {
				t.Errorf("%s: Off(%d, %d, .., %d, %t): %d, not %d", x.what, x.line, x.outer, x.self, reverse, got, want)
			}
		}
		isOff(t, x.line, x.outer, ways())
	}
}

// A margin that is auto holds ahead of how the item stands, and of reverse.
func TestOffOfAutoMarginsByHand(t *testing.T) {
	for _, x := range []struct {
		what        string
		line, outer int64
		both        int64
		beforeAlone int64
		afterAlone  int64
	}{
		{"free", 10, 4, 3, 6, 0},
		{"an odd one", 10, 5, 2, 5, 0},
		{"1", 10, 9, 0, 1, 0},
		{"2", 10, 8, 1, 2, 0},
		{"just full", 10, 10, 0, 0, 0},
		{"missing 1", 10, 11, 0, 0, 0},
		{"missing", 10, 15, 0, 0, 0},
		{"an outer below 0", 10, -5, 7, 15, 0},
		{"a line below 0", -5, 3, 0, 0, 0},
		{"a line below 0, that leaves some", -5, -9, 2, 4, 0},
		{"greater than can be told", math.MaxInt64, -1, 1 << 62, math.MaxInt64, 0},
		{"the greatest", math.MaxInt64, math.MinInt64, math.MaxInt64, math.MaxInt64, 0},
		{"less than can be told", math.MinInt64, 1, 0, 0, 0},
		{"the least", math.MinInt64, math.MaxInt64, 0, 0, 0},
	} {
		for _, self := range ways() {
			for _, reverse := range booleans() {
				both := cros.Off(x.line, x.outer, true, true, self, reverse)
				before := cros.Off(x.line, x.outer, true, false, self, reverse)
				after := cros.Off(x.line, x.outer, false, true, self, reverse)
				if both != x.both || before != x.beforeAlone || after != x.afterAlone {
					t.Errorf("%s: Off(%d, %d, .., %d, %t): both %d, ahead %d, behind %d", x.what, x.line, x.outer, self, reverse, both, before, after)
				}
			}
		}
		isOff(t, x.line, x.outer, ways())
	}
}

func TestOffOfAllFewUnits(t *testing.T) {
	for line := int64(-12); line <= 40; line++ {
		for outer := int64(-12); outer <= 50; outer++ {
			isOff(t, line, outer, ways())
		}
	}
}

func TestOffOfExtremes(t *testing.T) {
	for _, line := range extremes() {
		for _, outer := range extremes() {
			isOff(t, line, outer, ways())
		}
	}
	r := rand.New(rand.NewSource(201))
	for range 20000 {
		isOff(t, int64(r.Uint64()), int64(r.Uint64()), ways()[:5])
	}
}

func TestOtherWaysAreAsStart(t *testing.T) {
	for _, self := range ways()[3:] {
		for line := int64(-3); line <= 20; line++ {
			for outer := int64(-3); outer <= 25; outer++ {
				for _, reverse := range booleans() {
					got, want := cros.Off(line, outer, false, false, self, reverse), cros.Off(line, outer, false, false, start, reverse)
					if got != want {
						t.Fatalf("Off(%d, %d, .., %d, %t): %d, not %d as start", line, outer, self, reverse, got, want)
					}
				}
			}
		}
	}
}

// 20.1: Lines

func TestLinesByHand(t *testing.T) {
	for _, x := range []struct {
		what            string
		sizes           []int64
		whole           int64
		ahead, reversed []int64
	}{
		{"none", nil, 10, nil, nil},
		{"an empty list", []int64{}, 10, nil, nil},
		{"an empty list with room", make([]int64, 0, 5), 10, nil, nil},
		{"one", []int64{4}, 10, []int64{0}, []int64{6}},
		{"one that is all", []int64{10}, 10, []int64{0}, []int64{0}},
		{"one that is more", []int64{15}, 10, []int64{0}, []int64{-5}},
		{"three", []int64{3, 4, 2}, 10, []int64{0, 3, 7}, []int64{7, 3, 1}},
		{"three that are all", []int64{3, 4, 3}, 10, []int64{0, 3, 7}, []int64{7, 3, 0}},
		{"three that are more", []int64{3, 4, 5}, 10, []int64{0, 3, 7}, []int64{7, 3, -2}},
		{"of no size", []int64{0, 0, 0}, 10, []int64{0, 0, 0}, []int64{10, 10, 10}},
		{"some of no size", []int64{0, 3, 0, 4}, 10, []int64{0, 0, 3, 3}, []int64{10, 7, 7, 3}},
		{"a whole of none", []int64{3, 4}, 0, []int64{0, 3}, []int64{-3, -7}},
		{"a whole below 0", []int64{3, 4}, -5, []int64{0, 3}, []int64{-8, -12}},
		{"a size below 0", []int64{3, -4, 5}, 10, []int64{0, 3, -1}, []int64{7, 11, 6}},
		{"beyond Far", []int64{2 * api.Far, api.Far, 1}, api.Far, []int64{0, 2 * api.Far, 3 * api.Far}, []int64{-api.Far, -2 * api.Far, -2*api.Far - 1}},
		{
			"greater than can be told", []int64{math.MaxInt64, math.MaxInt64, -2, math.MinInt64, math.MinInt64, 5}, 10,
			[]int64{0, math.MaxInt64, math.MaxInt64, math.MaxInt64, math.MaxInt64 - 3, -4},
			[]int64{10 - math.MaxInt64, math.MinInt64, math.MinInt64, 10 - math.MaxInt64 + 3, 14, 9},
		},
		{
			"less than can be told", []int64{math.MinInt64, math.MinInt64, math.MaxInt64, math.MaxInt64, 5}, 0,
			[]int64{0, math.MinInt64, math.MinInt64, math.MinInt64, -2},
			[]int64{math.MaxInt64, math.MaxInt64, math.MaxInt64, 2, -3},
		},
	} {
		for _, reverse := range booleans() {
			want := x.ahead
			if reverse {
				want = x.reversed
			}
			if got := cros.Lines(x.sizes, x.whole, reverse); !slices.Equal(got, want) {
				t.Errorf("%s: Lines(%d, %d, %t): %d, not %d", x.what, x.sizes, x.whole, reverse, got, want)
			}
		}
		isLined(t, x.sizes, x.whole)
	}
}

func TestAllShortLists(t *testing.T) {
	each([]int64{0, 1, 2, 3, 7, -1, -4}, 4, func(l []int64) {
		for _, whole := range []int64{0, 1, 2, 5, 10, 11, 30, -1, -3, sum(l)} {
			isLined(t, l, whole)
		}
	})
}

func TestDrawnLines(t *testing.T) {
	r := rand.New(rand.NewSource(202))
	for range 5000 {
		isLined(t, drawn(r, []int64{0, 1, 2, 3, 5, 8, 500, -1, -3}, 60), r.Int63n(400)-50)
	}
	for range 20000 {
		isLined(t, drawn(r, extremes(), 12), extremes()[r.Intn(len(extremes()))])
	}
	long := drawn(r, []int64{0, 1, 2, 3, 5, 8, 13}, 2*api.MaxNodes)
	isLined(t, long, 7000)
}

// Without reverse nothing hangs on whole.
func TestWholeIsForReverseAlone(t *testing.T) {
	r := rand.New(rand.NewSource(203))
	for range 2000 {
		l := drawn(r, []int64{0, 1, 2, 3, 5, 8, -2}, 9)
		want := cros.Lines(l, 10, false)
		for _, whole := range extremes() {
			if got := cros.Lines(l, whole, false); !slices.Equal(got, want) {
				t.Fatalf("Lines(%d, %d): %d, not %d", l, whole, got, want)
			}
		}
	}
}

// 20.2, with W2: across a line each one stands where it says.

func TestEachStandsWhereItSays(t *testing.T) {
	for line := int64(0); line <= 40; line++ {
		for outer := int64(-5); outer <= 50; outer++ {
			for _, reverse := range booleans() {
				first, last := start, end
				if reverse {
					first, last = end, start
				}
				if ahead := cros.Off(line, outer, false, false, first, reverse); ahead != 0 {
					t.Fatalf("%d in %d stands %d behind the beginning", outer, line, ahead)
				}
				if ahead := cros.Off(line, outer, false, false, last, reverse); ahead+outer != line {
					t.Fatalf("%d in %d stands at %d, not at the end", outer, line, ahead)
				}
				ahead := cros.Off(line, outer, false, false, center, reverse)
				if behind := line - outer - ahead; behind-ahead != 0 && behind-ahead != 1 {
					t.Fatalf("%d in %d has %d ahead, %d behind", outer, line, ahead, behind)
				}
			}
		}
	}
}

// What is free goes to the margins that are auto, all of it; what is missing is
// taken from none, and so stands behind the line's end.
func TestAutoMarginsTakeAll(t *testing.T) {
	for line := int64(0); line <= 40; line++ {
		for outer := int64(-5); outer <= 50; outer++ {
			for _, self := range ways()[:5] {
				for _, reverse := range booleans() {
					free := max(line-outer, 0)
					if ahead := cros.Off(line, outer, true, false, self, reverse); ahead != free {
						t.Fatalf("%d in %d has %d of %d ahead", outer, line, ahead, free)
					}
					if ahead := cros.Off(line, outer, false, true, self, reverse); ahead != 0 {
						t.Fatalf("%d in %d has %d ahead, not behind", outer, line, ahead)
					}
					ahead := cros.Off(line, outer, true, true, self, reverse)
					if behind := free - ahead; behind-ahead != 0 && behind-ahead != 1 {
						t.Fatalf("%d in %d has %d ahead, %d behind", outer, line, ahead, behind)
					}
				}
			}
		}
	}
}

// An item that stretches is, with all around it, just as long as its line, but
// where a bound keeps it from that: then it is at that bound.
func TestWhatStretchesFills(t *testing.T) {
	for line := int64(0); line <= 14; line++ {
		for around := int64(-3); around <= 16; around++ {
			for least := int64(0); least <= 14; least++ {
				for most := int64(-1); most <= 14; most++ {
					n := cros.Stretch(line, around, least, most)
					short, long := n+around < line, n+around > line
					if short && n != max(most, least) || long && n != least || n < least || most >= least && n > most {
						t.Fatalf("Stretch(%d, %d, %d, %d): %d", line, around, least, most, n)
					}
					// Where it fills its line, each way of standing is the same one.
					if short || long {
						continue
					}
					for _, self := range ways() {
						if ahead := cros.Off(line, n+around, false, false, self, self%2 == 0); ahead != 0 {
							t.Fatalf("%d in %d stands %d behind the beginning", n+around, line, ahead)
						}
					}
				}
			}
		}
	}
}

// Lines stand one behind the other, without a gap, from the end where they
// begin.
func TestLinesTouch(t *testing.T) {
	r := rand.New(rand.NewSource(204))
	for range 20000 {
		l := append(drawn(r, []int64{0, 1, 2, 3, 5, 8}, 9), r.Int63n(9))
		whole := r.Int63n(50)
		ahead, reversed := cros.Lines(l, whole, false), cros.Lines(l, whole, true)
		if ahead[0] != 0 || reversed[0]+l[0] != whole {
			t.Fatalf("Lines(%d, %d): %d, with reverse %d", l, whole, ahead, reversed)
		}
		for i := 1; i < len(l); i++ {
			if ahead[i-1]+l[i-1] != ahead[i] || reversed[i]+l[i] != reversed[i-1] {
				t.Fatalf("Lines(%d, %d): %d, with reverse %d", l, whole, ahead, reversed)
			}
		}
	}
}

// Where the whole is just their sum, lines with reverse stand as they do from
// the last to the first.
func TestReverseOfAll(t *testing.T) {
	r := rand.New(rand.NewSource(205))
	for range 5000 {
		l := drawn(r, []int64{0, 1, 2, 3, 5, 8}, 9)
		got := cros.Lines(l, sum(l), true)
		slices.Reverse(l)
		want := cros.Lines(l, 0, false)
		slices.Reverse(want)
		if !slices.Equal(got, want) {
			t.Fatalf("Lines(%d), from the last to the first: %d, not %d", l, got, want)
		}
	}
}

// Rules 1 and 3: what is handed in stays as it is, its spare room too, and what
// is answered is new memory.

func TestWhatIsHandedInStays(t *testing.T) {
	r := rand.New(rand.NewSource(206))
	for range 2000 {
		l := append(drawn(r, []int64{0, 1, 2, 3, 5, 8, -2}, 9), 7, 7, 7)
		was := slices.Clone(l)
		for _, reverse := range booleans() {
			got := cros.Lines(l[:len(l)-2], 20, reverse)
			if !slices.Equal(l, was) {
				t.Fatalf("Lines(%d) turned them to %d", was, l)
			}
			kept := slices.Clone(got)
			clear(l)
			if !slices.Equal(got, kept) {
				t.Fatalf("Lines(%d) kept what was handed in", was)
			}
			copy(l, was)
		}
	}
}

func TestAnswersAreNewMemory(t *testing.T) {
	l := []int64{3, 4, 2}
	for range 3 {
		got := cros.Lines(l, 10, true)
		if !slices.Equal(got, []int64{7, 3, 1}) {
			t.Fatalf("%d", got)
		}
		clear(got[:cap(got)])
	}
}

// 20.3

func TestNoCallPanics(t *testing.T) {
	for _, items := range ways() {
		for _, self := range ways() {
			cros.Self(items, self)
		}
	}
	for _, n := range []int64{0, 1, -1, math.MaxInt64, math.MinInt64} {
		l := slices.Repeat([]int64{n}, 1000000)
		for _, whole := range extremes() {
			for _, reverse := range booleans() {
				if got := cros.Lines(l, whole, reverse); len(got) != len(l) {
					t.Fatalf("%d lines: %d places", len(l), len(got))
				}
			}
		}
	}
}
