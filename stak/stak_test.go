package stak_test

import (
	"math"
	"math/big"
	"math/rand"
	"slices"
	"testing"

	"quoin/api"
	"quoin/fold"
	"quoin/stak"
)

// extremes is lengths at bounds, and such that a narrower number, or a sum,
// would take for another one.
func extremes() []int64 {
	return []int64{
		0, 1, -1, 2, -2, 10, -10, api.Far - 1, api.Far, api.Far + 1, -api.Far, -api.Far - 1, 1 << 31, -1 << 31, 1 << 32,
		1<<32 + 5, -1 << 32, 5 - 1<<32, 1 << 53, 1<<53 + 1, math.MaxInt64, math.MaxInt64 - 1, math.MinInt64, math.MinInt64 + 1,
		math.MaxInt64 / 2, math.MinInt64 / 2,
	}
}

func set(pos, neg int64) api.Fold { return api.Fold{Pos: pos, Neg: neg} }

// box is one of height h, with these margins.
func box(top, h, bottom int64) api.Laid {
	return api.Laid{H: h, Top: fold.Of(top), Bottom: fold.Of(bottom)}
}

// empty is a box through which its margins meet.
func empty(top, bottom int64) api.Laid {
	b := box(top, 0, bottom)
	b.Through = true
	return b
}

// ends calls do with all four ways in which both ends are open or not.
func ends(do func(top, bottom bool)) {
	for _, top := range []bool{false, true} {
		for _, bottom := range []bool{false, true} {
			do(top, bottom)
		}
	}
}

// held is the number that is nearest to n.
func held(n *big.Int) int64 {
	switch {
	case n.IsInt64():
		return n.Int64()
	case n.Sign() < 0:
		return math.MinInt64
	}
	return math.MaxInt64
}

// 16.1, one sentence at a time.

func joined(f, g api.Fold) api.Fold {
	return set(max(0, f.Pos, g.Pos), min(0, f.Neg, g.Neg))
}

func value(f api.Fold) *big.Int {
	n := new(big.Int).Add(big.NewInt(f.Pos), big.NewInt(f.Neg))
	return big.NewInt(held(n))
}

func told(l []api.Laid, top, bottom bool) ([]int64, api.Stacked) {
	var at []int64
	var all api.Stacked
	y := new(big.Int)
	var f api.Fold
	stillAtTop := top
	for _, b := range l {
		f = joined(f, b.Top)
		if b.Through {
			stands := new(big.Int).Set(y)
			if !stillAtTop {
				stands.Add(stands, value(f))
			}
			at = append(at, held(stands))
			f = joined(f, b.Bottom)
			continue
		}
		stands := new(big.Int)
		if stillAtTop {
			all.Top = f
			stillAtTop = false
		} else {
			stands.Add(y, value(f))
		}
		at = append(at, held(stands))
		y = new(big.Int).Add(stands, big.NewInt(b.H))
		f = b.Bottom
	}
	if stillAtTop {
		all.Top = f
		all.H = 0
		all.Bottom = api.Fold{}
		all.Through = bottom
		return at, all
	}
	if bottom {
		all.Bottom = f
	} else {
		y.Add(y, value(f))
	}
	all.H = max(held(y), 0)
	all.Through = false
	return at, all
}

// isAsTold holds all answers of l against the chapter's words.
func isAsTold(t *testing.T, l []api.Laid) {
	t.Helper()
	ends(func(top, bottom bool) {
		at, all := stak.Stack(l, top, bottom)
		wantAt, want := told(l, top, bottom)
		if !slices.Equal(at, wantAt) || all != want {
			t.Fatalf("Stack(%+v, %t, %t): %d %+v, not %d %+v", l, top, bottom, at, all, wantAt, want)
		}
	})
}

// 16.1

func TestOfNone(t *testing.T) {
	for _, l := range [][]api.Laid{nil, {}, make([]api.Laid, 0, 5)} {
		ends(func(top, bottom bool) {
			at, all := stak.Stack(l, top, bottom)
			if len(at) != 0 || all != (api.Stacked{Through: top && bottom}) {
				t.Errorf("none, %t, %t: %d %+v", top, bottom, at, all)
			}
		})
	}
}

func TestByHand(t *testing.T) {
	for i, x := range []struct {
		l           []api.Laid
		top, bottom bool
		at          []int64
		want        api.Stacked
	}{
		// One box alone, its margins within or out of each end.
		{[]api.Laid{box(12, 30, 8)}, false, false, []int64{12}, api.Stacked{H: 50}},
		{[]api.Laid{box(12, 30, 8)}, true, false, []int64{0}, api.Stacked{Top: set(12, 0), H: 38}},
		{[]api.Laid{box(12, 30, 8)}, false, true, []int64{12}, api.Stacked{Bottom: set(8, 0), H: 42}},
		{[]api.Laid{box(12, 30, 8)}, true, true, []int64{0}, api.Stacked{Top: set(12, 0), Bottom: set(8, 0), H: 30}},
		{[]api.Laid{box(-12, 30, -8)}, false, false, []int64{-12}, api.Stacked{H: 10}},
		{[]api.Laid{box(-12, 30, -8)}, true, true, []int64{0}, api.Stacked{Top: set(0, -12), Bottom: set(0, -8), H: 30}},
		{[]api.Laid{box(0, 30, 0)}, true, true, []int64{0}, api.Stacked{H: 30}},
		// Of two boxes' margins the greatest holds, less the most negative one.
		{[]api.Laid{box(1, 30, 8), box(20, 40, 2)}, false, false, []int64{1, 51}, api.Stacked{H: 93}},
		{[]api.Laid{box(1, 30, 20), box(8, 40, 2)}, true, true, []int64{0, 50}, api.Stacked{Top: set(1, 0), Bottom: set(2, 0), H: 90}},
		{[]api.Laid{box(1, 30, -8), box(20, 40, 2)}, true, false, []int64{0, 42}, api.Stacked{Top: set(1, 0), H: 84}},
		{[]api.Laid{box(1, 30, -8), box(-20, 40, 2)}, false, true, []int64{1, 11}, api.Stacked{Bottom: set(2, 0), H: 51}},
		// A box of no height that isn't through keeps margins apart.
		{[]api.Laid{box(0, 30, 8), box(5, 0, 6), box(7, 40, 0)}, false, false, []int64{0, 38, 45}, api.Stacked{H: 85}},
		{[]api.Laid{box(5, 0, 6)}, true, true, []int64{0}, api.Stacked{Top: set(5, 0), Bottom: set(6, 0)}},
		// An empty one stands where its own margin at the top leaves it; that at
		// its bottom draws what follows.
		{[]api.Laid{box(0, 30, 8), empty(9, 15), box(2, 40, 0)}, false, false, []int64{0, 39, 45}, api.Stacked{H: 85}},
		{[]api.Laid{box(0, 30, 8), empty(-9, 15), box(2, 40, 0)}, false, false, []int64{0, 29, 36}, api.Stacked{H: 76}},
		{[]api.Laid{box(0, 30, 8), empty(1, 2), empty(3, 20), empty(4, -6)}, false, false, []int64{0, 38, 38, 50}, api.Stacked{H: 44}},
		{[]api.Laid{box(0, 30, 8), empty(1, 2), empty(3, 20), empty(4, -6)}, false, true, []int64{0, 38, 38, 50}, api.Stacked{Bottom: set(20, -6), H: 30}},
		// At an open top it stands at 0, as what follows it.
		{[]api.Laid{empty(9, 15), empty(-4, 1), box(2, 40, 3)}, true, false, []int64{0, 0, 0}, api.Stacked{Top: set(15, -4), H: 43}},
		{[]api.Laid{empty(9, 15), empty(-4, 1), box(2, 40, 3)}, false, false, []int64{9, 11, 11}, api.Stacked{H: 54}},
		{[]api.Laid{empty(9, 15), box(2, 40, 3), empty(30, 5), box(6, 1, 0)}, true, true, []int64{0, 0, 70, 70}, api.Stacked{Top: set(15, 0), H: 71}},
		// None but empty ones.
		{[]api.Laid{empty(9, -15)}, true, true, []int64{0}, api.Stacked{Top: set(9, -15), Through: true}},
		{[]api.Laid{empty(9, -15)}, true, false, []int64{0}, api.Stacked{Top: set(9, -15)}},
		{[]api.Laid{empty(9, -15)}, false, true, []int64{9}, api.Stacked{Bottom: set(9, -15)}},
		{[]api.Laid{empty(9, -15)}, false, false, []int64{9}, api.Stacked{}},
		{[]api.Laid{empty(9, -5)}, false, false, []int64{9}, api.Stacked{H: 4}},
		// Margins that drew the end above the top.
		{[]api.Laid{box(-50, 30, 8)}, false, false, []int64{-50}, api.Stacked{}},
		{[]api.Laid{box(-50, 30, 8)}, false, true, []int64{-50}, api.Stacked{Bottom: set(8, 0)}},
		{[]api.Laid{box(0, 30, -31)}, true, false, []int64{0}, api.Stacked{}},
		{[]api.Laid{box(0, 30, -30)}, true, false, []int64{0}, api.Stacked{}},
		{[]api.Laid{box(0, 30, -29)}, true, false, []int64{0}, api.Stacked{H: 1}},
		{[]api.Laid{box(-50, 30, 8), box(-20, 1, 0)}, false, false, []int64{-50, -32}, api.Stacked{}},
		// Sets of several margins.
		{[]api.Laid{
			{H: 30, Top: set(7, -2), Bottom: set(9, -4)}, {H: 40, Top: set(3, -6), Bottom: set(1, -1)},
		}, false, false, []int64{5, 38}, api.Stacked{H: 78}},
		{[]api.Laid{
			{Top: set(7, -2), Bottom: set(9, -4), Through: true}, {H: 40, Top: set(3, -6), Bottom: set(1, -1)},
		}, true, true, []int64{0, 0}, api.Stacked{Top: set(9, -6), Bottom: set(1, -1), H: 40}},
	} {
		at, got := stak.Stack(x.l, x.top, x.bottom)
		if !slices.Equal(at, x.at) || got != x.want {
			t.Errorf("%d: %d %+v, not %d %+v", i, at, got, x.at, x.want)
		}
	}
}

// The height of an empty box does not count: what follows meets its margins.
func TestHeightOfAnEmptyOne(t *testing.T) {
	for _, h := range []int64{0, 1, 64, -64, math.MaxInt64, math.MinInt64} {
		through := empty(3, 9)
		through.H = h
		for _, l := range [][]api.Laid{
			{through}, {box(1, 10, 2), through}, {through, box(1, 10, 2)}, {box(1, 10, 2), through, box(4, 10, 6)},
		} {
			low := slices.Clone(l)
			for i := range low {
				if low[i].Through {
					low[i].H = 0
				}
			}
			ends(func(top, bottom bool) {
				at, all := stak.Stack(l, top, bottom)
				wantAt, want := stak.Stack(low, top, bottom)
				if !slices.Equal(at, wantAt) || all != want {
					t.Errorf("%+v, %t, %t: %d %+v, not %d %+v", l, top, bottom, at, all, wantAt, want)
				}
			})
		}
	}
}

// few is boxes with such margins as turn what is next to them.
func few() []api.Laid {
	var l []api.Laid
	for _, through := range []bool{false, true} {
		for _, top := range []api.Fold{{}, set(2, 0), set(5, -7)} {
			for _, bottom := range []api.Fold{{}, set(3, 0), set(0, -4)} {
				l = append(l, api.Laid{H: 6, Top: top, Bottom: bottom, Through: through})
			}
		}
	}
	return l
}

func TestStacksOfFew(t *testing.T) {
	isAsTold(t, nil)
	for _, a := range few() {
		isAsTold(t, []api.Laid{a})
		for _, b := range few() {
			isAsTold(t, []api.Laid{a, b})
			for _, c := range few() {
				isAsTold(t, []api.Laid{a, b, c})
			}
		}
	}
}

// draw draws boxes.
type draw struct {
	*rand.Rand
	// lengths is what they are made of.
	lengths []int64
}

func (r draw) length() int64 { return r.lengths[r.Intn(len(r.lengths))] }

func (r draw) set() api.Fold {
	return fold.Join(fold.Of(r.length()), fold.Of(r.length()))
}

func (r draw) boxes(most int) []api.Laid {
	l := make([]api.Laid, r.Intn(most+1))
	for i := range l {
		l[i] = api.Laid{H: max(r.length(), 0), Top: r.set(), Bottom: r.set(), Through: r.Intn(3) == 0}
	}
	return l
}

// small is lengths from -most to most.
func small(most int64) []int64 {
	var l []int64
	for n := -most; n <= most; n++ {
		l = append(l, n)
	}
	return l
}

func TestDrawnStacks(t *testing.T) {
	r := draw{rand.New(rand.NewSource(16)), small(20)}
	for range 30000 {
		isAsTold(t, r.boxes(12))
	}
}

// What no block is like is reckoned with as it is: heights below 0, sets that
// nobody would answer, and lengths that an int64's sum would wrap round.
func TestStacksOfExtremes(t *testing.T) {
	r := draw{rand.New(rand.NewSource(161)), extremes()}
	for range 60000 {
		l := r.boxes(7)
		for i := range l {
			if r.Intn(3) == 0 {
				l[i].H = r.length()
			}
			if r.Intn(3) == 0 {
				l[i].Top = set(r.length(), r.length())
			}
			if r.Intn(3) == 0 {
				l[i].Bottom = set(r.length(), r.length())
			}
		}
		isAsTold(t, l)
	}
}

func TestNothingWrapsRound(t *testing.T) {
	high, low := int64(math.MaxInt64), int64(math.MinInt64)
	at, all := stak.Stack([]api.Laid{box(0, high, 0), box(5, high, 0), box(low, 4, 0), box(low, 3, 2)}, false, false)
	if !slices.Equal(at, []int64{0, high, high, 7}) || all != (api.Stacked{H: 12}) {
		t.Error(at, all)
	}
	at, all = stak.Stack([]api.Laid{box(low, 0, low), box(low, 1, 0)}, false, true)
	if !slices.Equal(at, []int64{low, low}) || all != (api.Stacked{}) {
		t.Error(at, all)
	}
	at, all = stak.Stack([]api.Laid{box(0, high, high), box(0, high, high)}, true, false)
	if !slices.Equal(at, []int64{0, high}) || all != (api.Stacked{H: high}) {
		t.Error(at, all)
	}
}

func TestMany(t *testing.T) {
	l := make([]api.Laid, 200000)
	for i := range l {
		l[i] = box(4, 10, 6)
		if i%2 == 1 {
			l[i] = empty(7, -1)
		}
	}
	at, all := stak.Stack(l, true, true)
	// Each but the first has 7 - 1 ahead of it, where the empty one adds its own.
	if want := int64(len(l)/2)*16 - 6; all.H != want || all.Top != set(4, 0) || all.Bottom != set(7, -1) {
		t.Errorf("%+v, not of height %d", all, want)
	}
	for i, y := range at {
		want := int64(i/2) * 16
		if i%2 == 1 {
			want += 17
		}
		if y != want {
			t.Fatalf("%d at %d, not %d", i, y, want)
		}
	}
}

// 16.2

// Between two boxes that aren't empty is what holds of all margins between
// them, those of each empty one there too.
func TestMarginsMeetBetween(t *testing.T) {
	r := draw{rand.New(rand.NewSource(162)), small(30)}
	for range 20000 {
		l := r.boxes(9)
		ends(func(top, bottom bool) {
			at, _ := stak.Stack(l, top, bottom)
			last := -1
			var between []api.Fold
			for i, b := range l {
				between = append(between, b.Top)
				if b.Through {
					between = append(between, b.Bottom)
					continue
				}
				if last >= 0 {
					if got, want := at[i]-at[last]-l[last].H, fold.Value(fold.Join(between...)); got != want {
						t.Fatalf("%+v: %d between %d and %d, not %d", l, got, last, i, want)
					}
				}
				last, between = i, []api.Fold{b.Bottom}
			}
		})
	}
}

// At an end that is open margins stand without, and at one that isn't, within:
// they are the same ones.
func TestMarginsMeetAtEnds(t *testing.T) {
	r := draw{rand.New(rand.NewSource(163)), small(30)}
	for range 20000 {
		l := append(r.boxes(4), box(r.length(), 300, r.length()))
		l = append(l, r.boxes(4)...)
		within, shut := stak.Stack(l, false, false)
		at, open := stak.Stack(l, true, true)
		above, below := fold.Value(open.Top), fold.Value(open.Bottom)
		first := slices.IndexFunc(l, func(b api.Laid) bool { return !b.Through })
		if at[first] != 0 || slices.ContainsFunc(at[:first], func(y int64) bool { return y != 0 }) {
			t.Fatalf("%+v begin at %d", l, at)
		}
		for i := first; i < len(l); i++ {
			if within[i] != at[i]+above {
				t.Fatalf("%+v: %d at %d where the top is open, else at %d", l, i, at[i], within[i])
			}
		}
		if shut.Top != (api.Fold{}) || shut.Bottom != (api.Fold{}) || shut.H != max(open.H+above+below, 0) {
			t.Fatalf("%+v: %+v where both ends are open, else %+v", l, open, shut)
		}
		_, half := stak.Stack(l, true, false)
		if half != (api.Stacked{Top: open.Top, H: max(open.H+below, 0)}) {
			t.Fatalf("%+v: %+v where both ends are open, %+v with the top", l, open, half)
		}
		_, half = stak.Stack(l, false, true)
		if half != (api.Stacked{Bottom: open.Bottom, H: max(open.H+above, 0)}) {
			t.Fatalf("%+v: %+v where both ends are open, %+v with the bottom", l, open, half)
		}
	}
}

// around is a block without margins and edges of its own around boxes.
func around(all api.Stacked) api.Laid {
	return api.Laid{H: all.H, Top: all.Top, Bottom: all.Bottom, Through: all.Through}
}

// Margins meet through open blocks, however deep: what isn't empty stands where
// it would if there were no such block around it.
func TestMarginsMeetThroughBlocks(t *testing.T) {
	r := draw{rand.New(rand.NewSource(164)), small(30)}
	for range 20000 {
		// So high that no stack of them would be of a height below 0.
		l := r.boxes(10)
		for i := range l {
			l[i].H += 200
		}
		from := r.Intn(len(l) + 1)
		to := from + r.Intn(len(l)-from+1)
		inner, within := stak.Stack(l[from:to], true, true)
		outer := append(slices.Clone(l[:from]), around(within))
		outer = append(outer, l[to:]...)
		ends(func(top, bottom bool) {
			flat, all := stak.Stack(l, top, bottom)
			at, nested := stak.Stack(outer, top, bottom)
			if nested != all {
				t.Fatalf("%+v, with a block around %d to %d: %+v, not %+v", l, from, to, nested, all)
			}
			stands := slices.Clone(at[:from])
			for _, y := range inner {
				stands = append(stands, at[from]+y)
			}
			stands = append(stands, at[from+1:]...)
			for i, b := range l {
				if !b.Through && stands[i] != flat[i] {
					t.Fatalf("%+v, with a block around %d to %d: %d at %d, not %d", l, from, to, i, stands[i], flat[i])
				}
			}
		})
	}
}

// Rules 1 and 3

func TestNothingIsTurnedOrShared(t *testing.T) {
	room := []api.Laid{box(3, 10, 4), empty(-5, 6), box(1, 20, 2), box(77, 77, 77)}
	was := slices.Clone(room)
	ends(func(top, bottom bool) {
		first, _ := stak.Stack(room[:3], top, bottom)
		want := slices.Clone(first)
		second, _ := stak.Stack(room[:3], top, bottom)
		for i := range second[:cap(second)] {
			second[:cap(second)][i] = -1
		}
		if !slices.Equal(first, want) {
			t.Errorf("%d was turned to %d", want, first)
		}
	})
	if !slices.Equal(room, was) {
		t.Errorf("%+v was turned to %+v", was, room)
	}
}

// 16.3

func TestNoCallPanics(t *testing.T) {
	defer func() {
		if p := recover(); p != nil {
			t.Fatal(p)
		}
	}()
	for _, a := range extremes() {
		for _, b := range extremes() {
			for _, through := range []bool{false, true} {
				x := api.Laid{H: a, Top: set(b, a), Bottom: set(a, b), Through: through}
				ends(func(top, bottom bool) {
					stak.Stack([]api.Laid{x}, top, bottom)
					stak.Stack([]api.Laid{x, {}, x, {Through: true}, x}, top, bottom)
				})
			}
		}
	}
}
