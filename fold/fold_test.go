package fold_test

import (
	"math"
	"math/big"
	"math/rand"
	"slices"
	"testing"

	"quoin/api"
	"quoin/fold"
)

// extremes is margins at bounds, and such that a narrower number, or a sum,
// would take for another one.
func extremes() []int64 {
	return []int64{
		0, 1, -1, 2, -2, 10, -10, api.Far - 1, api.Far, api.Far + 1, -api.Far, -api.Far - 1, 1 << 31, -1 << 31, 1 << 32,
		1<<32 + 5, -1 << 32, 5 - 1<<32, 1 << 53, 1<<53 + 1, math.MaxInt64, math.MaxInt64 - 1, math.MinInt64, math.MinInt64 + 1,
	}
}

// held is the number that is nearest to n.
func held(n *big.Int) int64 {
	switch {
	case n.IsInt64():
		return n.Int64()
	case n.Sign() < 0:
		return math.MinInt64
	}
	return math.MaxInt64
}

// 15.1, one sentence at a time.

// set is the set of margins l: "Pos, the greatest, 0 at least, and Neg, the
// least, 0 at most".
func set(l []int64) api.Fold {
	with := append([]int64{0}, l...)
	return api.Fold{Pos: slices.Max(with), Neg: slices.Min(with)}
}

// together is "Pos and Neg together".
func together(f api.Fold) int64 {
	return held(new(big.Int).Add(big.NewInt(f.Pos), big.NewInt(f.Neg)))
}

// each is the set of each of l alone.
func each(l []int64) []api.Fold {
	var folds []api.Fold
	for _, n := range l {
		folds = append(folds, fold.Of(n))
	}
	return folds
}

// 15.1

func TestOfAlone(t *testing.T) {
	for n, want := range map[int64]api.Fold{
		0:             {},
		1:             {Pos: 1},
		-1:            {Neg: -1},
		640:           {Pos: 640},
		-640:          {Neg: -640},
		api.Far + 1:   {Pos: api.Far + 1},
		-api.Far - 1:  {Neg: -api.Far - 1},
		math.MaxInt64: {Pos: math.MaxInt64},
		math.MinInt64: {Neg: math.MinInt64},
	} {
		if got := fold.Of(n); got != want {
			t.Errorf("Of(%d): %v, not %v", n, got, want)
		}
	}
}

func TestOfTellsItsMargin(t *testing.T) {
	check := func(n int64) {
		if got := fold.Of(n); got != set([]int64{n}) || fold.Value(got) != n {
			t.Fatalf("Of(%d): %v, of value %d", n, got, fold.Value(got))
		}
	}
	for n := int64(-1000); n <= 1000; n++ {
		check(n)
	}
	for _, n := range extremes() {
		check(n)
	}
}

func TestJoinByHand(t *testing.T) {
	for i, x := range []struct {
		l    []api.Fold
		want api.Fold
	}{
		{nil, api.Fold{}},
		{[]api.Fold{}, api.Fold{}},
		{[]api.Fold{{}}, api.Fold{}},
		{[]api.Fold{{}, {}, {}}, api.Fold{}},
		{[]api.Fold{{Pos: 7}}, api.Fold{Pos: 7}},
		{[]api.Fold{{Neg: -7}}, api.Fold{Neg: -7}},
		{[]api.Fold{{Pos: 7, Neg: -2}}, api.Fold{Pos: 7, Neg: -2}},
		{[]api.Fold{{Pos: 10}, {Pos: 4}, {Neg: -3}}, api.Fold{Pos: 10, Neg: -3}},
		{[]api.Fold{{Neg: -3}, {Pos: 4}, {Pos: 10}}, api.Fold{Pos: 10, Neg: -3}},
		{[]api.Fold{{Pos: 3, Neg: -4}, {Pos: 2, Neg: -5}}, api.Fold{Pos: 3, Neg: -5}},
		{[]api.Fold{{Pos: 3, Neg: -5}, {Pos: 2, Neg: -4}}, api.Fold{Pos: 3, Neg: -5}},
		{[]api.Fold{{Pos: 2, Neg: -4}, {Pos: 3, Neg: -5}, {Pos: 1, Neg: -1}}, api.Fold{Pos: 3, Neg: -5}},
		{[]api.Fold{{Neg: -1}, {Neg: -9}, {Neg: -4}}, api.Fold{Neg: -9}},
		{[]api.Fold{{Pos: 5}, {Pos: 5}, {Neg: -5}, {Neg: -5}}, api.Fold{Pos: 5, Neg: -5}},
		{[]api.Fold{{Pos: math.MaxInt64}, {Neg: math.MinInt64}}, api.Fold{Pos: math.MaxInt64, Neg: math.MinInt64}},
	} {
		if got := fold.Join(x.l...); got != x.want {
			t.Errorf("%d: Join(%v): %v, not %v", i, x.l, got, x.want)
		}
	}
	if got := fold.Join(); got != (api.Fold{}) {
		t.Errorf("Join(): %v", got)
	}
}

// A Fold that nobody would answer has a Pos below 0, or a Neg above it: of what
// is joined Pos is 0 at least, and Neg 0 at most.
func TestJoinOfNoSets(t *testing.T) {
	for _, x := range []struct {
		l    []api.Fold
		want api.Fold
	}{
		{[]api.Fold{{Pos: -3}}, api.Fold{}},
		{[]api.Fold{{Neg: 3}}, api.Fold{}},
		{[]api.Fold{{Pos: -3, Neg: 3}}, api.Fold{}},
		{[]api.Fold{{Pos: -3, Neg: -4}, {Pos: 2, Neg: 5}}, api.Fold{Pos: 2, Neg: -4}},
		{[]api.Fold{{Pos: math.MinInt64, Neg: math.MaxInt64}}, api.Fold{}},
	} {
		if got := fold.Join(x.l...); got != x.want {
			t.Errorf("Join(%v): %v, not %v", x.l, got, x.want)
		}
	}
}

func TestValueByHand(t *testing.T) {
	for _, x := range []struct {
		f    api.Fold
		want int64
	}{
		{api.Fold{}, 0},
		{api.Fold{Pos: 10, Neg: -3}, 7},
		{api.Fold{Pos: 3, Neg: -10}, -7},
		{api.Fold{Pos: 10}, 10},
		{api.Fold{Neg: -10}, -10},
		{api.Fold{Pos: 5, Neg: -5}, 0},
		{api.Fold{Pos: 2 * api.Far, Neg: -1}, 2*api.Far - 1},
		{api.Fold{Pos: 1, Neg: -2 * api.Far}, 1 - 2*api.Far},
		{api.Fold{Pos: math.MaxInt64, Neg: math.MinInt64}, -1},
		{api.Fold{Pos: -2, Neg: -3}, -5},
		{api.Fold{Pos: 2, Neg: 3}, 5},
		{api.Fold{Pos: math.MaxInt64, Neg: 1}, math.MaxInt64},
		{api.Fold{Pos: -1, Neg: math.MinInt64}, math.MinInt64},
		{api.Fold{Pos: math.MinInt64, Neg: math.MinInt64}, math.MinInt64},
		{api.Fold{Pos: math.MaxInt64, Neg: math.MaxInt64}, math.MaxInt64},
	} {
		if got := fold.Value(x.f); got != x.want {
			t.Errorf("Value(%v): %d, not %d", x.f, got, x.want)
		}
	}
}

func TestValueIsBothTogether(t *testing.T) {
	for _, pos := range extremes() {
		for _, neg := range extremes() {
			f := api.Fold{Pos: pos, Neg: neg}
			if got, want := fold.Value(f), together(f); got != want {
				t.Errorf("Value(%v): %d, not %d", f, got, want)
			}
		}
	}
}

func TestJoinIsAllMargins(t *testing.T) {
	check := func(l ...int64) {
		t.Helper()
		if got := fold.Join(each(l)...); got != set(l) {
			t.Fatalf("Join of %v: %v, not %v", l, got, set(l))
		}
	}
	check()
	for a := int64(-3); a <= 3; a++ {
		check(a)
		for b := int64(-3); b <= 3; b++ {
			check(a, b)
			for c := int64(-3); c <= 3; c++ {
				check(a, b, c)
				for d := int64(-3); d <= 3; d++ {
					check(a, b, c, d)
				}
			}
		}
	}
	for _, a := range extremes() {
		for _, b := range extremes() {
			for _, c := range extremes() {
				check(a, b, c)
			}
		}
	}
}

// However margins are parted in sets ahead of it, and in which order they come,
// their set is the same one.
func TestJoinOfParts(t *testing.T) {
	r := rand.New(rand.NewSource(15))
	for range 20000 {
		l := make([]int64, r.Intn(12))
		for i := range l {
			l[i] = r.Int63n(41) - 20
			if r.Intn(8) == 0 {
				l[i] = extremes()[r.Intn(len(extremes()))]
			}
		}
		want := set(l)
		at := r.Intn(len(l) + 1)
		parts := fold.Join(fold.Join(each(l[:at])...), fold.Join(each(l[at:])...))
		r.Shuffle(len(l), func(i, j int) { l[i], l[j] = l[j], l[i] })
		if turned := fold.Join(each(l)...); parts != want || turned != want {
			t.Fatalf("Join of %v: %v in parts, %v in that order, not %v", l, parts, turned, want)
		}
	}
}

func TestJoinOfMany(t *testing.T) {
	l := make([]api.Fold, 100000)
	for i := range l {
		l[i] = fold.Of(int64(i%2000 - 1000))
	}
	l[len(l)-1] = fold.Of(5000)
	l[len(l)/2] = fold.Of(-6000)
	if got := fold.Join(l...); got != (api.Fold{Pos: 5000, Neg: -6000}) {
		t.Error(got)
	}
}

// Rule 3: what is handed in stays as it is, its spare room too.
func TestJoinTurnsNothing(t *testing.T) {
	room := []api.Fold{{Pos: 3, Neg: -4}, {Pos: 9, Neg: -1}, {Pos: -2, Neg: 2}, {Pos: 77, Neg: -77}}
	was := slices.Clone(room)
	if got := fold.Join(room[:3]...); got != (api.Fold{Pos: 9, Neg: -4}) {
		t.Error(got)
	}
	if !slices.Equal(room, was) {
		t.Errorf("%v was turned to %v", was, room)
	}
}

// 15.2

// Of margins that meet the greatest holds, less the most negative one.
func TestMarginsMeet(t *testing.T) {
	if got := fold.Value(fold.Join(fold.Of(10), fold.Of(4), fold.Of(-3))); got != 7 {
		t.Errorf("10, 4, -3: %d", got)
	}
	r := rand.New(rand.NewSource(152))
	for range 20000 {
		l := make([]int64, 1+r.Intn(6))
		for i := range l {
			l[i] = r.Int63n(2001) - 1000
		}
		greatest, most := slices.Max(l), -slices.Min(l)
		want := max(greatest, 0) - max(most, 0)
		if got := fold.Value(fold.Join(each(l)...)); got != want {
			t.Fatalf("%v: %d, not %d", l, got, want)
		}
	}
}

// 15.3

func TestNoCallPanics(t *testing.T) {
	defer func() {
		if p := recover(); p != nil {
			t.Fatal(p)
		}
	}()
	fold.Join()
	fold.Join([]api.Fold(nil)...)
	for _, a := range extremes() {
		for _, b := range extremes() {
			f := api.Fold{Pos: a, Neg: b}
			fold.Value(fold.Join(f, fold.Of(a), fold.Of(b)))
			fold.Value(f)
		}
	}
}
