package free_test

import (
	"math"
	"math/big"
	"math/rand"
	"slices"
	"testing"

	"quoin/api"
	"quoin/free"
)

const (
	most   = 1 << 43
	inmost = 1 << 55
)

func it(base, least, most int64, grow, shrink int, around int64) api.Flexy {
	return api.Flexy{Base: base, Min: least, Max: most, Grow: grow, Shrink: shrink, Around: around}
}

// grower has no bounds, and can't shrink; shrinker can't grow.
func grower(base int64, grow int) api.Flexy     { return it(base, 0, -1, grow, 0, 0) }
func shrinker(base int64, shrink int) api.Flexy { return it(base, 0, -1, 0, shrink, 0) }

// within answers f with those bounds.
func within(f api.Flexy, least, most int64) api.Flexy {
	f.Min, f.Max = least, most
	return f
}

func around(f api.Flexy, n int64) api.Flexy {
	f.Around = n
	return f
}

func times(f api.Flexy, n int) []api.Flexy {
	return slices.Repeat([]api.Flexy{f}, n)
}

// 18.1, one sentence at a time, in numbers of any size.

func fits(n, least, most int64) bool { return n >= least && n <= most }

func isOk(l []api.Flexy) bool {
	for _, f := range l {
		if !fits(f.Base, 0, most) || !fits(f.Min, 0, most) || !fits(f.Max, -1, most) || !fits(f.Around, -most, most) {
			return false
		}
		if !fits(int64(f.Grow), 0, 100) || !fits(int64(f.Shrink), 0, 100) {
			return false
		}
	}
	return len(l) <= 500
}

func clamped(f api.Flexy, n *big.Int) *big.Int {
	if most := big.NewInt(f.Max); f.Max != -1 && n.Cmp(most) > 0 {
		n = most
	}
	if least := big.NewInt(f.Min); n.Cmp(least) < 0 {
		n = least
	}
	if n.Sign() < 0 {
		n = new(big.Int)
	}
	return n
}

func hypOf(f api.Flexy) *big.Int { return clamped(f, big.NewInt(f.Base)) }

func growing(l []api.Flexy, inner int64) bool {
	all := new(big.Int)
	for _, f := range l {
		all.Add(all, hypOf(f))
		all.Add(all, big.NewInt(f.Around))
	}
	return all.Cmp(big.NewInt(inner)) < 0
}

// turns answers whether f isn't frozen from the beginning on.
func turns(f api.Flexy, grows bool) bool {
	if grows {
		return f.Grow != 0 && big.NewInt(f.Base).Cmp(hypOf(f)) <= 0
	}
	return f.Shrink != 0 && big.NewInt(f.Base).Cmp(hypOf(f)) >= 0
}

func weightOf(f api.Flexy, grows bool) *big.Int {
	if grows {
		return big.NewInt(int64(f.Grow))
	}
	return new(big.Int).Mul(big.NewInt(f.Base), big.NewInt(int64(f.Shrink)))
}

// shared answers the parts of n, all of which fall to someone.
func shared(n *big.Int, weights []*big.Int) []*big.Int {
	whole := new(big.Int)
	for _, w := range weights {
		whole.Add(whole, w)
	}
	parts := make([]*big.Int, len(weights))
	upTo, given := new(big.Int), new(big.Int)
	for k, w := range weights {
		parts[k] = new(big.Int)
		if whole.Sign() == 0 {
			continue
		}
		upTo.Add(upTo, w)
		// By a number above 0 Div rounds down.
		now := new(big.Int).Mul(n, upTo)
		now.Div(now, whole)
		parts[k].Sub(now, given)
		given = now
	}
	return parts
}

// resolved answers also how many rounds it took.
func resolved(l []api.Flexy, inner int64) ([]int64, int) {
	if !isOk(l) || !fits(inner, -most, inmost) {
		return nil, 0
	}
	grows := growing(l, inner)
	sizes, frozen := make([]*big.Int, len(l)), make([]bool, len(l))
	for i, f := range l {
		sizes[i], frozen[i] = hypOf(f), !turns(f, grows)
	}
	rounds := 0
	for slices.Contains(frozen, false) {
		rounds++
		round(l, sizes, frozen, inner, grows)
	}
	var answer []int64
	for _, n := range sizes {
		answer = append(answer, n.Int64())
	}
	return answer, rounds
}

func round(l []api.Flexy, sizes []*big.Int, frozen []bool, inner int64, grows bool) {
	left := big.NewInt(inner)
	var weights []*big.Int
	for i, f := range l {
		left.Sub(left, big.NewInt(f.Around))
		if frozen[i] {
			left.Sub(left, sizes[i])
			continue
		}
		left.Sub(left, big.NewInt(f.Base))
		weights = append(weights, weightOf(f, grows))
	}
	if grows != (left.Sign() > 0) {
		left.SetInt64(0)
	}
	parts := shared(left, weights)
	by, violation := make([]int, len(l)), new(big.Int)
	for i, f := range l {
		if frozen[i] {
			continue
		}
		n := new(big.Int).Add(big.NewInt(f.Base), parts[0])
		parts = parts[1:]
		sizes[i] = clamped(f, n)
		by[i] = sizes[i].Cmp(n)
		violation.Add(violation, sizes[i])
		violation.Sub(violation, n)
	}
	for i := range l {
		if violation.Sign() == 0 || by[i] == violation.Sign() {
			frozen[i] = true
		}
	}
}

func isResolved(t *testing.T, l []api.Flexy, inner int64) {
	t.Helper()
	got := free.Resolve(l, inner)
	if want, _ := resolved(l, inner); !slices.Equal(got, want) {
		t.Fatalf("Resolve(%d, %d): %d, not %d", l, inner, got, want)
	}
}

// each calls do with all lists of up to most of some.
func each(some []api.Flexy, most int, do func([]api.Flexy)) {
	var grow func([]api.Flexy)
	grow = func(l []api.Flexy) {
		do(l)
		if len(l) == most {
			return
		}
		for _, f := range some {
			grow(append(slices.Clip(l), f))
		}
	}
	grow(nil)
}

func pick[T any](r *rand.Rand, some ...T) T {
	return some[r.Intn(len(some))]
}

// few draws up to n items of a few units.
func few(r *rand.Rand, n int) []api.Flexy {
	l := make([]api.Flexy, r.Intn(n+1))
	for i := range l {
		l[i] = it(r.Int63n(9), pick(r, 0, 0, r.Int63n(9)), pick(r, -1, -1, r.Int63n(14)), pick(r, 0, 1, 1, 2, 5), pick(r, 0, 1, 1, 2, 5), int64(pick(r, 0, 0, 2, -1)))
	}
	return l
}

// far draws up to n items at their bounds, and between them.
func far(r *rand.Rand, n int) []api.Flexy {
	l := make([]api.Flexy, r.Intn(n+1))
	length := func() int64 {
		return pick(r, 0, 1, most, most-1, r.Int63n(most), r.Int63n(1<<33), 1<<31, 1<<32, 1<<32+5)
	}
	factor := func() int { return pick(r, 0, 1, 99, 100, r.Intn(101)) }
	for i := range l {
		l[i] = it(length(), pick(r, 0, length()), pick(r, -1, length()), factor(), factor(), pick(r, 0, length(), -length()))
	}
	return l
}

// room draws an inner in which something is left of l, or missing.
func room(r *rand.Rand, l []api.Flexy) int64 {
	all := int64(0)
	for _, f := range l {
		all += f.Base + f.Around
	}
	return max(-most, min(all+pick(r, 0, 1, -1, r.Int63n(40), -r.Int63n(40), r.Int63n(inmost), -r.Int63n(inmost), all/2, -all/3), inmost))
}

// 18.1: Ok

func TestOk(t *testing.T) {
	good := it(5, 1, 9, 1, 1, 3)
	// Each field by its name, at an end, just beyond it, and far beyond.
	fields := []struct {
		name        string
		least, most int64
		set         func(f *api.Flexy, n int64)
	}{
		{"Base", 0, most, func(f *api.Flexy, n int64) { f.Base = n }},
		{"Min", 0, most, func(f *api.Flexy, n int64) { f.Min = n }},
		{"Max", -1, most, func(f *api.Flexy, n int64) { f.Max = n }},
		{"Grow", 0, 100, func(f *api.Flexy, n int64) { f.Grow = int(n) }},
		{"Shrink", 0, 100, func(f *api.Flexy, n int64) { f.Shrink = int(n) }},
		{"Around", -most, most, func(f *api.Flexy, n int64) { f.Around = n }},
	}
	for _, x := range fields {
		for _, n := range []int64{
			x.least, x.least + 1, x.most, x.most - 1, x.least - 1, x.most + 1, 0, 1 << 32, -1 << 32, 1<<32 + 1,
			math.MaxInt64, math.MinInt64, -1 << 43, 1<<44 + 5, 1<<63 - 5,
		} {
			f := good
			x.set(&f, n)
			want := n >= x.least && n <= x.most
			for i := range 3 {
				l := []api.Flexy{good, good, good}
				l[i] = f
				if free.Ok(l) != want {
					t.Errorf("%s %d of the item %d: not %t", x.name, n, i, want)
				}
				if got := free.Resolve(l, 10); len(got) != 0 && !want || len(got) != 3 && want {
					t.Errorf("%s %d of the item %d: %d", x.name, n, i, got)
				}
			}
		}
	}
}

func TestOkOfSoMany(t *testing.T) {
	if !free.Ok(nil) || !free.Ok([]api.Flexy{}) || !free.Ok(make([]api.Flexy, 0, 501)) {
		t.Error("none")
	}
	for n, want := range map[int]bool{1: true, 499: true, 500: true, 501: false, 1000: false, 100000: false} {
		for _, f := range []api.Flexy{{}, grower(1, 1), it(most, most, most, 100, 100, most), it(0, 0, -1, 0, 0, -most)} {
			if got := free.Ok(times(f, n)); got != want {
				t.Errorf("%d times %d: %t", n, f, got)
			}
			if got := len(free.Resolve(times(f, n), 5)); got != 0 && !want || got != n && want {
				t.Errorf("%d times %d: %d sizes", n, f, got)
			}
		}
		// A fault at the end of many is one.
		if free.Ok(append(times(api.Flexy{}, n), grower(-1, 1))) {
			t.Errorf("behind %d", n)
		}
	}
}

func TestInnerWithinItsBounds(t *testing.T) {
	l := []api.Flexy{it(0, 0, -1, 1, 1, 0), it(4, 0, -1, 1, 1, 0)}
	for _, x := range []struct {
		inner int64
		want  []int64
	}{
		{-most, []int64{0, 0}},
		{-most + 1, []int64{0, 0}},
		{-most - 1, nil},
		{-inmost, nil},
		{math.MinInt64, nil},
		{inmost, []int64{inmost/2 - 2, inmost/2 + 2}},
		{inmost - 1, []int64{inmost/2 - 3, inmost/2 + 2}},
		{inmost + 1, nil},
		{2 * inmost, nil},
		{math.MaxInt64, nil},
	} {
		if got := free.Resolve(l, x.inner); !slices.Equal(got, x.want) {
			t.Errorf("inner %d: %d, not %d", x.inner, got, x.want)
		}
	}
	for _, inner := range []int64{0, 10, -most, inmost, math.MinInt64, math.MaxInt64} {
		for _, none := range [][]api.Flexy{nil, {}} {
			if got := free.Resolve(none, inner); len(got) != 0 {
				t.Errorf("none in %d: %d", inner, got)
			}
		}
	}
}

// 18.1: Resolve

func TestResolveByHand(t *testing.T) {
	for _, x := range []struct {
		what  string
		l     []api.Flexy
		inner int64
		want  []int64
	}{
		{"the example", times(grower(0, 1), 2), 10, []int64{5, 5}},
		{"all of it, to the unit", times(grower(0, 1), 3), 10, []int64{3, 3, 4}},
		{"by factors", []api.Flexy{grower(0, 1), grower(0, 3)}, 12, []int64{3, 9}},
		{"Bases ahead of factors", []api.Flexy{grower(6, 1), grower(0, 1)}, 10, []int64{8, 2}},
		{"none grows", []api.Flexy{grower(0, 0), grower(0, 0)}, 10, []int64{0, 0}},
		{"a factor of 0", []api.Flexy{grower(3, 0), grower(0, 1), grower(2, 0)}, 10, []int64{3, 5, 2}},
		{"in order", []api.Flexy{grower(0, 2), grower(0, 1), grower(0, 2)}, 7, []int64{2, 2, 3}},
		{"a factor of 100", []api.Flexy{grower(0, 100), grower(0, 50)}, 30, []int64{20, 10}},

		{"shrink by Base", []api.Flexy{shrinker(10, 1), shrinker(30, 1)}, 20, []int64{5, 15}},
		{"shrink by Base and factor", []api.Flexy{shrinker(10, 3), shrinker(30, 1)}, 28, []int64{4, 24}},
		{"what is missing is rounded down", times(shrinker(7, 1), 3), 11, []int64{3, 4, 4}},
		{"a Shrink of 0", []api.Flexy{shrinker(10, 0), shrinker(10, 1)}, 14, []int64{10, 4}},
		{"none shrinks", times(shrinker(10, 0), 2), 5, []int64{10, 10}},
		{"Bases of 0 give nothing", []api.Flexy{shrinker(0, 1), shrinker(8, 1), shrinker(0, 9)}, 5, []int64{0, 5, 0}},
		{"all Bases are 0", times(shrinker(0, 5), 2), -10, []int64{0, 0}},
		{"none is below 0", times(shrinker(10, 1), 2), -10, []int64{0, 0}},
		{"nothing left", []api.Flexy{shrinker(10, 1), shrinker(3, 2)}, 0, []int64{0, 0}},

		// Where all is as long as inner, they shrink, by nothing.
		{"just full", []api.Flexy{it(4, 0, -1, 1, 1, 0), it(6, 0, -1, 1, 1, 0)}, 10, []int64{4, 6}},
		{"one below full", []api.Flexy{it(4, 0, -1, 1, 1, 0), it(6, 0, -1, 1, 1, 0)}, 11, []int64{4, 7}},
		{"one above full", []api.Flexy{it(4, 0, -1, 1, 1, 0), it(6, 0, -1, 1, 1, 0)}, 9, []int64{3, 6}},
		{"just full of Hyps", []api.Flexy{it(9, 0, 4, 1, 1, 0), it(6, 0, -1, 1, 1, 0)}, 10, []int64{4, 6}},
		{"just full, Base below Min", []api.Flexy{it(1, 4, -1, 1, 1, 0), it(6, 0, -1, 1, 1, 0)}, 10, []int64{4, 6}},
		// Hyps, not Bases, tell whether they grow.
		{"Bases above, Hyps below", []api.Flexy{it(50, 0, 2, 1, 1, 0), it(3, 0, -1, 1, 1, 0)}, 10, []int64{2, 8}},
		{"Bases below, Hyps above", []api.Flexy{it(0, 8, -1, 1, 1, 0), it(6, 0, -1, 1, 1, 0)}, 10, []int64{8, 2}},
		{"a Grow is nothing to one that shrinks", []api.Flexy{it(6, 0, -1, 5, 1, 0), it(6, 0, -1, 0, 1, 0)}, 6, []int64{3, 3}},
		{"a Shrink is nothing to one that grows", []api.Flexy{it(1, 0, -1, 1, 0, 0), it(1, 0, -1, 1, 9, 0)}, 6, []int64{3, 3}},

		{"around is not theirs", []api.Flexy{around(grower(2, 1), 3), around(grower(2, 1), -1)}, 12, []int64{5, 5}},
		{"around alone fills it", []api.Flexy{around(shrinker(0, 1), 30), shrinker(10, 1)}, 20, []int64{0, 0}},
		{"around of one that is frozen", []api.Flexy{around(grower(2, 0), 4), grower(0, 1)}, 10, []int64{2, 4}},
		{"around below 0", []api.Flexy{around(shrinker(8, 1), -6), shrinker(8, 1)}, 6, []int64{6, 6}},
		{"around tells whether they grow", []api.Flexy{around(it(4, 0, -1, 1, 1, 0), 3), it(4, 0, -1, 1, 1, 0)}, 10, []int64{3, 4}},
		{"inner below 0, around below it", []api.Flexy{around(grower(1, 1), -9)}, -5, []int64{4}},

		{"at most Max", []api.Flexy{within(grower(0, 1), 0, 2), grower(0, 1)}, 10, []int64{2, 8}},
		{"a Max of 0", []api.Flexy{within(grower(0, 1), 0, 0), grower(0, 1)}, 10, []int64{0, 10}},
		{"at least Min", []api.Flexy{within(grower(0, 1), 8, -1), grower(0, 1)}, 10, []int64{8, 2}},
		{"Min ahead of Max", []api.Flexy{within(grower(0, 1), 5, 2)}, 20, []int64{5}},
		{"Min ahead of Max, frozen", []api.Flexy{within(grower(9, 1), 5, 2), grower(0, 1)}, 20, []int64{5, 15}},
		{"all at their Max", times(within(grower(0, 1), 0, 1), 2), 10, []int64{1, 1}},
		{"all at their Min", times(within(shrinker(10, 1), 8, -1), 2), 10, []int64{8, 8}},
		{"Base above Max is frozen", []api.Flexy{within(grower(5, 1), 0, 2), grower(0, 1)}, 10, []int64{2, 8}},
		{"Base below Min is frozen", []api.Flexy{within(shrinker(2, 1), 9, -1), shrinker(10, 1)}, 15, []int64{9, 6}},
		{"Base below Min may grow", []api.Flexy{within(grower(2, 1), 4, -1), grower(0, 1)}, 12, []int64{7, 5}},
		{"Base above Max may shrink", []api.Flexy{within(shrinker(9, 1), 0, 6), shrinker(9, 1)}, 8, []int64{4, 4}},
		{"frozen at Hyp with a factor of 0", []api.Flexy{within(grower(5, 0), 0, 2), within(grower(1, 0), 3, -1), grower(0, 1)}, 10, []int64{2, 3, 5}},
		{"shrink to a Min", []api.Flexy{within(shrinker(10, 1), 8, -1), shrinker(30, 1)}, 20, []int64{8, 12}},
		// At first 4 4 4: what is added (3) is above what is taken (2).
		{"Min ahead of Max of others", []api.Flexy{within(grower(0, 1), 0, 2), within(grower(0, 1), 7, -1), grower(0, 1)}, 12, []int64{2, 7, 3}},
		// At first 4 4 5: what is taken (3) is above what is added (1), so that the
		// second one is not frozen at its Min of 5.
		{"Max ahead of Min of others", []api.Flexy{within(grower(0, 1), 0, 1), within(grower(0, 1), 5, -1), grower(0, 1)}, 13, []int64{1, 6, 6}},
		// At first 4 4 4: 2 taken, 2 added, all are frozen so: the third at 4.
		{"as much taken as added", []api.Flexy{within(grower(0, 1), 0, 2), within(grower(0, 1), 6, -1), grower(0, 1)}, 12, []int64{2, 6, 4}},
		// At first 10 each: 6 taken from the first one; then 12 each: 1 taken from
		// the second one.
		{"one Max behind the other", []api.Flexy{within(grower(0, 1), 0, 4), within(grower(0, 1), 0, 11), grower(0, 1), grower(0, 1)}, 40, []int64{4, 11, 12, 13}},
		// At first 10 each: 10 added to the first one; then 6 6 8: 2 added to the
		// second one.
		{"one Min behind the other", []api.Flexy{within(grower(0, 1), 20, -1), within(grower(0, 1), 8, -1), grower(0, 1), grower(0, 1)}, 40, []int64{20, 8, 6, 6}},
		// One whose Min gives it more than its Max took is not too great. At first
		// 3 3 6 6: the last one is; then 4 5 9.
		{"Min above Max, between them", []api.Flexy{within(grower(0, 1), 4, 1), grower(0, 1), grower(0, 2), within(grower(0, 2), 0, 0)}, 18, []int64{4, 5, 9, 0}},
		// Nor is one whose Min gives it just what its Max took. At first 3 3 3 6:
		// the second one is; then 3 4 7.
		{"Min above Max, at its Min", []api.Flexy{within(grower(0, 1), 3, 1), within(grower(0, 1), 0, 1), grower(0, 1), grower(0, 2)}, 15, []int64{3, 1, 4, 7}},

		{"at bounds, growing", []api.Flexy{it(most, 0, -1, 100, 0, -most), it(0, 0, -1, 100, 0, -most)}, inmost, []int64{inmost/2 + most + most/2, inmost/2 + most/2}},
		{"at bounds, shrinking", []api.Flexy{it(most, 0, -1, 0, 100, most), it(most, 0, -1, 0, 100, 0)}, most + 1, []int64{0, 1}},
		{"at bounds, to a Max", []api.Flexy{it(0, 0, most, 1, 0, 0), it(0, most, most, 0, 0, most)}, inmost, []int64{most, most}},
	} {
		if got := free.Resolve(x.l, x.inner); !slices.Equal(got, x.want) {
			t.Errorf("%s: Resolve(%d, %d): %d, not %d", x.what, x.l, x.inner, got, x.want)
		}
		isResolved(t, x.l, x.inner)
	}
}

// some is n drawn items of a few units.
func some(r *rand.Rand, n int) []api.Flexy {
	var l []api.Flexy
	for len(l) < n {
		l = append(l, few(r, n-len(l))...)
	}
	return l
}

func TestResolveOfAllOfOne(t *testing.T) {
	for _, base := range []int64{0, 1, 3, 6} {
		for least := range int64(6) {
			for most := int64(-1); most < 6; most++ {
				for _, factors := range [][2]int{{0, 0}, {0, 1}, {1, 0}, {2, 1}, {1, 3}} {
					for _, by := range []int64{-2, 0, 3} {
						l := []api.Flexy{it(base, least, most, factors[0], factors[1], by)}
						for inner := int64(-4); inner <= 12; inner++ {
							isResolved(t, l, inner)
						}
					}
				}
			}
		}
	}
}

func TestResolveOfAllShortLists(t *testing.T) {
	each([]api.Flexy{
		it(0, 0, -1, 1, 1, 0), it(2, 0, -1, 2, 1, 0), it(3, 0, -1, 0, 2, 1), it(1, 0, 2, 1, 0, 0), it(4, 0, 2, 1, 1, 0),
		it(1, 3, -1, 1, 1, 0), it(4, 3, 5, 3, 1, -1), it(2, 4, 1, 1, 2, 0), it(0, 0, 0, 1, 1, 2), it(3, 1, -1, 1, 3, 0),
	}, 3, func(l []api.Flexy) {
		for inner := int64(-2); inner <= 20; inner++ {
			isResolved(t, l, inner)
		}
	})
}

func TestResolveOfDrawnLists(t *testing.T) {
	r := rand.New(rand.NewSource(181))
	for range 60000 {
		l := few(r, 12)
		isResolved(t, l, r.Int63n(int64(10*len(l)+5))-3)
	}
	for range 200 {
		l := some(r, 1+r.Intn(500))
		isResolved(t, l, r.Int63n(int64(10*len(l)+5))-3)
	}
}

func TestResolveAtBounds(t *testing.T) {
	r := rand.New(rand.NewSource(182))
	for range 40000 {
		l := far(r, 8)
		isResolved(t, l, room(r, l))
	}
	for range 100 {
		l := far(r, 500)
		isResolved(t, l, room(r, l))
	}
	for _, by := range []int64{0, most, -most} {
		for _, f := range []api.Flexy{it(most, 0, -1, 100, 100, by), it(0, 0, -1, 100, 100, by), it(most, most, most, 1, 1, by), it(most, 0, 0, 1, 1, by)} {
			for _, inner := range []int64{-most, 0, most, 250 * most, 500*most - 1, 500 * most, 500*most + 1, 1000 * most, inmost} {
				isResolved(t, times(f, 500), inner)
			}
		}
	}
}

// stairs is n items of which each round freezes one alone: each one's Max is
// below what it would get when it comes to it, but above what it would have got
// ahead of that.
func stairs(n, inner int64) []api.Flexy {
	var l []api.Flexy
	below := inner / n / 2
	for left := inner; n > 0; n-- {
		highest := left/n - below
		l = append(l, within(grower(0, 1), 0, highest))
		left -= highest
		below /= n
	}
	return l
}

func TestResolveInManyRounds(t *testing.T) {
	const n = 14
	l := stairs(n, most)
	for range 20 {
		want, rounds := resolved(l, most)
		if rounds != n {
			t.Fatalf("%d rounds of %d", rounds, l)
		}
		if got := free.Resolve(l, most); !slices.Equal(got, want) {
			t.Fatalf("Resolve(%d, %d): %d, not %d", l, most, got, want)
		}
		l = append(l[1:], l[0])
	}
}

// 18.2, with W2: all free space is shared, or each one that could is at its end.

func sum(sizes []int64, l []api.Flexy) int64 {
	var n int64
	for i := range l {
		n += sizes[i] + l[i].Around
	}
	return n
}

// end is as far as f can grow, or else shrink.
func end(f api.Flexy, grows bool) int64 {
	if grows && f.Max == -1 {
		return math.MaxInt64
	}
	if grows {
		return max(f.Max, f.Min)
	}
	return f.Min
}

// drawn calls do with lists of all kinds, and rooms for them.
func drawn(seed int64, n int, do func(l []api.Flexy, inner int64)) {
	r := rand.New(rand.NewSource(seed))
	for i := range n {
		l := few(r, 10)
		inner := r.Int63n(int64(10*len(l)+5)) - 3
		if i%3 == 0 {
			l = far(r, 10)
			inner = room(r, l)
		}
		do(l, inner)
	}
}

func TestAllFreeSpaceIsShared(t *testing.T) {
	full, short, over := 0, 0, 0
	drawn(183, 60000, func(l []api.Flexy, inner int64) {
		sizes, grows := free.Resolve(l, inner), growing(l, inner)
		all := sum(sizes, l)
		switch {
		case all == inner:
			full++
			return
		case all < inner:
			short++
		default:
			over++
		}
		if (all < inner) != grows {
			t.Fatalf("Resolve(%d, %d): %d are %d together", l, inner, sizes, all)
		}
		for i, f := range l {
			if turns(f, grows) && sizes[i] != end(f, grows) {
				t.Fatalf("Resolve(%d, %d): %d are %d together, but the item %d is not at its end", l, inner, sizes, all, i)
			}
		}
	})
	if full < 10000 || short < 2000 || over < 2000 {
		t.Errorf("%d full, %d short, %d over", full, short, over)
	}
}

// What grows is nowhere below where it stands from the beginning on, and what
// shrinks nowhere above it; all are within their bounds, and those that don't
// turn are where they were.
func TestEachTurnsOneWay(t *testing.T) {
	drawn(184, 60000, func(l []api.Flexy, inner int64) {
		grows := growing(l, inner)
		for i, n := range free.Resolve(l, inner) {
			f := l[i]
			hyp := hypOf(f).Int64()
			if n != hyp && (!turns(f, grows) || grows != (n > hyp)) {
				t.Fatalf("Resolve(%d, %d): %d of the item %d, from %d on", l, inner, n, i, hyp)
			}
			if n < f.Min || f.Max != -1 && n > max(f.Max, f.Min) {
				t.Fatalf("Resolve(%d, %d): %d of the item %d is out of its bounds", l, inner, n, i)
			}
		}
	})
}

// Those that their bounds don't hold have parts as their weights are, but for
// the unit that is rounded off.
func TestPartsAreAsTheWeights(t *testing.T) {
	pairs := 0
	drawn(185, 60000, func(l []api.Flexy, inner int64) {
		sizes, grows := free.Resolve(l, inner), growing(l, inner)
		last := -1
		for i, f := range l {
			if !turns(f, grows) || sizes[i] == f.Min || sizes[i] == f.Max {
				continue
			}
			if last >= 0 {
				pairs++
				v, w := weightOf(l[last], grows), weightOf(f, grows)
				a := new(big.Int).Mul(big.NewInt(sizes[last]-l[last].Base), w)
				b := new(big.Int).Mul(big.NewInt(sizes[i]-f.Base), v)
				// Each is less than a unit off.
				if a.Sub(a, b).CmpAbs(v.Add(v, w)) >= 0 {
					t.Fatalf("Resolve(%d, %d): %d: items %d and %d", l, inner, sizes, last, i)
				}
			}
			last = i
		}
	})
	if pairs < 20000 {
		t.Errorf("%d pairs", pairs)
	}
}

// One that can't turn, and what is around any, is only room that is missing.
func TestWhatCantTurnTakesRoom(t *testing.T) {
	r := rand.New(rand.NewSource(186))
	for range 20000 {
		l, inner := few(r, 8), r.Int63n(60)
		var rest []api.Flexy
		left := inner
		for _, f := range l {
			left -= f.Around
			rest = append(rest, around(f, 0))
		}
		at := r.Intn(len(l) + 1)
		stiff := it(r.Int63n(9), 0, -1, 0, 0, r.Int63n(5)-2)
		got := free.Resolve(slices.Insert(slices.Clone(l), at, stiff), inner+stiff.Base+stiff.Around)
		want := slices.Insert(free.Resolve(rest, left), at, stiff.Base)
		if !slices.Equal(got, want) {
			t.Fatalf("Resolve(%d, %d), with %d: %d, not %d", l, inner, stiff, got, want)
		}
	}
}

// Rules 1 and 3: what is handed in stays as it is, its spare room too, and what
// is answered is new memory.

func TestWhatIsHandedInStays(t *testing.T) {
	r := rand.New(rand.NewSource(187))
	for range 2000 {
		l := some(r, 10)
		was := slices.Clone(l)
		inner := r.Int63n(60)
		free.Ok(l[:6])
		got := free.Resolve(l[:6], inner)
		if !slices.Equal(l, was) {
			t.Fatalf("Resolve(%d, %d) turned them", was, inner)
		}
		kept := slices.Clone(got)
		clear(l)
		if !slices.Equal(got, kept) {
			t.Fatalf("Resolve(%d, %d) kept what was handed in", was, inner)
		}
	}
}

func TestAnswersAreNewMemory(t *testing.T) {
	l := []api.Flexy{within(grower(0, 1), 0, 2), within(grower(0, 1), 7, -1), grower(0, 1)}
	for range 3 {
		got := free.Resolve(l, 12)
		if !slices.Equal(got, []int64{2, 7, 3}) {
			t.Fatalf("%d", got)
		}
		clear(got[:cap(got)])
	}
}

// 18.3

func TestNoCallPanicsAndEachEnds(t *testing.T) {
	r := rand.New(rand.NewSource(188))
	numbers := []int64{
		0, 1, -1, 2, 100, 101, -100, most, most + 1, -most, -most - 1, inmost, inmost + 1, 1 << 50, 1 << 60, 1<<60 + 1, -1 << 60,
		1 << 31, 1 << 32, math.MaxInt64, math.MinInt64, math.MaxInt64 - 1, math.MinInt64 + 1,
	}
	length := func() int64 { return pick(r, numbers...) }
	for range 30000 {
		l := make([]api.Flexy, r.Intn(5))
		for i := range l {
			l[i] = it(length(), length(), length(), int(length()), int(length()), length())
			if r.Intn(2) == 0 {
				l[i] = it(length(), 0, -1, 100, 100, 0)
			}
		}
		inner := length()
		if free.Ok(l) != isOk(l) {
			t.Fatalf("Ok(%d): %t", l, !isOk(l))
		}
		isResolved(t, l, inner)
	}
	free.Ok(make([]api.Flexy, 1000000))
	free.Resolve(make([]api.Flexy, 1000000), 10)
}
