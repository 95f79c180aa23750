package along_test

import (
	"math"
	"math/big"
	"math/rand"
	"slices"
	"testing"

	"quoin/along"
	"quoin/api"
)

const (
	start = iota
	end
	center
	between
	around
)

// What unit.Share takes at the most: a number, and so many weights.
const (
	mostShared = 1 << 60
	mostParts  = 1000
)

// it has margins that are told, autoB and autoA one that is auto, and autos both.
func it(before, size, after int64) api.Along {
	return api.Along{Before: before, After: after, Size: size}
}

func autoB(size, after int64) api.Along {
	return api.Along{After: after, Size: size, AutoB: true}
}

func autoA(before, size int64) api.Along {
	return api.Along{Before: before, Size: size, AutoA: true}
}

func autos(size int64) api.Along {
	return api.Along{Size: size, AutoB: true, AutoA: true}
}

func times(a api.Along, n int) []api.Along {
	return slices.Repeat([]api.Along{a}, n)
}

// ways is all ways of justifying, and some that there are not.
func ways() []int {
	return []int{start, end, center, between, around, 5, -1, -2, 6, 1 << 32, 1<<32 + 1, 1<<32 + 2, 1<<32 + 3, 1<<32 + 4, 256 + 1, math.MaxInt, math.MinInt}
}

// extremes is lengths at bounds, and such that a narrower number, or a sum,
// would take for another one.
func extremes() []int64 {
	return []int64{
		0, 1, -1, 2, -2, 10, -10, api.Far - 1, api.Far, api.Far + 1, -api.Far, -api.Far - 1, 1 << 31, -1 << 31, 1 << 32,
		1<<32 + 5, -1 << 32, 5 - 1<<32, 1 << 53, 1<<53 + 1, mostShared - 1, mostShared, mostShared + 1, -mostShared, 1 << 61,
		math.MaxInt64, math.MaxInt64 - 1, math.MinInt64, math.MinInt64 + 1, math.MaxInt64 / 2, math.MinInt64 / 2,
	}
}

// held is the number that is nearest to n.
func held(n *big.Int) int64 {
	switch {
	case n.IsInt64():
		return n.Int64()
	case n.Sign() < 0:
		return math.MinInt64
	}
	return math.MaxInt64
}

// 19.1, one sentence at a time, in numbers of any size.

func before(a api.Along) int64 {
	if a.AutoB {
		return 0
	}
	return a.Before
}

func after(a api.Along) int64 {
	if a.AutoA {
		return 0
	}
	return a.After
}

func add(n *big.Int, l ...int64) {
	for _, x := range l {
		n.Add(n, big.NewInt(x))
	}
}

func freeOf(l []api.Along, inner int64) *big.Int {
	taken := new(big.Int)
	for _, a := range l {
		add(taken, before(a), a.Size, after(a))
	}
	return taken.Sub(big.NewInt(inner), taken)
}

// isAuto is how many margins are auto.
func isAuto(l ...api.Along) int {
	n := 0
	for _, a := range l {
		if a.AutoB {
			n++
		}
		if a.AutoA {
			n++
		}
	}
	return n
}

// upTo is what the first k of so many weights of 1 get of n, rounded down.
func upTo(n *big.Int, k, of int) *big.Int {
	if of > mostParts || n.Cmp(big.NewInt(mostShared)) > 0 {
		return new(big.Int)
	}
	part := new(big.Int).Mul(n, big.NewInt(int64(k)))
	return part.Div(part, big.NewInt(int64(of)))
}

// parts gives one part of n behind the other.
func parts(n *big.Int, of int) func() int64 {
	k := 0
	return func() int64 {
		k++
		return new(big.Int).Sub(upTo(n, k, of), upTo(n, k-1, of)).Int64()
	}
}

func placed(l []api.Along, inner int64, justify int, reverse bool) []int64 {
	free := freeOf(l, inner)
	over := free.Sign() > 0
	at := new(big.Int)
	var part func() int64
	var toAutos, toGaps, toSides bool
	switch {
	case over && isAuto(l...) > 0:
		part, toAutos = parts(free, isAuto(l...)), true
	case justify == end:
		at.Set(free)
	case justify == center:
		// By a number above 0 Div rounds down.
		at.Div(free, big.NewInt(2))
	case justify == between && over && len(l) >= 2:
		part, toGaps = parts(free, len(l)-1), true
	case justify == around && over:
		part, toSides = parts(free, 2*len(l)), true
	}
	var begins []int64
	for i, a := range l {
		if toAutos && a.AutoB || toGaps && i > 0 || toSides {
			add(at, part())
		}
		add(at, before(a))
		if reverse {
			stands := new(big.Int).Sub(big.NewInt(inner), at)
			begins = append(begins, held(stands.Sub(stands, big.NewInt(a.Size))))
		} else {
			begins = append(begins, held(at))
		}
		add(at, a.Size, after(a))
		if toAutos && a.AutoA || toSides {
			add(at, part())
		}
	}
	return begins
}

func isPlaced(t *testing.T, l []api.Along, inner int64, justify int) {
	t.Helper()
	for _, reverse := range []bool{false, true} {
		got, want := along.Place(l, inner, justify, reverse), placed(l, inner, justify, reverse)
		if !slices.Equal(got, want) {
			t.Fatalf("Place(%v, %d, %d, %t): %d, not %d", l, inner, justify, reverse, got, want)
		}
	}
}

// each calls do with all lists of up to most of some.
func each(some []api.Along, most int, do func([]api.Along)) {
	var grow func([]api.Along)
	grow = func(l []api.Along) {
		do(l)
		if len(l) == most {
			return
		}
		for _, a := range some {
			grow(append(slices.Clip(l), a))
		}
	}
	grow(nil)
}

// draw draws items.
type draw struct {
	*rand.Rand
	// lengths is what they are made of.
	lengths []int64
	// autos is how many margins of ten are auto.
	autos int
}

func drawing(seed int64, lengths []int64, autos int) draw {
	return draw{rand.New(rand.NewSource(seed)), lengths, autos}
}

func (r draw) length() int64 { return r.lengths[r.Intn(len(r.lengths))] }

func (r draw) items(most int) []api.Along {
	l := make([]api.Along, r.Intn(most+1))
	for i := range l {
		l[i] = it(r.length(), r.length(), r.length())
		if r.Intn(10) < r.autos {
			l[i].Before, l[i].AutoB = 0, true
		}
		if r.Intn(10) < r.autos {
			l[i].After, l[i].AutoA = 0, true
		}
	}
	return l
}

// room draws an inner that l leaves some of, or just none, or that it is too
// long for.
func (r draw) room(l []api.Along) int64 {
	taken := -freeOf(l, 0).Int64()
	return taken + []int64{0, 1, 2, -1, -2, r.Int63n(40), -r.Int63n(40), r.Int63n(5000)}[r.Intn(8)]
}

// small is lengths of a few units, few of them below 0.
func small() []int64 { return []int64{0, 0, 1, 2, 3, 5, 8, -1, -3} }

// 19.1

func TestOfNone(t *testing.T) {
	for _, l := range [][]api.Along{nil, {}, make([]api.Along, 0, 5)} {
		for _, inner := range extremes() {
			for _, justify := range ways() {
				for _, reverse := range []bool{false, true} {
					if got := along.Place(l, inner, justify, reverse); len(got) != 0 {
						t.Errorf("none in %d, %d, %t: %d", inner, justify, reverse, got)
					}
				}
			}
		}
	}
}

func TestJustifiedByHand(t *testing.T) {
	four := []api.Along{it(0, 4, 0)}
	// 13 long, with all margins.
	three := []api.Along{it(1, 4, 2), it(0, 3, 0), it(0, 2, 1)}
	for _, x := range []struct {
		what    string
		l       []api.Along
		inner   int64
		justify int
		want    []int64
	}{
		{"the example", four, 10, end, []int64{6}},
		{"one at the start", four, 10, start, []int64{0}},
		{"one in the middle", four, 10, center, []int64{3}},
		{"one between none", four, 10, between, []int64{0}},
		{"one with room around", four, 10, around, []int64{3}},
		{"one with an odd room around", four, 11, around, []int64{3}},

		{"start", three, 20, start, []int64{1, 7, 10}},
		{"end", three, 20, end, []int64{8, 14, 17}},
		// 7 is free: 3 of it ahead.
		{"center, rounded down", three, 20, center, []int64{4, 10, 13}},
		{"center", three, 19, center, []int64{4, 10, 13}},
		{"center of 1", three, 14, center, []int64{1, 7, 10}},
		// 3 and 4.
		{"between", three, 20, between, []int64{1, 10, 17}},
		// 0 and 1.
		{"between of 1", three, 14, between, []int64{1, 7, 11}},
		{"between of two", three[:2], 20, between, []int64{1, 17}},
		// 1 1, 1 1, 1 2.
		{"around", three, 20, around, []int64{2, 10, 15}},
		// 0 0, 0 0, 0 1.
		{"around of 1", three, 14, around, []int64{1, 7, 10}},
		// 0 0, 1 0, 0 1.
		{"around of 2", three, 15, around, []int64{1, 8, 11}},
		// 0 1, 1 1, 1 1.
		{"around of 5", three, 18, around, []int64{1, 9, 14}},
		{"around of two", three[:2], 18, around, []int64{3, 13}},

		{"just full, end", three, 13, end, []int64{1, 7, 10}},
		{"just full, center", three, 13, center, []int64{1, 7, 10}},
		{"just full, between", three, 13, between, []int64{1, 7, 10}},
		{"just full, around", three, 13, around, []int64{1, 7, 10}},

		{"missing, start", three, 10, start, []int64{1, 7, 10}},
		{"missing, end", three, 10, end, []int64{-2, 4, 7}},
		// 3 is missing: 2 of it ahead.
		{"missing, center, rounded down", three, 10, center, []int64{-1, 5, 8}},
		{"missing, center", three, 9, center, []int64{-1, 5, 8}},
		{"missing 1, center", three, 12, center, []int64{0, 6, 9}},
		{"missing, between", three, 10, between, []int64{1, 7, 10}},
		{"missing, around", three, 10, around, []int64{1, 7, 10}},

		{"margins below 0", []api.Along{it(-3, 4, 0), it(0, 2, -1)}, 10, end, []int64{5, 9}},
		{"margins below 0, around", []api.Along{it(-3, 4, 0), it(0, 2, -1)}, 10, around, []int64{-1, 7}},
		{"all margins leave more than all of it", []api.Along{it(-30, 4, 0), it(0, 2, -1)}, 10, between, []int64{-30, 9}},
		{"inner below 0", []api.Along{it(-9, 4, 0)}, -3, end, []int64{-7}},
		{"of no length", times(it(0, 0, 0), 3), 10, around, []int64{1, 5, 8}},
		{"of no length, between", times(it(0, 0, 0), 4), 10, between, []int64{0, 3, 6, 10}},
	} {
		if got := along.Place(x.l, x.inner, x.justify, false); !slices.Equal(got, x.want) {
			t.Errorf("%s: Place(%v, %d, %d): %d, not %d", x.what, x.l, x.inner, x.justify, got, x.want)
		}
		isPlaced(t, x.l, x.inner, x.justify)
	}
}

func TestAutoMarginsByHand(t *testing.T) {
	for _, x := range []struct {
		what  string
		l     []api.Along
		inner int64
		want  []int64
	}{
		{"both", []api.Along{autos(4)}, 10, []int64{3}},
		{"both, an odd room", []api.Along{autos(4)}, 11, []int64{3}},
		{"both, of 1", []api.Along{autos(4)}, 5, []int64{0}},
		{"that ahead", []api.Along{autoB(4, 0)}, 10, []int64{6}},
		{"that ahead, with one behind", []api.Along{autoB(4, 2)}, 10, []int64{4}},
		{"that behind", []api.Along{autoA(0, 4)}, 10, []int64{0}},
		{"that behind, with one ahead", []api.Along{autoA(2, 4)}, 10, []int64{2}},
		{"of the first one", []api.Along{autoB(4, 2), it(0, 3, 0)}, 12, []int64{3, 9}},
		{"between two", []api.Along{autoA(0, 4), it(1, 3, 0)}, 12, []int64{0, 9}},
		{"of the last one", []api.Along{it(0, 4, 0), it(1, 3, 0), autoB(2, 1)}, 20, []int64{0, 5, 17}},
		{"behind all", []api.Along{it(0, 4, 0), autoA(1, 3)}, 12, []int64{0, 5}},
		// 10 is free: 3 3 4.
		{"in order", []api.Along{autos(1), autoB(1, 0)}, 12, []int64{3, 11}},
		{"in order, the other way", []api.Along{autoA(0, 1), autos(1)}, 12, []int64{0, 7}},
		// 1 is free: 0 0 1, and 0 0 0 1.
		{"the last one gets what is rounded off", []api.Along{autos(1), autoB(1, 0)}, 3, []int64{0, 2}},
		{"the last one, behind", []api.Along{autos(1), autos(1)}, 3, []int64{0, 1}},
		// 7 is free: 1 2 2 2.
		{"four", []api.Along{autos(1), it(2, 1, 3), autos(1)}, 15, []int64{1, 6, 12}},
	} {
		for _, justify := range ways() {
			if got := along.Place(x.l, x.inner, justify, false); !slices.Equal(got, x.want) {
				t.Errorf("%s: Place(%v, %d, %d): %d, not %d", x.what, x.l, x.inner, justify, got, x.want)
			}
			isPlaced(t, x.l, x.inner, justify)
		}
	}
}

// Where nothing is free, a margin that is auto is one of 0, and all stand by
// justify.
func TestAutoMarginsThatGetNothing(t *testing.T) {
	for _, x := range []struct {
		l       []api.Along
		inner   int64
		justify int
		want    []int64
	}{
		{[]api.Along{autos(9)}, 4, start, []int64{0}},
		{[]api.Along{autos(9)}, 4, end, []int64{-5}},
		{[]api.Along{autos(9)}, 4, center, []int64{-3}},
		{[]api.Along{autos(9)}, 4, between, []int64{0}},
		{[]api.Along{autos(9)}, 4, around, []int64{0}},
		{[]api.Along{autos(9)}, 9, end, []int64{0}},
		{[]api.Along{autoB(4, 2), autoA(1, 3)}, 8, end, []int64{-2, 5}},
		{[]api.Along{autoB(4, 2), autoA(1, 3)}, 10, end, []int64{0, 7}},
		{[]api.Along{autoB(4, 2), autoA(1, 3)}, 11, end, []int64{0, 7}},
		{[]api.Along{autoB(4, 2), autoA(1, 3)}, 12, end, []int64{1, 8}},
	} {
		if got := along.Place(x.l, x.inner, x.justify, false); !slices.Equal(got, x.want) {
			t.Errorf("Place(%v, %d, %d): %d, not %d", x.l, x.inner, x.justify, got, x.want)
		}
		isPlaced(t, x.l, x.inner, x.justify)
	}
}

// A margin that is auto is 0, whatever stands beside that.
func TestAutoMarginsAreNone(t *testing.T) {
	r := drawing(191, small(), 5)
	for range 20000 {
		l := r.items(5)
		told := slices.Clone(l)
		lengths := append(extremes(), small()...)
		for i := range told {
			if told[i].AutoB {
				told[i].Before = lengths[r.Intn(len(lengths))]
			}
			if told[i].AutoA {
				told[i].After = lengths[r.Intn(len(lengths))]
			}
		}
		inner, justify, reverse := r.room(l), ways()[r.Intn(6)], r.Intn(2) == 0
		got, want := along.Place(told, inner, justify, reverse), along.Place(l, inner, justify, reverse)
		if !slices.Equal(got, want) {
			t.Fatalf("Place(%v, %d, %d, %t): %d, not %d", told, inner, justify, reverse, got, want)
		}
	}
}

func TestOtherWaysAreAsStart(t *testing.T) {
	r := drawing(192, small(), 1)
	for range 2000 {
		l := r.items(6)
		inner := r.room(l)
		for _, reverse := range []bool{false, true} {
			want := along.Place(l, inner, start, reverse)
			for _, justify := range ways()[5:] {
				if got := along.Place(l, inner, justify, reverse); !slices.Equal(got, want) {
					t.Fatalf("Place(%v, %d, %d, %t): %d, not %d", l, inner, justify, reverse, got, want)
				}
			}
		}
	}
}

func TestReverseByHand(t *testing.T) {
	three := []api.Along{it(1, 4, 2), it(0, 3, 0), it(0, 2, 1)}
	for _, x := range []struct {
		what    string
		l       []api.Along
		inner   int64
		justify int
		want    []int64
	}{
		{"start", three, 20, start, []int64{15, 10, 8}},
		{"end", three, 20, end, []int64{8, 3, 1}},
		// 3 ahead, which is at the right here.
		{"center", three, 20, center, []int64{12, 7, 5}},
		{"between", three, 20, between, []int64{15, 7, 1}},
		{"around", three, 20, around, []int64{14, 7, 3}},
		{"just full", three, 13, start, []int64{8, 3, 1}},
		{"missing, start", three, 10, start, []int64{5, 0, -2}},
		{"missing, end", three, 10, end, []int64{8, 3, 1}},
		{"missing, center", three, 10, center, []int64{7, 2, 0}},
		{"auto ahead", []api.Along{autoB(4, 0)}, 10, end, []int64{0}},
		{"auto behind", []api.Along{autoA(0, 4)}, 10, end, []int64{6}},
		{"both auto", []api.Along{autos(4)}, 11, end, []int64{4}},
		{"some auto", []api.Along{autos(1), autoB(1, 0)}, 12, start, []int64{8, 0}},
	} {
		if got := along.Place(x.l, x.inner, x.justify, true); !slices.Equal(got, x.want) {
			t.Errorf("%s: Place(%v, %d, %d): %d, not %d", x.what, x.l, x.inner, x.justify, got, x.want)
		}
		isPlaced(t, x.l, x.inner, x.justify)
	}
}

// With reverse the line is seen from its other end: ends become beginnings.
func TestReverseIsTheOtherEnd(t *testing.T) {
	r := drawing(193, small(), 2)
	for range 20000 {
		l := r.items(8)
		inner, justify := r.room(l), ways()[r.Intn(6)]
		got, ahead := along.Place(l, inner, justify, true), along.Place(l, inner, justify, false)
		for i, a := range l {
			if inner-got[i] != ahead[i]+a.Size {
				t.Fatalf("Place(%v, %d, %d): %d, with reverse %d", l, inner, justify, ahead, got)
			}
		}
	}
}

func TestAllShortLines(t *testing.T) {
	each([]api.Along{
		it(0, 2, 0), it(1, 0, 2), it(0, 3, -2), it(-4, 1, 0), it(2, 5, 1), autos(1), autoB(2, 1), autoA(-1, 3), autoB(0, -3),
	}, 3, func(l []api.Along) {
		for inner := int64(-6); inner <= 30; inner++ {
			for _, justify := range ways()[:7] {
				isPlaced(t, l, inner, justify)
			}
		}
	})
}

func TestDrawnLines(t *testing.T) {
	for autos := range 4 {
		r := drawing(194+int64(autos), small(), autos)
		for range 20000 {
			l := r.items(14)
			isPlaced(t, l, r.room(l), ways()[r.Intn(7)])
		}
		for range 300 {
			l := r.items(500)
			isPlaced(t, l, r.room(l), ways()[r.Intn(7)])
		}
	}
}

// As many as a line of a tree can have get all that is free; beyond what
// unit.Share takes, nobody gets a part.
func TestMany(t *testing.T) {
	for _, x := range []struct {
		what    string
		l       []api.Along
		justify int
		shares  bool
	}{
		{"1000 margins", times(autos(3), 500), end, true},
		{"1000 margins, ahead", times(autoB(3, 1), 1000), end, true},
		{"one margin of 2000", append(times(it(0, 3, 0), 999), autoB(3, 0)), end, true},
		{"1001 margins", append(times(autos(3), 500), autoB(3, 0)), end, false},
		{"1001 margins, ahead", times(autoB(3, 1), 1001), end, false},
		{"1000 gaps", times(it(1, 3, 0), 1001), between, true},
		{"1001 gaps", times(it(1, 3, 0), 1002), between, false},
		{"1000 sides", times(it(1, 3, 0), 500), around, true},
		{"1002 sides", times(it(1, 3, 0), 501), around, false},
	} {
		for _, free := range []int64{1, 999, 1000, 12345, 1 << 40} {
			inner := free - freeOf(x.l, 0).Int64()
			isPlaced(t, x.l, inner, x.justify)
			got := along.Place(x.l, inner, x.justify, false)
			// From where they would stand side by side.
			n := len(x.l) - 1
			moved := got[n] + x.l[n].Size + after(x.l[n]) - (inner - free)
			if !x.shares && moved != 0 || x.shares && moved == 0 && free >= 1000 {
				t.Errorf("%s, %d free: the last one is moved by %d", x.what, free, moved)
			}
		}
	}
	// Ends ask for no parts.
	for _, n := range []int{501, 1002, 5000} {
		for _, justify := range ways()[:3] {
			isPlaced(t, times(it(1, 3, 0), n), int64(6*n), justify)
			isPlaced(t, times(it(1, 3, 0), n), int64(2*n), justify)
		}
	}
}

// What unit.Share can't share is shared by nobody; ends have it all.
func TestMuchIsFree(t *testing.T) {
	for _, l := range [][]api.Along{
		{it(0, 4, 0)}, {it(2, 4, 1), it(0, 3, 0)}, {autos(4)}, {autoB(4, 0), autoA(1, 2)}, {it(0, 4, math.MinInt64), it(0, 2, math.MinInt64)},
	} {
		for _, free := range []int64{mostShared - 1, mostShared, mostShared + 1, mostShared + 9, 1 << 61, math.MaxInt64 - 100} {
			inner := new(big.Int).Sub(big.NewInt(free), freeOf(l, 0))
			for _, justify := range ways()[:6] {
				isPlaced(t, l, held(inner), justify)
			}
		}
	}
	two := []api.Along{it(0, 4, 0), it(0, 6, 0)}
	for _, x := range []struct {
		inner   int64
		justify int
		want    []int64
	}{
		{mostShared + 10, between, []int64{0, mostShared + 4}},
		{mostShared + 11, between, []int64{0, 4}},
		{mostShared + 10, around, []int64{mostShared / 4, mostShared/4*3 + 4}},
		{mostShared + 11, around, []int64{0, 4}},
		{mostShared + 12, center, []int64{mostShared/2 + 1, mostShared/2 + 5}},
		{math.MaxInt64, end, []int64{math.MaxInt64 - 10, math.MaxInt64 - 6}},
		{math.MaxInt64, center, []int64{math.MaxInt64/2 - 5, math.MaxInt64/2 - 1}},
		{math.MinInt64, start, []int64{0, 4}},
		{math.MinInt64, end, []int64{math.MinInt64, math.MinInt64}},
		{math.MinInt64, center, []int64{math.MinInt64/2 - 5, math.MinInt64/2 - 1}},
	} {
		if got := along.Place(two, x.inner, x.justify, false); !slices.Equal(got, x.want) {
			t.Errorf("in %d, %d: %d, not %d", x.inner, x.justify, got, x.want)
		}
	}
}

// Nothing wraps round: what an int64 can't tell is the nearest that it can.
func TestLinesOfExtremes(t *testing.T) {
	for autos := range 3 {
		r := drawing(198+int64(autos), extremes(), autos)
		for range 40000 {
			isPlaced(t, r.items(6), r.length(), ways()[r.Intn(7)])
		}
	}
	for _, a := range extremes() {
		for _, b := range extremes() {
			for _, l := range [][]api.Along{{it(a, b, 0)}, {it(0, a, b)}, {it(0, a, 0), autoB(b, 0)}, {autos(a), it(0, 1, b)}} {
				for _, inner := range []int64{0, 10, a, b, math.MaxInt64, math.MinInt64} {
					for _, justify := range ways()[:5] {
						isPlaced(t, l, inner, justify)
					}
				}
			}
		}
	}
}

// 19.2, with W2: what is free along a line is all of it somewhere, to the unit.

// gapsOf is what stands ahead of the first one, between each two, and behind the
// last one, beside all margins.
func gapsOf(l []api.Along, begins []int64, inner int64) []int64 {
	var gaps []int64
	at := int64(0)
	for i, a := range l {
		gaps = append(gaps, begins[i]-before(a)-at)
		at = begins[i] + a.Size + after(a)
	}
	return append(gaps, inner-at)
}

// takers is how many parts stand in each of these gaps, where what is free is
// shared.
func takers(l []api.Along, justify int) []int {
	n := make([]int, len(l)+1)
	byAuto := isAuto(l...) > 0
	for i, a := range l {
		switch {
		case byAuto:
			n[i] += isAuto(api.Along{AutoB: a.AutoB})
			n[i+1] += isAuto(api.Along{AutoA: a.AutoA})
		case justify == around:
			n[i]++
			n[i+1]++
		case justify == between && i > 0:
			n[i]++
		}
	}
	return n
}

func sum[T int | int64](l []T) T {
	var all T
	for _, n := range l {
		all += n
	}
	return all
}

func TestNothingIsLost(t *testing.T) {
	shared := 0
	for autos := range 4 {
		r := drawing(201+int64(autos), small(), autos)
		for range 20000 {
			l := append(r.items(8), it(r.length(), r.length(), r.length()))
			inner, justify := r.room(l), ways()[r.Intn(6)]
			free := freeOf(l, inner).Int64()
			gaps := gapsOf(l, along.Place(l, inner, justify, false), inner)
			if sum(gaps) != free {
				t.Fatalf("%v, %d, %d: %d is free, of which %d", l, inner, justify, free, gaps)
			}
			per := takers(l, justify)
			if all := int64(sum(per)); free > 0 && all > 0 {
				shared++
				for i, n := range gaps {
					// Each part is rounded down or up.
					least, most := free/all*int64(per[i]), (free+all-1)/all*int64(per[i])
					if n < least || n > most {
						t.Fatalf("%v, %d, %d: %d is free, of which %d: %d parts in gap %d", l, inner, justify, free, gaps, per[i], i)
					}
				}
				continue
			}
			isAtEnds(t, gaps, free, justify)
		}
	}
	if shared < 15000 {
		t.Errorf("%d times shared", shared)
	}
}

// isAtEnds asks that all that is free, or missing, is ahead of all items and
// behind them.
func isAtEnds(t *testing.T, gaps []int64, free int64, justify int) {
	t.Helper()
	first, last := gaps[0], gaps[len(gaps)-1]
	ok := first == 0
	switch justify {
	case end:
		ok = last == 0
	case center:
		ok = last-first == 0 || last-first == 1
	}
	if !ok || first+last != free {
		t.Fatalf("%d is free, of which %d, by %d", free, gaps, justify)
	}
}

// Where they are shared to margins, items stand as they do where these margins
// are told so long.
func TestMarginsThatAreToldStandTheSame(t *testing.T) {
	r := drawing(205, small(), 4)
	for range 20000 {
		l := r.items(8)
		inner := r.room(l)
		if isAuto(l...) == 0 || freeOf(l, inner).Sign() <= 0 {
			continue
		}
		part := parts(freeOf(l, inner), isAuto(l...))
		told := slices.Clone(l)
		for i := range told {
			if told[i].AutoB {
				told[i].Before, told[i].AutoB = part(), false
			}
			if told[i].AutoA {
				told[i].After, told[i].AutoA = part(), false
			}
		}
		for _, justify := range ways()[:6] {
			got, want := along.Place(l, inner, end, false), along.Place(told, inner, justify, false)
			if !slices.Equal(got, want) {
				t.Fatalf("Place(%v, %d): %d, but told %v: %d", l, inner, got, told, want)
			}
		}
	}
}

// Rules 1 and 3: what is handed in stays as it is, its spare room too, and what
// is answered is new memory.

func TestWhatIsHandedInStays(t *testing.T) {
	r := drawing(206, small(), 3)
	for range 2000 {
		l := append(r.items(10), times(autos(7), 3)...)
		was := slices.Clone(l)
		inner := r.room(l)
		for _, justify := range ways()[:6] {
			got := along.Place(l[:len(l)-2], inner, justify, false)
			if !slices.Equal(l, was) {
				t.Fatalf("Place(%v, %d, %d) turned them to %v", was, inner, justify, l)
			}
			kept := slices.Clone(got)
			clear(l)
			if !slices.Equal(got, kept) {
				t.Fatalf("Place(%v, %d, %d) kept what was handed in", was, inner, justify)
			}
			copy(l, was)
		}
	}
}

func TestAnswersAreNewMemory(t *testing.T) {
	l := []api.Along{it(1, 4, 2), it(0, 3, 0), it(0, 2, 1)}
	for range 3 {
		got := along.Place(l, 20, around, false)
		if !slices.Equal(got, []int64{2, 10, 15}) {
			t.Fatalf("%d", got)
		}
		clear(got[:cap(got)])
	}
}

// 19.3

func TestNoCallPanics(t *testing.T) {
	for _, l := range [][]api.Along{
		make([]api.Along, 300000), times(autos(math.MaxInt64), 300000), times(it(math.MinInt64, math.MinInt64, math.MinInt64), 300000),
		times(autoB(math.MinInt64, 1), 300000),
	} {
		for _, inner := range []int64{0, 10, mostShared, math.MaxInt64, math.MinInt64} {
			for _, justify := range ways() {
				if got := along.Place(l, inner, justify, justify%2 == 0); len(got) != len(l) {
					t.Fatalf("%d items: %d places", len(l), len(got))
				}
			}
		}
	}
}
