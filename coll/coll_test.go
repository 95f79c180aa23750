package coll_test

import (
	"math"
	"math/big"
	"math/rand"
	"slices"
	"testing"

	"quoin/api"
	"quoin/coll"
)

// extremes is lengths at bounds, and such that a narrower number, or a sum,
// would take for another one.
func extremes() []int64 {
	return []int64{
		0, 1, -1, 2, -2, 10, -10, api.Far - 1, api.Far, api.Far + 1, -api.Far, -api.Far - 1, 1 << 31, -1 << 31, 1 << 32,
		1<<32 + 5, -1 << 32, 5 - 1<<32, 1 << 53, 1<<53 + 1, math.MaxInt64, math.MaxInt64 - 1, math.MinInt64, math.MinInt64 + 1,
		math.MaxInt64 / 2, math.MinInt64 / 2,
	}
}

// each calls do with all lists of up to most of some.
func each[T any](some []T, most int, do func([]T)) {
	var grow func([]T)
	grow = func(l []T) {
		do(l)
		if len(l) == most {
			return
		}
		for _, n := range some {
			grow(append(slices.Clip(l), n))
		}
	}
	grow(nil)
}

// drawn is a list of up to most of some.
func drawn[T any](r *rand.Rand, some []T, most int) []T {
	l := make([]T, r.Intn(most+1))
	for i := range l {
		l[i] = some[r.Intn(len(some))]
	}
	return l
}

func sum(l []int64) *big.Int {
	s := new(big.Int)
	for _, n := range l {
		s.Add(s, big.NewInt(n))
	}
	return s
}

func fits(l []int64, inner int64) bool {
	return sum(l).Cmp(big.NewInt(inner)) <= 0
}

// 17.1, one sentence at a time.

// ordered puts each place behind all that come ahead of it.
func ordered(orders []int) []int {
	places := make([]int, len(orders))
	for i, n := range orders {
		ahead := 0
		for j, m := range orders {
			if m < n || m == n && j < i {
				ahead++
			}
		}
		places[ahead] = i
	}
	return places
}

func lined(outers []int64, inner int64, wrap bool) [][2]int {
	var lines [][2]int
	for i := range outers {
		last := len(lines) - 1
		if last >= 0 && (!wrap || fits(outers[lines[last][0]:i+1], inner)) {
			lines[last][1] = i + 1
			continue
		}
		lines = append(lines, [2]int{i, i + 1})
	}
	return lines
}

func isOrdered(t *testing.T, orders []int) {
	t.Helper()
	if got, want := coll.Order(orders), ordered(orders); !slices.Equal(got, want) {
		t.Fatalf("Order(%d): %d, not %d", orders, got, want)
	}
}

func isLined(t *testing.T, outers []int64, inner int64) {
	t.Helper()
	for _, wrap := range []bool{false, true} {
		if got, want := coll.Lines(outers, inner, wrap), lined(outers, inner, wrap); !slices.Equal(got, want) {
			t.Fatalf("Lines(%d, %d, %t): %d, not %d", outers, inner, wrap, got, want)
		}
	}
}

// 17.1: Order

func TestOrderByHand(t *testing.T) {
	for _, x := range []struct{ orders, want []int }{
		{nil, nil},
		{[]int{}, nil},
		{make([]int, 0, 5), nil},
		{[]int{7}, []int{0}},
		{[]int{-7}, []int{0}},
		{[]int{1, 2, 3}, []int{0, 1, 2}},
		{[]int{3, 2, 1}, []int{2, 1, 0}},
		{[]int{2, 3, 1}, []int{2, 0, 1}},
		{[]int{0, 0, 0, 0}, []int{0, 1, 2, 3}},
		{[]int{1, 0, 1, 0}, []int{1, 3, 0, 2}},
		{[]int{0, -1, 1, -1, 0}, []int{1, 3, 0, 4, 2}},
		{[]int{0, math.MinInt, math.MaxInt, -1, 1}, []int{1, 3, 0, 4, 2}},
		{[]int{math.MaxInt, math.MinInt}, []int{1, 0}},
		{[]int{math.MinInt, math.MaxInt}, []int{0, 1}},
		{[]int{1 << 32, 1, 0}, []int{2, 1, 0}},
		{[]int{1<<53 + 1, 1 << 53}, []int{1, 0}},
	} {
		if got := coll.Order(x.orders); !slices.Equal(got, x.want) {
			t.Errorf("Order(%d): %d, not %d", x.orders, got, x.want)
		}
	}
}

func TestOrderOfAllShortLists(t *testing.T) {
	each([]int{-2, -1, 0, 1, 2}, 5, func(l []int) { isOrdered(t, l) })
}

// Lists of more than a few take other ways of sorting, so that the same order
// must stay as it stands in those too.
func TestOrderOfLongLists(t *testing.T) {
	r := rand.New(rand.NewSource(171))
	for range 2000 {
		isOrdered(t, drawn(r, []int{-3, -1, 0, 0, 0, 1, 2}, 100))
	}
	for _, n := range []int{api.MaxNodes, 2 * api.MaxNodes} {
		same, falling := make([]int, n), make([]int, n)
		for i := range falling {
			falling[i] = -i / 3
		}
		isOrdered(t, same)
		isOrdered(t, falling)
	}
}

func TestOrderAtBounds(t *testing.T) {
	r := rand.New(rand.NewSource(172))
	var some []int
	for _, n := range extremes() {
		some = append(some, int(n))
	}
	each(some, 2, func(l []int) { isOrdered(t, l) })
	for range 5000 {
		isOrdered(t, drawn(r, some, 20))
	}
}

// 17.1: Lines

func TestLinesByHand(t *testing.T) {
	for _, x := range []struct {
		outers []int64
		inner  int64
		want   [][2]int
	}{
		{nil, 10, nil},
		{[]int64{}, 10, nil},
		{make([]int64, 0, 5), 0, nil},
		{[]int64{4}, 10, [][2]int{{0, 1}}},
		{[]int64{4, 4, 4}, 10, [][2]int{{0, 2}, {2, 3}}},
		{[]int64{4, 4, 4}, 12, [][2]int{{0, 3}}},
		{[]int64{4, 4, 4}, 11, [][2]int{{0, 2}, {2, 3}}},
		{[]int64{4, 4, 4}, 8, [][2]int{{0, 2}, {2, 3}}},
		{[]int64{4, 4, 4}, 7, [][2]int{{0, 1}, {1, 2}, {2, 3}}},
		// The first one of a line stands there, however great it is.
		{[]int64{11}, 10, [][2]int{{0, 1}}},
		{[]int64{11, 12, 13}, 10, [][2]int{{0, 1}, {1, 2}, {2, 3}}},
		{[]int64{1, 11, 1}, 10, [][2]int{{0, 1}, {1, 2}, {2, 3}}},
		{[]int64{1, 1}, 0, [][2]int{{0, 1}, {1, 2}}},
		{[]int64{1, 1}, -1, [][2]int{{0, 1}, {1, 2}}},
		{[]int64{-1, -1}, -3, [][2]int{{0, 1}, {1, 2}}},
		// Those of no width stand on a line that is full, and on none that is too
		// full.
		{[]int64{10, 0, 0, 1}, 10, [][2]int{{0, 3}, {3, 4}}},
		{[]int64{11, 0, 0, 1}, 10, [][2]int{{0, 1}, {1, 4}}},
		{[]int64{0, 0, 0}, 0, [][2]int{{0, 3}}},
		{[]int64{0, 0, 0}, -1, [][2]int{{0, 1}, {1, 2}, {2, 3}}},
		// One below 0 makes room, but not for one ahead of it.
		{[]int64{8, -3, 5, 1}, 10, [][2]int{{0, 3}, {3, 4}}},
		{[]int64{8, 5, -3}, 10, [][2]int{{0, 1}, {1, 3}}},
		{[]int64{12, -2, 1}, 10, [][2]int{{0, 2}, {2, 3}}},
		{[]int64{12, -1, 1}, 10, [][2]int{{0, 1}, {1, 3}}},
		{[]int64{-10, 20, 1}, 10, [][2]int{{0, 2}, {2, 3}}},
		{[]int64{-10, 4, 1, 1}, -5, [][2]int{{0, 3}, {3, 4}}},
		// Sums are no narrower than they come to.
		{[]int64{math.MaxInt64, 1}, math.MaxInt64, [][2]int{{0, 1}, {1, 2}}},
		{[]int64{math.MaxInt64, 1, -1}, math.MaxInt64, [][2]int{{0, 1}, {1, 3}}},
		{[]int64{math.MaxInt64, math.MaxInt64, 2}, 0, [][2]int{{0, 1}, {1, 2}, {2, 3}}},
		{[]int64{math.MinInt64, -1}, math.MinInt64, [][2]int{{0, 2}}},
		{[]int64{math.MinInt64, math.MinInt64, math.MaxInt64, math.MaxInt64, 3}, 0, [][2]int{{0, 4}, {4, 5}}},
		{[]int64{api.Far, api.Far, api.Far}, 2 * api.Far, [][2]int{{0, 2}, {2, 3}}},
		{[]int64{api.Far, 1}, api.Far, [][2]int{{0, 1}, {1, 2}}},
		{[]int64{1 << 32, 5}, 10, [][2]int{{0, 1}, {1, 2}}},
	} {
		if got := coll.Lines(x.outers, x.inner, true); !slices.Equal(got, x.want) {
			t.Errorf("Lines(%d, %d): %d, not %d", x.outers, x.inner, got, x.want)
		}
		isLined(t, x.outers, x.inner)
	}
}

func TestLinesWithoutWrap(t *testing.T) {
	r := rand.New(rand.NewSource(173))
	for _, inner := range extremes() {
		for _, l := range [][]int64{nil, {}} {
			if got := coll.Lines(l, inner, false); len(got) != 0 {
				t.Errorf("none, %d: %d", inner, got)
			}
		}
		for range 20 {
			l := append(drawn(r, extremes(), 20), 1)
			if got := coll.Lines(l, inner, false); !slices.Equal(got, [][2]int{{0, len(l)}}) {
				t.Errorf("Lines(%d, %d): %d", l, inner, got)
			}
		}
	}
}

func TestLinesOfAllShortLists(t *testing.T) {
	each([]int64{-3, -1, 0, 1, 2, 5}, 4, func(l []int64) {
		for inner := int64(-5); inner <= 8; inner++ {
			isLined(t, l, inner)
		}
	})
}

func TestLinesOfLongLists(t *testing.T) {
	r := rand.New(rand.NewSource(174))
	for range 3000 {
		isLined(t, drawn(r, []int64{0, 1, 2, 3, 5, 8, 13, 21, -1, -4}, 60), r.Int63n(60)-5)
	}
	l := make([]int64, api.MaxNodes)
	for i := range l {
		l[i] = int64(i % 7)
	}
	for _, inner := range []int64{-1, 0, 6, 20, 100, 1500, 5000} {
		isLined(t, l, inner)
	}
}

func TestLinesAtBounds(t *testing.T) {
	r := rand.New(rand.NewSource(175))
	each(extremes(), 2, func(l []int64) {
		for _, inner := range extremes() {
			isLined(t, l, inner)
		}
	})
	for range 20000 {
		isLined(t, drawn(r, extremes(), 8), extremes()[r.Intn(len(extremes()))])
	}
}

// 17.2, with W2: each item is in one line, and lines are as full as they can
// be.

func TestEachItemIsInOneLine(t *testing.T) {
	r := rand.New(rand.NewSource(176))
	for range 5000 {
		some := []int64{-4, -1, 0, 1, 2, 3, 5, 8, 40}
		if r.Intn(3) == 0 {
			some = extremes()
		}
		l, inner := drawn(r, some, 30), some[r.Intn(len(some))]
		for _, wrap := range []bool{false, true} {
			end := 0
			for _, line := range coll.Lines(l, inner, wrap) {
				if line[0] != end || line[1] <= line[0] {
					t.Fatalf("Lines(%d, %d, %t): a line %d behind %d", l, inner, wrap, line, end)
				}
				end = line[1]
			}
			if end != len(l) {
				t.Fatalf("Lines(%d, %d, %t) end at %d", l, inner, wrap, end)
			}
		}
	}
}

func TestLinesAreAsFullAsTheyCanBe(t *testing.T) {
	r := rand.New(rand.NewSource(177))
	for range 5000 {
		l, inner := drawn(r, []int64{0, 1, 2, 3, 5, 8, 40}, 30), r.Int63n(30)-2
		for _, line := range coll.Lines(l, inner, true) {
			from, to := line[0], line[1]
			if to-from > 1 && !fits(l[from:to], inner) {
				t.Fatalf("Lines(%d, %d): line %d is too full", l, inner, line)
			}
			if to < len(l) && fits(l[from:to+1], inner) {
				t.Fatalf("Lines(%d, %d): line %d has room for one more", l, inner, line)
			}
		}
	}
}

// What is on a line ahead says nothing of the lines behind it.
func TestEachLineBeginsAnew(t *testing.T) {
	r := rand.New(rand.NewSource(178))
	for range 3000 {
		l, inner := drawn(r, []int64{-2, 0, 1, 2, 3, 5, 8, 40}, 30), r.Int63n(30)-2
		lines := coll.Lines(l, inner, true)
		for i, line := range lines {
			rest := coll.Lines(l[line[0]:], inner, true)
			for j := range rest {
				rest[j][0] += line[0]
				rest[j][1] += line[0]
			}
			if !slices.Equal(rest, lines[i:]) {
				t.Fatalf("Lines(%d, %d): %d, but from %d on %d", l, inner, lines, line[0], rest)
			}
		}
	}
}

func TestEachPlaceIsInTheOrderOnce(t *testing.T) {
	r := rand.New(rand.NewSource(179))
	for range 2000 {
		orders := drawn(r, []int{-5, 0, 0, 1, 9}, 60)
		places := coll.Order(orders)
		for i := 1; i < len(places); i++ {
			a, b := places[i-1], places[i]
			if orders[a] > orders[b] || orders[a] == orders[b] && a >= b {
				t.Fatalf("Order(%d): %d ahead of %d", orders, a, b)
			}
		}
		slices.Sort(places)
		for i, n := range places {
			if n != i {
				t.Fatalf("Order(%d) has not each place once", orders)
			}
		}
		if len(places) != len(orders) {
			t.Fatalf("Order(%d) has %d places", orders, len(places))
		}
	}
}

// Rules 1 and 3: what is handed in stays as it is, its spare room too, and what
// is answered is new memory.

func TestWhatIsHandedInStays(t *testing.T) {
	orders, outers := []int{3, 1, 2, 1, 9, 9}, []int64{4, 4, 4, 4, 9, 9}
	wasOrders, wasOuters := slices.Clone(orders), slices.Clone(outers)
	places := coll.Order(orders[:4])
	lines := coll.Lines(outers[:4], 10, true)
	if !slices.Equal(orders, wasOrders) || !slices.Equal(outers, wasOuters) {
		t.Errorf("turned: %d %d", orders, outers)
	}
	clear(orders)
	clear(outers)
	if !slices.Equal(places, []int{1, 3, 2, 0}) || !slices.Equal(lines, [][2]int{{0, 2}, {2, 4}}) {
		t.Errorf("kept what was handed in: %d %d", places, lines)
	}
}

func TestAnswersAreNewMemory(t *testing.T) {
	orders, outers := []int{3, 1, 2}, []int64{4, 4, 4}
	for range 2 {
		places, lines := coll.Order(orders), coll.Lines(outers, 10, true)
		if !slices.Equal(places, []int{1, 2, 0}) || !slices.Equal(lines, [][2]int{{0, 2}, {2, 3}}) {
			t.Fatalf("%d %d", places, lines)
		}
		clear(places[:cap(places)])
		clear(lines[:cap(lines)])
	}
}

// 17.3

func TestNoCallPanics(t *testing.T) {
	r := rand.New(rand.NewSource(180))
	for range 3000 {
		outers := drawn(r, extremes(), 40)
		orders := make([]int, len(outers))
		for i, n := range outers {
			orders[i] = int(n)
		}
		coll.Order(orders)
		for _, inner := range extremes() {
			coll.Lines(outers, inner, r.Intn(2) == 0)
		}
	}
	coll.Order(make([]int, 100000))
	coll.Lines(make([]int64, 100000), -1, true)
	coll.Lines(make([]int64, 100000), 0, true)
}
