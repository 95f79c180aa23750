package row_test

import (
	"math"
	"math/big"
	"math/rand"
	"slices"
	"strings"
	"testing"

	"quoin/api"
	"quoin/brk"
	"quoin/gaug"
	"quoin/row"
	"quoin/whit"
)

// The white-spaces, by the numbers that a Run has.
const (
	normal = 0
	nowrap = 1
	pre    = 2
)

// The aligns, by the numbers that a style has.
const (
	left   = 0
	right  = 1
	center = 2
)

// letters is metrics by which a letter leads 10, a blank 4 and an i 3.
func letters() api.Metrics {
	m := same(10)
	m.Adv[' '], m.Adv['i'] = 4, 3
	return m
}

func same(adv int64) api.Metrics {
	var m api.Metrics
	for b := range m.Adv {
		m.Adv[b] = adv
	}
	return m
}

// run is a run of a text with white-space normal.
func run(node int, s string, line int64) api.Run {
	return api.Run{Node: node, Text: s, Line: line}
}

func asPre(r api.Run) api.Run {
	r.White = pre
	return r
}

func asNowrap(r api.Run) api.Run {
	r.White = nowrap
	return r
}

// piece is an api.Piece, as tables tell it.
type piece struct {
	Node       int
	X, Y, W, H int64
	From, To   int
	Line       int
}

func pieces(l []piece) []api.Piece {
	var out []api.Piece
	for _, p := range l {
		out = append(out, api.Piece{
			Node: p.Node, Rect: api.Rect{X: p.X, Y: p.Y, W: p.W, H: p.H}, From: p.From, To: p.To, Line: p.Line,
		})
	}
	return out
}

// held is a line-height within its bounds.
func held(line int64) int64 {
	switch {
	case line < 0:
		return 0
	case line > api.Far:
		return api.Far
	}
	return line
}

// place is what Place is handed in.
type place struct {
	runs        []api.Run
	avail, line int64
	align       int
}

func (p place) in(m api.Metrics) ([]api.Piece, int64) {
	return row.Place(m, p.runs, p.avail, p.line, p.align)
}

// told is the answer by the chapter's words, one sentence at a time.
func (p place) told(m api.Metrics) ([]api.Piece, int64) {
	var all []api.Piece
	var y int64
	glyphs := whit.Glyphs(m, p.runs)
	for i, span := range brk.Lines(glyphs, p.avail) {
		g := glyphs[span.From:span.To]
		ups := []int64{gaug.Up(held(p.line))}
		rests := []int64{held(p.line) - gaug.Up(held(p.line))}
		for _, x := range g {
			h := held(p.runs[x.Run].Line)
			ups, rests = append(ups, gaug.Up(h)), append(rests, h-gaug.Up(h))
		}
		baseline := y + slices.Max(ups)
		for from := 0; from < len(g); {
			to := from
			for to < len(g) && g[to].Run == g[from].Run {
				to++
			}
			r := p.runs[g[from].Run]
			all = append(all, api.Piece{
				Node: r.Node,
				Rect: api.Rect{
					X: start(p.avail, span.W, p.align) + sum(g[:from]),
					Y: baseline - gaug.Up(held(r.Line)),
					W: sum(g[from:to]),
					H: held(r.Line),
				},
				From: g[from].At,
				To:   g[to-1].At + 1,
				Line: i,
			})
			from = to
		}
		y = baseline + slices.Max(rests)
	}
	return all, y
}

func start(avail, w int64, align int) int64 {
	room := new(big.Int).Sub(big.NewInt(avail), big.NewInt(w))
	switch {
	case room.Sign() < 0 || align != right && align != center:
		return 0
	case align == center:
		room.Rsh(room, 1)
	}
	return room.Int64()
}

func sum(g []api.Glyph) int64 {
	var w int64
	for _, x := range g {
		w += x.Adv
	}
	return w
}

// isAsTold holds an answer against the chapter's words.
func isAsTold(t *testing.T, m api.Metrics, p place) {
	t.Helper()
	got, high := p.in(m)
	want, wantHigh := p.told(m)
	if !slices.Equal(got, want) || high != wantHigh {
		t.Fatalf("%+v: %v of height %d, not %v of %d", p, got, high, want, wantHigh)
	}
}

// extremes is lengths at bounds, and such that a narrower number, or a sum,
// would take for another one.
func extremes() []int64 {
	return []int64{
		0, 1, -1, 2, 3, 10, api.Far - 1, api.Far, api.Far + 1, -api.Far, -api.Far - 1, 2 * api.Far, 1 << 32, 1<<32 + 5,
		-1 << 32, 5 - 1<<32, math.MaxInt64, math.MaxInt64 - 1, math.MinInt64, math.MinInt64 + 1, math.MinInt64 + 20,
		math.MaxInt64 / 2, math.MinInt64 / 2,
	}
}

// drawn calls do with drawn runs, in drawn widths.
func drawn(seed int64, times int, do func(p place)) {
	r := rand.New(rand.NewSource(seed))
	for range times {
		runs := make([]api.Run, r.Intn(9))
		for i := range runs {
			s := make([]byte, r.Intn(14))
			for k := range s {
				s[k] = "abci   \n\t"[r.Intn(9)]
			}
			runs[i] = api.Run{Node: r.Intn(6), Text: string(s), White: []int{normal, normal, normal, nowrap, pre, 7}[r.Intn(6)], Line: r.Int63n(34) - 3}
		}
		do(place{runs, r.Int63n(160) - 10, r.Int63n(34) - 3, r.Intn(5) - 1})
	}
}

// lists calls do with each list of n of the runs.
func lists(n int, of []api.Run, do func(runs []api.Run)) {
	runs := make([]api.Run, n)
	var from func(i int)
	from = func(i int) {
		if i == n {
			do(runs)
			return
		}
		for _, x := range of {
			runs[i] = x
			from(i + 1)
		}
	}
	from(0)
}

// 12.1

func TestPlace(t *testing.T) {
	for _, x := range []struct {
		place
		want []piece
		high int64
	}{
		// Nothing shows: there is no line, not even the strut's.
		{place{nil, 100, 20, left}, nil, 0},
		{place{[]api.Run{}, 100, 20, center}, nil, 0},
		{place{[]api.Run{run(1, "", 8)}, 100, 20, left}, nil, 0},
		{place{[]api.Run{run(1, " \t\n", 8), asNowrap(run(2, " ", 8)), asPre(run(3, "", 8))}, 100, 20, left}, nil, 0},
		// One line.
		{place{[]api.Run{run(1, "ab", 8)}, 100, 0, left}, []piece{{1, 0, 0, 20, 8, 0, 2, 0}}, 8},
		{place{[]api.Run{run(1, "a b", 8)}, 100, 0, left}, []piece{{1, 0, 0, 24, 8, 0, 3, 0}}, 8},
		// From and To are of the bytes that show: what is between stands in it.
		{place{[]api.Run{run(1, "  a \n b  ", 8)}, 100, 0, left}, []piece{{1, 0, 0, 24, 8, 2, 7, 0}}, 8},
		{place{[]api.Run{asPre(run(1, " a ", 8))}, 100, 0, left}, []piece{{1, 0, 0, 18, 8, 0, 3, 0}}, 8},
		{place{[]api.Run{asNowrap(run(1, " a  b ", 8))}, 3, 0, left}, []piece{{1, 0, 0, 24, 8, 1, 5, 0}}, 8},
		// Lines below each other, each at 0.
		{
			place{[]api.Run{run(1, "ab cd  e", 8)}, 20, 0, left},
			[]piece{{1, 0, 0, 20, 8, 0, 2, 0}, {1, 0, 8, 20, 8, 3, 5, 1}, {1, 0, 16, 10, 8, 7, 8, 2}}, 24,
		},
		{
			place{[]api.Run{run(1, "ab cd  e", 8)}, 34, 12, left},
			[]piece{{1, 0, 2, 20, 8, 0, 2, 0}, {1, 0, 14, 34, 8, 3, 8, 1}}, 24,
		},
		// A row of glyphs for each run, though they are of one node.
		{
			place{[]api.Run{run(4, "a", 8), run(4, "b", 8), run(2, "c", 8), run(4, "d", 8)}, 100, 0, left},
			[]piece{{4, 0, 0, 10, 8, 0, 1, 0}, {4, 10, 0, 10, 8, 0, 1, 0}, {2, 20, 0, 10, 8, 0, 1, 0}, {4, 30, 0, 10, 8, 0, 1, 0}}, 8,
		},
		// A blank is its first byte's run's.
		{
			place{[]api.Run{run(1, "a  ", 8), run(2, "  ", 9), run(3, " b", 8)}, 100, 0, left},
			[]piece{{1, 0, 0, 14, 8, 0, 2, 0}, {3, 14, 0, 10, 8, 1, 2, 0}}, 8,
		},
		{
			place{[]api.Run{run(1, "a", 8), run(2, "  ", 16), run(3, " b", 8)}, 100, 0, left},
			[]piece{{1, 0, 4, 10, 8, 0, 1, 0}, {2, 10, 0, 4, 16, 0, 1, 0}, {3, 14, 4, 10, 8, 1, 2, 0}}, 16,
		},
		{
			place{[]api.Run{run(1, "a", 8), run(2, "b", 8), run(3, " c", 8)}, 100, 0, left},
			[]piece{{1, 0, 0, 10, 8, 0, 1, 0}, {2, 10, 0, 10, 8, 0, 1, 0}, {3, 20, 0, 14, 8, 0, 2, 0}}, 8,
		},
		// The blank that a line ends at is on none, nor does its run make one higher.
		{
			place{[]api.Run{run(1, "a", 8), run(2, "  ", 99), run(3, "b", 8)}, 10, 0, left},
			[]piece{{1, 0, 0, 10, 8, 0, 1, 0}, {3, 0, 8, 10, 8, 0, 1, 1}}, 16,
		},
		{
			place{[]api.Run{run(1, "a ", 8), run(2, "b c", 10)}, 14, 0, left},
			[]piece{{1, 0, 0, 10, 8, 0, 1, 0}, {2, 0, 8, 10, 10, 0, 1, 1}, {2, 0, 18, 10, 10, 2, 3, 2}}, 28,
		},
		// A run on two lines.
		{
			place{[]api.Run{run(1, "a ", 8), run(2, "b c", 10), run(3, " d", 20)}, 24, 0, left},
			[]piece{{1, 0, 1, 14, 8, 0, 2, 0}, {2, 14, 0, 10, 10, 0, 1, 0}, {2, 0, 15, 10, 10, 2, 3, 1}, {3, 10, 10, 14, 20, 0, 2, 1}}, 30,
		},
		// A word of several runs is on one line.
		{
			place{[]api.Run{run(1, "a b", 8), run(2, "c", 8), run(3, "d e", 8)}, 5, 0, left},
			[]piece{{1, 0, 0, 10, 8, 0, 1, 0}, {1, 0, 8, 10, 8, 2, 3, 1}, {2, 10, 8, 10, 8, 0, 1, 1}, {3, 20, 8, 10, 8, 0, 1, 1}, {3, 0, 16, 10, 8, 2, 3, 2}}, 24,
		},
		// A run without bytes, and one of which nothing shows, make no line higher.
		{
			place{[]api.Run{run(1, "", 99), run(2, "a", 8), run(3, "", 99), run(4, "b", 8), run(5, " ", 99), run(6, "", 99)}, 100, 0, left},
			[]piece{{2, 0, 0, 10, 8, 0, 1, 0}, {4, 10, 0, 10, 8, 0, 1, 0}}, 8,
		},
		// A break is on no line. An empty line is as high as the strut.
		{place{[]api.Run{asPre(run(1, "\n", 8))}, 100, 6, left}, nil, 6},
		{place{[]api.Run{asPre(run(1, "\n\n\n", 8))}, 100, 6, left}, nil, 18},
		{place{[]api.Run{asPre(run(1, "\n\n\n", 8))}, 100, 0, left}, nil, 0},
		{place{[]api.Run{asPre(run(1, "a\n", 8))}, 100, 6, left}, []piece{{1, 0, 0, 10, 8, 0, 1, 0}}, 8},
		{place{[]api.Run{asPre(run(1, "\na", 8))}, 100, 6, left}, []piece{{1, 0, 6, 10, 8, 1, 2, 1}}, 14},
		{
			place{[]api.Run{asPre(run(1, "a\n\nb", 8))}, 100, 6, left},
			[]piece{{1, 0, 0, 10, 8, 0, 1, 0}, {1, 0, 14, 10, 8, 3, 4, 2}}, 22,
		},
		{
			place{[]api.Run{run(1, "a ", 8), asPre(run(2, "\n", 99)), run(3, " b ", 8)}, 100, 6, left},
			[]piece{{1, 0, 0, 10, 8, 0, 1, 0}, {3, 0, 8, 10, 8, 1, 2, 1}}, 16,
		},
		// One baseline: Up is the half, rounded up.
		{
			place{[]api.Run{run(1, "a", 8), run(2, "b", 13), run(3, "c", 1), run(4, "d", 0)}, 100, 5, left},
			[]piece{{1, 0, 3, 10, 8, 0, 1, 0}, {2, 10, 0, 10, 13, 0, 1, 0}, {3, 20, 6, 10, 1, 0, 1, 0}, {4, 30, 7, 10, 0, 0, 1, 0}}, 13,
		},
		{
			place{[]api.Run{run(1, "a", 8), run(2, "b", 7)}, 100, 0, left},
			[]piece{{1, 0, 0, 10, 8, 0, 1, 0}, {2, 10, 0, 10, 7, 0, 1, 0}}, 8,
		},
		{place{[]api.Run{run(1, "a", 7)}, 100, 8, left}, []piece{{1, 0, 0, 10, 7, 0, 1, 0}}, 8},
		{place{[]api.Run{run(1, "a", 8)}, 100, 9, left}, []piece{{1, 0, 1, 10, 8, 0, 1, 0}}, 9},
		{place{[]api.Run{run(1, "a", 0)}, 100, 9, left}, []piece{{1, 0, 5, 10, 0, 0, 1, 0}}, 9},
		{place{[]api.Run{run(1, "a", 0)}, 100, 0, left}, []piece{{1, 0, 0, 10, 0, 0, 1, 0}}, 0},
		// Each line is as high as what is on it.
		{
			place{[]api.Run{run(1, "a ", 20), run(2, "b ", 6), run(3, "c", 11)}, 10, 8, left},
			[]piece{{1, 0, 0, 10, 20, 0, 1, 0}, {2, 0, 21, 10, 6, 0, 1, 1}, {3, 0, 28, 10, 11, 0, 1, 2}}, 39,
		},
		// Aligns.
		{place{[]api.Run{run(1, "ab", 8)}, 50, 0, right}, []piece{{1, 30, 0, 20, 8, 0, 2, 0}}, 8},
		{place{[]api.Run{run(1, "ab", 8)}, 50, 0, center}, []piece{{1, 15, 0, 20, 8, 0, 2, 0}}, 8},
		{place{[]api.Run{run(1, "ab", 8)}, 51, 0, center}, []piece{{1, 15, 0, 20, 8, 0, 2, 0}}, 8},
		{place{[]api.Run{run(1, "ab", 8)}, 20, 0, right}, []piece{{1, 0, 0, 20, 8, 0, 2, 0}}, 8},
		{place{[]api.Run{run(1, "ab", 8)}, 21, 0, right}, []piece{{1, 1, 0, 20, 8, 0, 2, 0}}, 8},
		{place{[]api.Run{run(1, "ab", 8)}, 21, 0, center}, []piece{{1, 0, 0, 20, 8, 0, 2, 0}}, 8},
		{place{[]api.Run{run(1, "ab", 8)}, 19, 0, right}, []piece{{1, 0, 0, 20, 8, 0, 2, 0}}, 8},
		{place{[]api.Run{run(1, "ab", 8)}, 10, 0, center}, []piece{{1, 0, 0, 20, 8, 0, 2, 0}}, 8},
		{place{[]api.Run{run(1, "ab", 8)}, -7, 0, right}, []piece{{1, 0, 0, 20, 8, 0, 2, 0}}, 8},
		{
			place{[]api.Run{run(1, "a", 8), run(2, "b cde fghjk", 8)}, 40, 0, right},
			[]piece{{1, 20, 0, 10, 8, 0, 1, 0}, {2, 30, 0, 10, 8, 0, 1, 0}, {2, 10, 8, 30, 8, 2, 5, 1}, {2, 0, 16, 50, 8, 6, 11, 2}}, 24,
		},
		{
			place{[]api.Run{run(1, "a", 8), run(2, "b cde fghjk", 8)}, 40, 0, center},
			[]piece{{1, 10, 0, 10, 8, 0, 1, 0}, {2, 20, 0, 10, 8, 0, 1, 0}, {2, 5, 8, 30, 8, 2, 5, 1}, {2, 0, 16, 50, 8, 6, 11, 2}}, 24,
		},
		// The blank that a line ends at doesn't move it.
		{
			place{[]api.Run{run(1, "ab ab", 8)}, 24, 0, right},
			[]piece{{1, 4, 0, 20, 8, 0, 2, 0}, {1, 4, 8, 20, 8, 3, 5, 1}}, 16,
		},
	} {
		if got, high := x.in(letters()); !slices.Equal(got, pieces(x.want)) || high != x.high {
			t.Errorf("%+v: %v of height %d, not %v of %d", x.place, got, high, pieces(x.want), x.high)
		}
	}
}

func TestPlaceIsAsTold(t *testing.T) {
	few := []api.Run{
		run(1, "a", 7), run(2, "i b", 4), run(3, " ", 10), run(4, "", 30), asNowrap(run(5, " c", 9)), asPre(run(6, "\n", 40)),
		asPre(run(1, " \na", 3)), run(7, "d ", 8),
	}
	for n := range 4 {
		lists(n, few, func(runs []api.Run) {
			for avail := int64(-1); avail < 50; avail += 3 {
				for align := range 4 {
					isAsTold(t, letters(), place{runs, avail, 6, align})
				}
			}
		})
	}
	drawn(12, 20000, func(p place) { isAsTold(t, letters(), p) })
}

func TestAligns(t *testing.T) {
	runs := []api.Run{run(1, "a", 8), run(2, "b", 9)}
	xs := func(avail int64, align int) []int64 {
		l, _ := row.Place(letters(), runs, avail, 0, align)
		var out []int64
		for _, p := range l {
			out = append(out, p.Rect.X)
		}
		return out
	}
	for _, x := range []struct {
		avail         int64
		right, center int64
	}{
		{19, 0, 0}, {20, 0, 0}, {21, 1, 0}, {22, 2, 1}, {23, 3, 1}, {24, 4, 2}, {0, 0, 0}, {-1, 0, 0}, {-21, 0, 0},
		{1 << 32, 1<<32 - 20, 1<<31 - 10},
		{math.MaxInt64, math.MaxInt64 - 20, math.MaxInt64/2 - 10},
		{math.MinInt64, 0, 0}, {math.MinInt64 + 19, 0, 0}, {math.MinInt64 + 20, 0, 0}, {math.MinInt64 + 21, 0, 0},
	} {
		if got, want := xs(x.avail, right), []int64{x.right, x.right + 10}; !slices.Equal(got, want) {
			t.Errorf("right in %d: at %d, not %d", x.avail, got, want)
		}
		if got, want := xs(x.avail, center), []int64{x.center, x.center + 10}; !slices.Equal(got, want) {
			t.Errorf("center in %d: at %d, not %d", x.avail, got, want)
		}
		for _, align := range []int{
			left, -1, -2, 3, 4, 255, 256, 257, 258, 1<<16 + 1, 1<<16 + 2, 1<<32 + 1, 1<<32 + 2, -1<<32 + 1,
			math.MaxInt, math.MinInt, math.MinInt + 1, math.MinInt + 2,
		} {
			if got, want := xs(x.avail, align), []int64{0, 10}; !slices.Equal(got, want) {
				t.Errorf("align %d in %d: at %d, not %d", align, x.avail, got, want)
			}
		}
	}
}

func TestLineHeights(t *testing.T) {
	for _, x := range [][2]int64{
		{0, 0}, {1, 1}, {2, 2}, {-1, 0}, {-2, 0}, {-3, 0}, {api.Far - 1, api.Far - 1}, {api.Far, api.Far}, {api.Far + 1, api.Far},
		{api.Far + 2, api.Far}, {-api.Far, 0}, {-api.Far - 1, 0}, {1 << 32, api.Far}, {1<<32 + 5, api.Far}, {-1 << 32, 0},
		{5 - 1<<32, 0}, {math.MaxInt64, api.Far}, {math.MaxInt64 - 1, api.Far}, {math.MinInt64, 0}, {math.MinInt64 + 5, 0},
	} {
		given, h := x[0], x[1]
		// Of a run alone.
		got, high := row.Place(letters(), []api.Run{run(1, "a b", given)}, 10, 0, left)
		if want := pieces([]piece{{1, 0, 0, 10, h, 0, 1, 0}, {1, 0, h, 10, h, 2, 3, 1}}); !slices.Equal(got, want) || high != 2*h {
			t.Errorf("a run of %d: %v of height %d, not %v of %d", given, got, high, want, 2*h)
		}
		// Of the strut alone.
		up := h/2 + h%2
		got, high = row.Place(letters(), []api.Run{run(1, "a b", 0)}, 10, given, left)
		if want := pieces([]piece{{1, 0, up, 10, 0, 0, 1, 0}, {1, 0, h + up, 10, 0, 2, 3, 1}}); !slices.Equal(got, want) || high != 2*h {
			t.Errorf("a strut of %d: %v of height %d, not %v of %d", given, got, high, want, 2*h)
		}
		// Of one beside others.
		for line := int64(-1); line < 6; line++ {
			for beside := int64(-1); beside < 6; beside++ {
				isAsTold(t, letters(), place{[]api.Run{run(1, "a ", given), run(2, "b c", beside)}, 24, line, left})
				isAsTold(t, letters(), place{[]api.Run{run(1, "a", beside), run(2, "b c", line)}, 24, given, left})
			}
		}
	}
}

// A height is as great as its lines are, though no length that is told is.
func TestHeightIsNotHeld(t *testing.T) {
	const n = 100
	runs := []api.Run{run(1, strings.Repeat("a ", n), api.Far)}
	got, high := row.Place(letters(), runs, 0, 8, left)
	if len(got) != n || high != n*api.Far || got[n-1].Rect.Y != (n-1)*api.Far {
		t.Errorf("%d pieces of height %d, the last of them %v", len(got), high, got[len(got)-1])
	}
}

// A line is as wide as its glyphs, each held to its bounds by gaug.
func TestAdvs(t *testing.T) {
	for _, x := range [][2]int64{
		{0, 0}, {1, 1}, {65535, 65535}, {65536, 65536}, {65537, 65536}, {-1, 0}, {1 << 32, 65536}, {math.MaxInt64, 65536}, {math.MinInt64, 0},
	} {
		w := x[1]
		got, high := row.Place(same(x[0]), []api.Run{run(1, "ab ", 8), run(2, "cd", 8)}, 1<<40, 0, right)
		want := pieces([]piece{{1, 1<<40 - 5*w, 0, 3 * w, 8, 0, 3, 0}, {2, 1<<40 - 2*w, 0, 2 * w, 8, 0, 2, 0}})
		if !slices.Equal(got, want) || high != 8 {
			t.Errorf("where each byte leads %d: %v of height %d, not %v", x[0], got, high, want)
		}
	}
	// A line beyond Far is not held, nor where its pieces stand.
	const n = 40000
	got, _ := row.Place(same(65536), []api.Run{run(1, strings.Repeat("a", n), 8), run(2, "b", 8)}, 0, 0, left)
	if want := pieces([]piece{{1, 0, 0, 65536 * n, 8, 0, n, 0}, {2, 65536 * n, 0, 65536, 8, 0, 1, 0}}); !slices.Equal(got, want) {
		t.Errorf("%v, not %v", got, want)
	}
}

// A piece is of its run's node, whatever that is.
func TestNodes(t *testing.T) {
	for _, node := range []int{0, -1, 1, 1000, 1001, 1 << 32, math.MaxInt, math.MinInt} {
		got, high := row.Place(letters(), []api.Run{run(node, "a b", 8), run(3, "c", 8)}, 20, 0, left)
		want := pieces([]piece{{node, 0, 0, 10, 8, 0, 1, 0}, {node, 0, 8, 10, 8, 2, 3, 1}, {3, 10, 8, 10, 8, 0, 1, 1}})
		if !slices.Equal(got, want) || high != 16 {
			t.Errorf("%v of height %d, not %v", got, high, want)
		}
	}
}

// White-spaces that there are not are as normal.
func TestOtherWhites(t *testing.T) {
	runs := []api.Run{run(1, " a\n b ", 8), asPre(run(2, "c\nd", 8)), run(3, "e  f", 8)}
	want, wantHigh := row.Place(letters(), runs, 30, 0, center)
	for _, white := range []int{-1, 3, 256, 257, 258, 1<<32 + 1, 1<<32 + 2, math.MaxInt, math.MinInt, math.MinInt + 2} {
		runs[0].White, runs[2].White = white, white
		if got, high := row.Place(letters(), runs, 30, 0, center); !slices.Equal(got, want) || high != wantHigh {
			t.Errorf("white-space %d: %v of height %d, not %v of %d", white, got, high, want, wantHigh)
		}
	}
}

// 12.2

// The pieces of a line stand one behind the other from where it begins, each
// with its Up above one baseline, and the lines one below the other.
func TestPiecesStandSideBySideOnOneBaseline(t *testing.T) {
	drawn(13, 20000, func(p place) {
		all, high := p.in(letters())
		spans := brk.Lines(whit.Glyphs(letters(), p.runs), p.avail)
		var top int64
		for i, span := range spans {
			n := 0
			for n < len(all) && all[n].Line == i {
				n++
			}
			on := all[:n]
			all = all[n:]
			if (n == 0) != (span.From == span.To) {
				t.Fatalf("%+v: %d pieces on line %d of %v", p, n, i, span)
			}
			end, tall := start(p.avail, span.W, p.align), held(p.line)
			for _, x := range on {
				tall = max(tall, x.Rect.H)
			}
			for _, x := range on {
				if x.Rect.X != end {
					t.Fatalf("%+v: %v on line %d is not at %d", p, x, i, end)
				}
				if x.Rect.Y+gaug.Up(x.Rect.H) != top+gaug.Up(tall) {
					t.Fatalf("%+v: %v on line %d is not on the baseline %d", p, x, i, top+gaug.Up(tall))
				}
				if x.Rect.Y < top || x.Rect.Y+x.Rect.H > top+tall {
					t.Fatalf("%+v: %v on line %d is beyond %d to %d", p, x, i, top, top+tall)
				}
				end += x.Rect.W
			}
			if n > 0 && end != on[0].Rect.X+span.W {
				t.Fatalf("%+v: line %d ends at %d, and is %d wide", p, i, end, span.W)
			}
			top += tall
		}
		if len(all) != 0 || high != top {
			t.Fatalf("%+v: %v are on no line; the height is %d, and the lines' %d", p, all, high, top)
		}
	})
}

// Each byte that is no blank is in just one piece, in order, and but for breaks
// nothing else is missing.
func TestEachByteThatShowsIsInOnePiece(t *testing.T) {
	drawn(14, 20000, func(p place) {
		var shown, want string
		for i := range p.runs {
			// The run of a piece is told by its node alone.
			p.runs[i].Node = 100 + i
			if p.runs[i].White == pre {
				want += strings.ReplaceAll(p.runs[i].Text, "\n", "")
			} else {
				want += strings.Join(strings.Fields(p.runs[i].Text), "")
			}
		}
		all, _ := p.in(letters())
		for _, x := range all {
			r := p.runs[x.Node-100]
			part := r.Text[x.From:x.To]
			if r.White != pre {
				part = strings.Join(strings.Fields(part), "")
			}
			shown += part
		}
		if shown != want {
			t.Fatalf("%+v: %v shows %q, not %q", p, all, shown, want)
		}
	})
}

// There is no piece without a glyph: each shows at least a byte.
func TestPiecesAreOfGlyphs(t *testing.T) {
	drawn(15, 20000, func(p place) {
		all, _ := p.in(letters())
		for i, x := range all {
			if x.From < 0 || x.From >= x.To || x.Rect.W < 3 {
				t.Fatalf("%+v: piece %d is %v", p, i, x)
			}
		}
	})
}

// Runs may be longer, and more, than those of a tree.
func TestLongRuns(t *testing.T) {
	const n = 70000
	for _, p := range []place{
		{[]api.Run{run(1, strings.Repeat("a", n), 8)}, 10, 8, right},
		{[]api.Run{run(1, strings.Repeat("a ", n), 8)}, 10, 8, right},
		{[]api.Run{run(1, strings.Repeat("a ", n), 8)}, math.MaxInt64, 8, center},
		{[]api.Run{asPre(run(1, strings.Repeat("\n", n), 8))}, 10, 8, right},
		{slices.Repeat([]api.Run{run(1, "a ", 8), run(2, "b", 9)}, n/2), 40, 8, center},
		{slices.Repeat([]api.Run{run(1, "a", 8), run(2, "", 9), run(3, "b", 7)}, n/2), 40, 8, center},
		{slices.Repeat([]api.Run{run(1, " ", 8)}, n), 40, 8, center},
	} {
		got, high := p.in(letters())
		want, wantHigh := p.told(letters())
		if !slices.Equal(got, want) || high != wantHigh {
			t.Errorf("%d runs, the first of %d bytes: not as told", len(p.runs), len(p.runs[0].Text))
		}
	}
}

// What is handed in stays as it is, its spare room too, and nothing of it is
// kept or handed out.
func TestRunsStayAsTheyAre(t *testing.T) {
	drawn(16, 2000, func(p place) {
		room := append(slices.Clone(p.runs), slices.Repeat([]api.Run{run(9, "nine", 9)}, 5)...)
		was := slices.Clone(room)
		p.runs = room[:len(p.runs)]
		first, high := p.in(letters())
		want := slices.Clone(first)
		spare := first[len(first):cap(first)]
		for i := range spare {
			spare[i] = api.Piece{Node: -7, Line: -7}
		}
		second, _ := p.in(letters())
		for i := range second {
			second[i] = api.Piece{Node: -7, Line: -7}
		}
		third, again := p.in(letters())
		if !slices.Equal(first, want) || !slices.Equal(third, want) || again != high {
			t.Fatalf("%+v: %v of height %d, and then %v of %d", p, want, high, third, again)
		}
		if !slices.Equal(room, was) {
			t.Fatalf("%v was turned to %v", was, room)
		}
	})
}

// 12.3

func TestNoCallPanics(t *testing.T) {
	defer func() {
		if r := recover(); r != nil {
			t.Error("a call panicked:", r)
		}
	}()
	l := extremes()
	r := rand.New(rand.NewSource(17))
	drawnOne := func() int64 { return l[r.Intn(len(l))] }
	for range 5000 {
		m := same(drawnOne())
		m.Adv[' '], m.Adv['a'] = drawnOne(), drawnOne()
		runs := make([]api.Run, r.Intn(6))
		for i := range runs {
			s := make([]byte, r.Intn(6))
			for k := range s {
				s[k] = " \na\xff"[r.Intn(4)]
			}
			runs[i] = api.Run{Node: int(drawnOne()), Text: string(s), White: int(drawnOne()), Line: drawnOne()}
		}
		isAsTold(t, m, place{runs, drawnOne(), drawnOne(), int(drawnOne())})
	}
	for _, avail := range l {
		for align := range 4 {
			if got, high := row.Place(same(drawnOne()), nil, avail, drawnOne(), align); len(got) != 0 || high != 0 {
				t.Errorf("none in %d: %v of height %d", avail, got, high)
			}
		}
	}
}
