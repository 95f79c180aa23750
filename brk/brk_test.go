package brk_test

import (
	"math"
	"math/big"
	"math/rand"
	"slices"
	"strings"
	"testing"

	"quoin/api"
	"quoin/brk"
	"quoin/whit"
)

// others is the digits that written reads as kinds that there are not.
const others = "0123"

// written is the glyphs of a text: letters lead 10, a blank and _, which holds,
// 4, | breaks; an A leads 10 back, and digits are of kinds that there are not.
func written(s string) []api.Glyph {
	var l []api.Glyph
	for i, b := range []byte(s) {
		g := api.Glyph{Kind: api.GInk, At: i, Adv: 10}
		switch {
		case b == ' ':
			g.Kind, g.Adv = api.GSpace, 4
		case b == '_':
			g.Kind, g.Adv = api.GHold, 4
		case b == '|':
			g.Kind, g.Adv = api.GBreak, 0
		case b == 'A':
			g.Adv = -10
		case strings.IndexByte(others, b) >= 0:
			g.Kind = []int{0, -1, 5, math.MaxInt}[b-'0']
		}
		l = append(l, g)
	}
	return l
}

// line is an api.Span, as tables tell it.
type line struct {
	From, To int
	W        int64
}

func spans(l []line) []api.Span {
	var out []api.Span
	for _, x := range l {
		out = append(out, api.Span(x))
	}
	return out
}

// isSpace and isBreak are what a glyph's kind says of where lines end.
func isSpace(g api.Glyph) bool { return g.Kind == api.GSpace }

func isBreak(g api.Glyph) bool { return g.Kind == api.GBreak }

func isEither(g api.Glyph) bool { return isSpace(g) || isBreak(g) }

// sum is how far glyphs lead.
func sum(g []api.Glyph) *big.Int {
	s := new(big.Int)
	for _, x := range g {
		s.Add(s, big.NewInt(x.Adv))
	}
	return s
}

// held is the number that is nearest to n.
func held(n *big.Int) int64 {
	switch {
	case n.IsInt64():
		return n.Int64()
	case n.Sign() < 0:
		return math.MinInt64
	}
	return math.MaxInt64
}

// mayEnd is where a line that begins at glyph i may end.
func mayEnd(g []api.Glyph, i int) []int {
	for at := i; at < len(g); at++ {
		if isBreak(g[at]) {
			return append(spacesWithin(g, i, at), at)
		}
	}
	return append(spacesWithin(g, i, len(g)), len(g))
}

func spacesWithin(g []api.Glyph, from, to int) []int {
	var l []int
	for at := from; at < to; at++ {
		if isSpace(g[at]) {
			l = append(l, at)
		}
	}
	return l
}

// told is the lines by the chapter's words, one sentence at a time.
func told(g []api.Glyph, avail int64) []api.Span {
	var lines []api.Span
	for i := 0; i < len(g); {
		l := mayEnd(g, i)
		to := l[0]
		for _, at := range l {
			if sum(g[i:at]).Cmp(big.NewInt(avail)) <= 0 {
				to = at
			}
		}
		lines = append(lines, api.Span{From: i, To: to, W: held(sum(g[i:to]))})
		i = to + 1
	}
	return lines
}

// toldWidest is the greatest sum of a row of glyphs that don't part rows.
func toldWidest(g []api.Glyph, parts func(api.Glyph) bool) int64 {
	var l []*big.Int
	for i := range g {
		if parts(g[i]) || i > 0 && !parts(g[i-1]) {
			continue
		}
		to := i
		for to < len(g) && !parts(g[to]) {
			to++
		}
		l = append(l, sum(g[i:to]))
	}
	if l == nil {
		return 0
	}
	return held(slices.MaxFunc(l, (*big.Int).Cmp))
}

// lists calls do with each list of n of the glyphs.
func lists(n int, of []api.Glyph, do func(g []api.Glyph)) {
	g := make([]api.Glyph, n)
	var from func(i int)
	from = func(i int) {
		if i == n {
			do(g)
			return
		}
		for _, x := range of {
			g[i] = x
			from(i + 1)
		}
	}
	from(0)
}

// random calls do with lists of at most n glyphs, each of one of the advs.
func random(r *rand.Rand, times, n int, advs []int64, do func(g []api.Glyph)) {
	for range times {
		g := make([]api.Glyph, r.Intn(n+1))
		for i := range g {
			kind := []int{api.GInk, api.GInk, api.GSpace, api.GHold, api.GSpace, api.GBreak}[r.Intn(6)]
			if kind == api.GBreak && r.Intn(3) > 0 {
				kind = api.GInk
			}
			g[i] = api.Glyph{Kind: kind, Run: r.Intn(3), At: r.Intn(100), Adv: advs[r.Intn(len(advs))]}
		}
		do(g)
	}
}

// extremes is Advs by which sums go beyond what an int64 can tell.
func extremes() []int64 {
	return []int64{
		0, 1, -1, 10, math.MaxInt64, math.MaxInt64 - 1, math.MinInt64, math.MinInt64 + 1,
		math.MaxInt64 / 2, math.MinInt64 / 2, 1 << 32, -1 << 32, 1<<62 + 1,
	}
}

// avails is some widths around each sum of a part of g, and the extreme ones.
func avails(g []api.Glyph) []int64 {
	l := []int64{0, 1, -1, math.MaxInt64, math.MaxInt64 - 1, math.MinInt64, math.MinInt64 + 1, 1 << 32}
	for i := range g {
		for to := range len(g) + 1 {
			if i < to {
				w := held(sum(g[i:to]))
				l = append(l, w, max(w, math.MinInt64+1)-1, min(w, math.MaxInt64-1)+1)
			}
		}
	}
	slices.Sort(l)
	return slices.Compact(l)
}

// 11.1

func TestLines(t *testing.T) {
	for _, x := range []struct {
		s     string
		avail int64
		want  []line
	}{
		// No glyphs.
		{"", 0, nil},
		{"", 100, nil},
		{"", -1, nil},
		// One word, be it wider.
		{"a", 10, []line{{0, 1, 10}}},
		{"a", 9, []line{{0, 1, 10}}},
		{"abc", 0, []line{{0, 3, 30}}},
		{"abc", -100, []line{{0, 3, 30}}},
		// A line that is as wide as there is, and a unit wider.
		{"ab cd", 44, []line{{0, 5, 44}}},
		{"ab cd", 43, []line{{0, 2, 20}, {3, 5, 20}}},
		{"ab cd e", 58, []line{{0, 7, 58}}},
		{"ab cd e", 57, []line{{0, 5, 44}, {6, 7, 10}}},
		{"ab cd e", 44, []line{{0, 5, 44}, {6, 7, 10}}},
		{"ab cd e", 43, []line{{0, 2, 20}, {3, 7, 34}}},
		{"ab cd e", 34, []line{{0, 2, 20}, {3, 7, 34}}},
		{"ab cd e", 33, []line{{0, 2, 20}, {3, 5, 20}, {6, 7, 10}}},
		{"ab cd e", 0, []line{{0, 2, 20}, {3, 5, 20}, {6, 7, 10}}},
		{"ab cd e", -1, []line{{0, 2, 20}, {3, 5, 20}, {6, 7, 10}}},
		// The blank that a line ends at takes no room of it.
		{"a b c", 24, []line{{0, 3, 24}, {4, 5, 10}}},
		{"a b c", 27, []line{{0, 3, 24}, {4, 5, 10}}},
		{"a b c", 10, []line{{0, 1, 10}, {2, 3, 10}, {4, 5, 10}}},
		{"a b c", 13, []line{{0, 1, 10}, {2, 3, 10}, {4, 5, 10}}},
		// One that is wider stands alone, and those beside it are full.
		{"a b cdefgh a b", 24, []line{{0, 3, 24}, {4, 10, 60}, {11, 14, 24}}},
		{"abcd a b", 24, []line{{0, 4, 40}, {5, 8, 24}}},
		// GHold is no end, nor is a kind that there is not.
		{"a_b", 10, []line{{0, 3, 24}}},
		{"a_b c", 10, []line{{0, 3, 24}, {4, 5, 10}}},
		{"_ _", 1, []line{{0, 1, 4}, {2, 3, 4}}},
		{"a0b1c2d3e", 5, []line{{0, 9, 90}}},
		{"0 1 2 3", 24, []line{{0, 3, 24}, {4, 7, 24}}},
		// A break ends a line, whatever there is of room.
		{"a|b", 100, []line{{0, 1, 10}, {2, 3, 10}}},
		{"a|b", 1, []line{{0, 1, 10}, {2, 3, 10}}},
		{"a b|c d", 100, []line{{0, 3, 24}, {4, 7, 24}}},
		{"a b|c d", 24, []line{{0, 3, 24}, {4, 7, 24}}},
		{"a b|c d", 23, []line{{0, 1, 10}, {2, 3, 10}, {4, 5, 10}, {6, 7, 10}}},
		{"a b|cde f", 24, []line{{0, 3, 24}, {4, 7, 30}, {8, 9, 10}}},
		{"abc d|e f", 24, []line{{0, 3, 30}, {4, 5, 10}, {6, 9, 24}}},
		// An empty line ahead of a break, and none behind the last one.
		{"|", 10, []line{{0, 0, 0}}},
		{"||", 10, []line{{0, 0, 0}, {1, 1, 0}}},
		{"||", -1, []line{{0, 0, 0}, {1, 1, 0}}},
		{"|a", 10, []line{{0, 0, 0}, {1, 2, 10}}},
		{"a|", 10, []line{{0, 1, 10}}},
		{"a||", 10, []line{{0, 1, 10}, {2, 2, 0}}},
		{"a||b", 10, []line{{0, 1, 10}, {2, 2, 0}, {3, 4, 10}}},
		// A blank where a line begins: it may end there.
		{" a", 3, []line{{0, 0, 0}, {1, 2, 10}}},
		{" a", 13, []line{{0, 0, 0}, {1, 2, 10}}},
		{" a", 14, []line{{0, 2, 14}}},
		{" a", -1, []line{{0, 0, 0}, {1, 2, 10}}},
		{" ", 4, []line{{0, 1, 4}}},
		{" ", 3, []line{{0, 0, 0}}},
		{"a  b", 13, []line{{0, 1, 10}, {2, 2, 0}, {3, 4, 10}}},
		{"a  b", 14, []line{{0, 2, 14}, {3, 4, 10}}},
		{"a  b", 28, []line{{0, 4, 28}}},
		{"a   b", 10, []line{{0, 1, 10}, {2, 3, 4}, {4, 5, 10}}},
		// A blank at the end: a line may end ahead of it, and behind it.
		{"a ", 14, []line{{0, 2, 14}}},
		{"a ", 13, []line{{0, 1, 10}}},
		{"a ", 0, []line{{0, 1, 10}}},
		{"a  ", 14, []line{{0, 2, 14}}},
		{"a  ", 13, []line{{0, 1, 10}, {2, 3, 4}}},
		{"a  ", 3, []line{{0, 1, 10}, {2, 2, 0}}},
		{"a  ", 18, []line{{0, 3, 18}}},
		// A blank ahead of a break: what begins at the break is a line.
		{"a |b", 14, []line{{0, 2, 14}, {3, 4, 10}}},
		{"a |b", 13, []line{{0, 1, 10}, {2, 2, 0}, {3, 4, 10}}},
		{"a |", 13, []line{{0, 1, 10}, {2, 2, 0}}},
		{"a| b", 13, []line{{0, 1, 10}, {2, 2, 0}, {3, 4, 10}}},
		// Of the ends the last one with which there is room, if it leads back.
		{"abc A", 24, []line{{0, 5, 24}}},
		{"abc A", 23, []line{{0, 3, 30}, {4, 5, -10}}},
		{"a bcd AA e", 14, []line{{0, 1, 10}, {2, 8, 14}, {9, 10, 10}}},
		{"a bcdAAA e", 24, []line{{0, 8, 14}, {9, 10, 10}}},
		{"ab cAA|d", 14, []line{{0, 6, 14}, {7, 8, 10}}},
		{"abc|A", 5, []line{{0, 3, 30}, {4, 5, -10}}},
		{"AA", -21, []line{{0, 2, -20}}},
	} {
		if got, want := brk.Lines(written(x.s), x.avail), spans(x.want); !slices.Equal(got, want) {
			t.Errorf("%q in %d: %v, not %v", x.s, x.avail, got, want)
		}
	}
}

// All lists of few glyphs, in each width that they could have.
func TestLinesOfFewGlyphs(t *testing.T) {
	few := []api.Glyph{
		{Kind: api.GInk, Adv: 3}, {Kind: api.GInk, Adv: -2}, {Kind: api.GSpace, Adv: 1}, {Kind: api.GSpace, Adv: -1},
		{Kind: api.GHold, Adv: 1}, {Kind: api.GBreak}, {Kind: 0, Adv: 1},
	}
	for n := range 6 {
		lists(n, few, func(g []api.Glyph) {
			for avail := int64(-5); avail <= 10; avail++ {
				if got, want := brk.Lines(g, avail), told(g, avail); !slices.Equal(got, want) {
					t.Fatalf("%v in %d: %v, not %v", g, avail, got, want)
				}
			}
		})
	}
}

func TestLinesOfManyGlyphs(t *testing.T) {
	r := rand.New(rand.NewSource(11))
	is := func(g []api.Glyph) {
		t.Helper()
		for range 3 {
			avail := r.Int63n(120) - 10
			if got, want := brk.Lines(g, avail), told(g, avail); !slices.Equal(got, want) {
				t.Fatalf("%v in %d: %v, not %v", g, avail, got, want)
			}
		}
	}
	random(r, 3000, 60, []int64{0, 1, 2, 3, 5, 8, 13}, is)
	random(r, 3000, 60, []int64{0, 1, 2, 8, -3, -8, 13}, is)
	random(r, 30, 400, []int64{0, 1, 2, 3, 5, 8, 13}, is)
}

// Sums that an int64 can't tell are no narrower for it: such a line is held to
// what one can.
func TestLinesOfGreatAdvs(t *testing.T) {
	const most, least = math.MaxInt64, math.MinInt64
	word, space, hold := api.Glyph{Kind: api.GInk, Adv: most}, api.Glyph{Kind: api.GSpace, Adv: 1}, api.Glyph{Kind: api.GHold, Adv: least}
	for _, x := range []struct {
		g     []api.Glyph
		avail int64
		want  []line
	}{
		{[]api.Glyph{word, space, word}, most, []line{{0, 1, most}, {2, 3, most}}},
		{[]api.Glyph{word, space, word}, -1, []line{{0, 1, most}, {2, 3, most}}},
		{[]api.Glyph{word, word}, 10, []line{{0, 2, most}}},
		{[]api.Glyph{word, space, hold}, 0, []line{{0, 3, 0}}},
		{[]api.Glyph{word, space, hold}, -1, []line{{0, 1, most}, {2, 3, least}}},
		{[]api.Glyph{hold, space, hold}, 0, []line{{0, 3, least}}},
		{[]api.Glyph{hold, hold, word, word, space}, -2, []line{{0, 4, -2}}},
		{[]api.Glyph{word, word, word, space, word}, most, []line{{0, 3, most}, {4, 5, most}}},
		{[]api.Glyph{space, word}, most, []line{{0, 0, 0}, {1, 2, most}}},
	} {
		if got, want := brk.Lines(x.g, x.avail), spans(x.want); !slices.Equal(got, want) {
			t.Errorf("%v in %d: %v, not %v", x.g, x.avail, got, want)
		}
	}
	random(rand.New(rand.NewSource(12)), 3000, 9, extremes(), func(g []api.Glyph) {
		for _, avail := range avails(g) {
			if got, want := brk.Lines(g, avail), told(g, avail); !slices.Equal(got, want) {
				t.Fatalf("%v in %d: %v, not %v", g, avail, got, want)
			}
		}
	})
}

// A break leads nothing in any line, whatever it tells.
func TestAdvOfBreakDoesNotCount(t *testing.T) {
	for _, s := range []string{"|", "a|b", "a b|c d", "a |b|", "||a b c||"} {
		for _, adv := range []int64{1, -1, 1000, math.MaxInt64, math.MinInt64} {
			g := written(s)
			for i := range g {
				if isBreak(g[i]) {
					g[i].Adv = adv
				}
			}
			for avail := int64(-5); avail < 50; avail++ {
				if got, want := brk.Lines(g, avail), brk.Lines(written(s), avail); !slices.Equal(got, want) {
					t.Errorf("%q in %d, where a break leads %d: %v, not %v", s, avail, adv, got, want)
				}
			}
			if got, want := brk.Least(g), brk.Least(written(s)); got != want {
				t.Errorf("Least of %q, where a break leads %d: %d, not %d", s, adv, got, want)
			}
			if got, want := brk.Most(g), brk.Most(written(s)); got != want {
				t.Errorf("Most of %q, where a break leads %d: %d, not %d", s, adv, got, want)
			}
		}
	}
}

// Of a glyph its Kind and its Adv count, and nothing else.
func TestRunAndAtDoNotCount(t *testing.T) {
	const s = "ab c_d |e| f gh|"
	for _, n := range []int{0, -1, 7, 1 << 32, math.MaxInt, math.MinInt} {
		g := written(s)
		for i := range g {
			g[i].Run, g[i].At = n-i, n*i
		}
		for avail := int64(-5); avail < 80; avail++ {
			if got, want := brk.Lines(g, avail), brk.Lines(written(s), avail); !slices.Equal(got, want) {
				t.Errorf("in %d with %d: %v, not %v", avail, n, got, want)
			}
		}
		if brk.Least(g) != brk.Least(written(s)) || brk.Most(g) != brk.Most(written(s)) {
			t.Errorf("with %d: Least %d, Most %d", n, brk.Least(g), brk.Most(g))
		}
	}
}

// Kinds that there are not are no ends, those too that a narrower number would
// take for one.
func TestOtherKinds(t *testing.T) {
	for _, kind := range []int{
		0, -1, -2, -4, 5, 6, 1 << 32, 1<<32 + 2, 1<<32 + 4, -1<<32 + 2, 256 + 2, 256 + 4, 1<<16 + 2, 1<<16 + 4,
		math.MaxInt, math.MinInt, math.MinInt + 2, math.MinInt + 4,
	} {
		g := written("ab c")
		g[1].Kind = kind
		if got, want := brk.Lines(g, 15), spans([]line{{0, 2, 20}, {3, 4, 10}}); !slices.Equal(got, want) {
			t.Errorf("with kind %d: %v, not %v", kind, got, want)
		}
		if least, most := brk.Least(g), brk.Most(g); least != 20 || most != 34 {
			t.Errorf("with kind %d: Least %d, Most %d", kind, least, most)
		}
	}
}

// 11.2

func TestLeastAndMost(t *testing.T) {
	for _, x := range []struct {
		s           string
		least, most int64
	}{
		{"", 0, 0},
		{"a", 10, 10},
		{"abc", 30, 30},
		{"ab c", 20, 34},
		{"a bc", 20, 34},
		{"a bcd ef", 30, 68},
		{"a b c d", 10, 52},
		// GHold parts nothing, nor does a kind that there is not.
		{"a_b", 24, 24},
		{"a bcd_e f", 44, 72},
		{"_", 4, 4},
		{"a0 1b3", 30, 54},
		// A break parts both.
		{"a|b", 10, 10},
		{"a bc|def g", 30, 44},
		{"def g|a bc", 30, 44},
		{"a b c|def", 30, 38},
		{"def|a b c", 30, 38},
		{"a|b c|d", 10, 24},
		{"|a|", 10, 10},
		{"a b|", 10, 24},
		{"||a b||", 10, 24},
		// No row.
		{"|", 0, 0},
		{"|||", 0, 0},
		{" ", 0, 4},
		{"  ", 0, 8},
		{" | ", 0, 4},
		{" a", 10, 14},
		{"a ", 10, 14},
		// A row that leads back is less than none.
		{"A", -10, -10},
		{"AA|A", -10, -10},
		{"A AA", -10, -26},
		{"abA", 10, 10},
		{"Aab", 10, 10},
		{"aA", 0, 0},
		{"aA|A", 0, 0},
	} {
		if least, most := brk.Least(written(x.s)), brk.Most(written(x.s)); least != x.least || most != x.most {
			t.Errorf("%q: %d and %d, not %d and %d", x.s, least, most, x.least, x.most)
		}
	}
}

func TestLeastAndMostAreAsTold(t *testing.T) {
	is := func(g []api.Glyph) {
		t.Helper()
		if got, want := brk.Least(g), toldWidest(g, isEither); got != want {
			t.Fatalf("Least of %v: %d, not %d", g, got, want)
		}
		if got, want := brk.Most(g), toldWidest(g, isBreak); got != want {
			t.Fatalf("Most of %v: %d, not %d", g, got, want)
		}
	}
	few := []api.Glyph{
		{Kind: api.GInk, Adv: 3}, {Kind: api.GInk, Adv: -2}, {Kind: api.GSpace, Adv: 1}, {Kind: api.GSpace, Adv: -5},
		{Kind: api.GHold, Adv: 2}, {Kind: api.GBreak}, {Kind: -1, Adv: 1},
	}
	for n := range 7 {
		lists(n, few, is)
	}
	r := rand.New(rand.NewSource(13))
	random(r, 3000, 60, []int64{0, 1, 2, 3, 5, 8, 13}, is)
	random(r, 3000, 60, []int64{0, 1, -2, 3, 5, -8, 13}, is)
	random(r, 3000, 12, extremes(), is)
}

// The Least is how wide the widest line is where there is no room, the Most
// where there is all.
func TestLeastAndMostAreOfLines(t *testing.T) {
	random(rand.New(rand.NewSource(14)), 3000, 60, []int64{0, 1, 2, 3, 5, 8, 13}, func(g []api.Glyph) {
		if got, want := brk.Least(g), widest(brk.Lines(g, -1)); got != want {
			t.Fatalf("Least of %v: %d, not %d", g, got, want)
		}
		if got, want := brk.Most(g), widest(brk.Lines(g, math.MaxInt64)); got != want {
			t.Fatalf("Most of %v: %d, not %d", g, got, want)
		}
	})
}

func widest(lines []api.Span) int64 {
	var w int64
	for _, l := range lines {
		w = max(w, l.W)
	}
	return w
}

// 11.3

// A line has no room for what stands up to the next place where it could have
// ended, and is within avail if one of its words is.
func TestLinesAreFull(t *testing.T) {
	random(rand.New(rand.NewSource(15)), 5000, 60, []int64{0, 1, 2, 3, 5, 8, 13}, func(g []api.Glyph) {
		for _, avail := range []int64{-1, 0, 1, 7, 20, 50, 1000, math.MaxInt64} {
			for _, l := range brk.Lines(g, avail) {
				for _, to := range mayEnd(g, l.From) {
					w := held(sum(g[l.From:to]))
					if to > l.To && w <= avail {
						t.Fatalf("%v in %d: line %v could have ended at %d", g, avail, l, to)
					}
					if to < l.To && l.W > avail {
						t.Fatalf("%v in %d: line %v could have ended at %d, with room", g, avail, l, to)
					}
				}
			}
		}
	})
}

// Each glyph is in one line, in order, but those that lines end at.
func TestEachGlyphIsInOneLine(t *testing.T) {
	random(rand.New(rand.NewSource(16)), 5000, 60, []int64{0, 1, 2, 8, -3, 13}, func(g []api.Glyph) {
		for _, avail := range []int64{-9, 0, 7, 20, 1000} {
			next := 0
			for _, l := range brk.Lines(g, avail) {
				if l.From != next || l.To < l.From || l.To > len(g) {
					t.Fatalf("%v in %d: line %v, where one begins at %d", g, avail, l, next)
				}
				if l.To < len(g) && !isEither(g[l.To]) {
					t.Fatalf("%v in %d: line %v ends at no end", g, avail, l)
				}
				if slices.ContainsFunc(g[l.From:l.To], isBreak) {
					t.Fatalf("%v in %d: line %v goes beyond a break", g, avail, l)
				}
				if l.W != held(sum(g[l.From:l.To])) {
					t.Fatalf("%v in %d: line %v leads %d", g, avail, l, sum(g[l.From:l.To]))
				}
				next = l.To + 1
			}
			if next < len(g) {
				t.Fatalf("%v in %d: no line begins at %d", g, avail, next)
			}
		}
	})
}

// The glyphs of texts, as whit answers them.
func TestLinesOfTexts(t *testing.T) {
	var m api.Metrics
	for b := range m.Adv {
		m.Adv[b] = 10
	}
	m.Adv[' '] = 4
	runs := []api.Run{{Text: " one two "}, {Text: "not  here", White: 1}, {Text: "\n\na b\n", White: 2}, {Text: "\tend "}}
	g := whit.Glyphs(m, runs)
	for _, x := range []struct {
		avail int64
		want  []line
	}{
		{0, []line{{0, 3, 30}, {4, 7, 30}, {8, 16, 74}, {17, 17, 0}, {18, 21, 24}, {22, 25, 30}}},
		{63, []line{{0, 3, 30}, {4, 7, 30}, {8, 16, 74}, {17, 17, 0}, {18, 21, 24}, {22, 25, 30}}},
		{64, []line{{0, 7, 64}, {8, 16, 74}, {17, 17, 0}, {18, 21, 24}, {22, 25, 30}}},
		{142, []line{{0, 16, 142}, {17, 17, 0}, {18, 21, 24}, {22, 25, 30}}},
	} {
		if got, want := brk.Lines(g, x.avail), spans(x.want); !slices.Equal(got, want) {
			t.Errorf("%v in %d: %v, not %v", g, x.avail, got, want)
		}
	}
	if least, most := brk.Least(g), brk.Most(g); least != 74 || most != 142 {
		t.Errorf("%d and %d", least, most)
	}
}

// Lines are found though there are very many glyphs, and each place where one
// may end is looked at, as glyphs lead back.
func TestLinesOfVeryManyGlyphs(t *testing.T) {
	const n = 400000
	back := slices.Repeat(written("a A "), n/4)
	back[n-2].Adv = -10 - 2*n
	for _, x := range []struct {
		g     []api.Glyph
		avail int64
		count int
		last  line
	}{
		{slices.Repeat(written("a "), n/2), 10, n / 2, line{n - 2, n - 1, 10}},
		{slices.Repeat(written("a "), n/2), math.MaxInt64, 1, line{0, n, 7 * n}},
		{slices.Repeat(written("a "), n/2), 24, n / 4, line{n - 4, n - 1, 24}},
		{slices.Repeat(written("a|"), n/2), 10, n / 2, line{n - 2, n - 1, 10}},
		{slices.Repeat(written("|"), n), 10, n, line{n - 1, n - 1, 0}},
		{slices.Repeat(written("a"), n), 10, 1, line{0, n, 10 * n}},
		{slices.Repeat(written("a A "), n/4), -20, n / 2, line{n - 2, n - 1, -10}},
		{back, 0, 1, line{0, n, 0}},
	} {
		got := brk.Lines(x.g, x.avail)
		if len(got) != x.count || got[len(got)-1] != api.Span(x.last) {
			t.Errorf("%d glyphs in %d: %d lines, not %d, the last of them %v, not %v", n, x.avail, len(got), x.count, got[len(got)-1], x.last)
		}
		brk.Least(x.g)
		brk.Most(x.g)
	}
}

// What is handed in stays as it is, its spare room too, and nothing of it is
// kept or handed out.
func TestGlyphsStayAsTheyAre(t *testing.T) {
	for _, s := range []string{"", "a", "|", "a b", "ab cd|e f ", " a A |b_0"} {
		room := append(written(s), slices.Repeat([]api.Glyph{{Kind: 9, Run: 9, At: 9, Adv: 9}}, 5)...)
		was := slices.Clone(room)
		g := room[:len(s)]
		for avail := int64(-5); avail < 60; avail += 5 {
			first := brk.Lines(g, avail)
			want := slices.Clone(first)
			spare := first[len(first):cap(first)]
			for i := range spare {
				spare[i] = api.Span{From: -7, To: -7, W: -7}
			}
			second := brk.Lines(g, avail)
			for i := range second {
				second[i] = api.Span{From: -7, To: -7, W: -7}
			}
			brk.Least(g)
			brk.Most(g)
			if !slices.Equal(first, want) || !slices.Equal(brk.Lines(g, avail), want) {
				t.Errorf("%q in %d: %v, not %v", s, avail, first, want)
			}
			if !slices.Equal(room, was) {
				t.Fatalf("%q in %d: what is handed in was turned to %v", s, avail, room)
			}
		}
	}
}

// 11.4

func TestNoCallPanics(t *testing.T) {
	r := rand.New(rand.NewSource(17))
	kinds := []int{-1, 0, 1, 2, 3, 4, 5, math.MaxInt, math.MinInt}
	for range 20000 {
		g := make([]api.Glyph, r.Intn(12))
		for i := range g {
			l := extremes()
			g[i] = api.Glyph{Kind: kinds[r.Intn(len(kinds))], Run: int(l[r.Intn(len(l))]), At: int(l[r.Intn(len(l))]), Adv: l[r.Intn(len(l))]}
		}
		for _, avail := range extremes() {
			brk.Lines(g, avail)
		}
		brk.Least(g)
		brk.Most(g)
	}
	for _, avail := range extremes() {
		if got := brk.Lines(nil, avail); len(got) != 0 {
			t.Errorf("none in %d: %v", avail, got)
		}
	}
	if brk.Least(nil) != 0 || brk.Most(nil) != 0 || brk.Least([]api.Glyph{}) != 0 || brk.Most([]api.Glyph{}) != 0 {
		t.Error("none has a width")
	}
}
