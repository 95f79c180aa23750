package size_test

import (
	"math"
	"math/big"
	"math/rand"
	"reflect"
	"slices"
	"strings"
	"testing"

	"quoin/anon"
	"quoin/api"
	"quoin/brk"
	"quoin/decl"
	"quoin/edit"
	"quoin/size"
	"quoin/tree"
	"quoin/unit"
	"quoin/whit"
)

// The sides, by the places that a style has them at.
const (
	top    = 0
	right  = 1
	bottom = 2
	left   = 3
)

// The white-spaces that are not as normal is, by the numbers that a Run has.
const (
	nowrap = 1
	pre    = 2
)

// letters is metrics by which a letter leads 10, a blank 4 and an i 3.
func letters() api.Metrics {
	m := same(10)
	m.Adv[' '], m.Adv['i'] = 4, 3
	return m
}

func same(adv int64) api.Metrics {
	var m api.Metrics
	for b := range m.Adv {
		m.Adv[b] = adv
	}
	return m
}

// styled is the style of an element that tells s.
func styled(t testing.TB, s string) api.Style {
	t.Helper()
	l, at, e := decl.Parse(s)
	if e != api.OK {
		t.Fatalf("Parse(%q): %d %v", s, at, e)
	}
	return decl.Style(decl.Initial(), l)
}

func run(s string) api.Run { return api.Run{Text: s} }

func fix(n int64) api.Len { return api.Len{Kind: api.LFix, N: n} }

func pct(n int64) api.Len { return api.Len{Kind: api.LPct, N: n} }

// lines is a box of lines with the initial style.
func lines(texts ...string) api.Box {
	b := api.Box{Kind: api.BLines, Style: decl.Initial()}
	for _, s := range texts {
		b.Runs = append(b.Runs, run(s))
	}
	return b
}

func block(kids ...api.Box) api.Box {
	return api.Box{Kind: api.BBlock, Style: decl.Initial(), Kids: kids}
}

func flex(kids ...api.Box) api.Box {
	return api.Box{Kind: api.BFlex, Style: decl.Initial(), Kids: kids}
}

// with is b with the style of an element that tells s.
func with(t testing.TB, b api.Box, s string) api.Box {
	t.Helper()
	b.Style = styled(t, s)
	return b
}

// extremes is lengths at bounds, and such that a narrower number, or a sum,
// would take for another one.
func extremes() []int64 {
	return []int64{
		0, 1, -1, 2, 3, 10, 5000, -5000, 10000, 10001, api.Far - 1, api.Far, api.Far + 1, -api.Far, -api.Far - 1, 1 << 32,
		1<<32 + 5, -1 << 32, 5 - 1<<32, math.MaxInt64, math.MaxInt64 - 1, math.MinInt64, math.MinInt64 + 1,
		math.MaxInt64 / 2, math.MinInt64 / 2,
	}
}

// kinds is such as there are, of lengths, boxes and words, and others.
func kinds() []int {
	return []int{0, 1, 2, 3, 4, 5, -1, -2, 255, 256, 257, 258, 1<<32 + 1, 1<<32 + 2, math.MaxInt, math.MinInt}
}

// 13.1, one sentence at a time.

func toldClamp(n, least, most int64) int64 {
	if most >= 0 && n > most {
		n = most
	}
	if n < least {
		n = least
	}
	if n < 0 {
		n = 0
	}
	return n
}

func toldMin(l api.Len, base int64) int64 {
	var n int64
	if l.Kind == api.LFix {
		n = l.N
	}
	if l.Kind == api.LPct {
		n = unit.Pct(base, l.N)
		if base < 0 {
			n = 0
		}
	}
	if n < 0 {
		n = 0
	}
	return n
}

func toldMax(l api.Len, base int64) int64 {
	if l.Kind == api.LAuto {
		return -1
	}
	if l.Kind == api.LPct && base < 0 {
		return -1
	}
	return toldMin(l, base)
}

// 13.2, one sentence at a time.

func toldContent(m api.Metrics, b api.Box, least bool) int64 {
	switch b.Kind {
	case api.BLines:
		if least {
			return brk.Least(whit.Glyphs(m, b.Runs))
		}
		return brk.Most(whit.Glyphs(m, b.Runs))
	case api.BBlock:
		return toldGreatest(toldOuters(m, b, least))
	case api.BFlex:
		outers := toldOuters(m, b, least)
		isColumn := b.Style.Dir == 2 || b.Style.Dir == 3
		switch {
		case isColumn:
			return toldGreatest(outers)
		case !least:
			return toldSum(outers)
		case b.Style.Wrap == 0:
			return toldSum(outers)
		}
		return toldGreatest(outers)
	}
	return 0
}

func toldOuters(m api.Metrics, b api.Box, least bool) []int64 {
	var l []int64
	for _, kid := range b.Kids {
		l = append(l, toldOuter(m, kid, least))
	}
	return l
}

func toldGreatest(l []int64) int64 {
	return slices.Max(append([]int64{0}, l...))
}

func toldSum(l []int64) int64 {
	s := new(big.Int)
	for _, n := range l {
		s.Add(s, big.NewInt(n))
	}
	switch {
	case s.IsInt64():
		return s.Int64()
	case s.Sign() < 0:
		return math.MinInt64
	}
	return math.MaxInt64
}

func toldOuter(m api.Metrics, b api.Box, least bool) int64 {
	s := b.Style
	w := toldContent(m, b, least)
	if s.Width.Kind == api.LFix {
		w = s.Width.N
	}
	l := []int64{
		toldClamp(w, toldMin(s.MinW, -1), toldMax(s.MaxW, -1)),
		s.Pad[left], s.Pad[right], s.Border[left], s.Border[right],
	}
	for _, margin := range []api.Len{s.Margin[left], s.Margin[right]} {
		if margin.Kind == api.LFix {
			l = append(l, margin.N)
		}
	}
	return toldSum(l)
}

// isAsTold holds all answers of b against the chapter's words.
func isAsTold(t *testing.T, m api.Metrics, b api.Box) {
	t.Helper()
	got := [4]int64{size.Least(m, b), size.Most(m, b), size.Outer(m, b, true), size.Outer(m, b, false)}
	want := [4]int64{toldContent(m, b, true), toldContent(m, b, false), toldOuter(m, b, true), toldOuter(m, b, false)}
	if got != want {
		t.Fatalf("%+v: %d, not %d", b, got, want)
	}
}

// draw draws boxes.
type draw struct {
	*rand.Rand
	// lengths and kinds is what the boxes are made of.
	lengths []int64
	kinds   []int
}

func (r draw) length() int64 { return r.lengths[r.Intn(len(r.lengths))] }

func (r draw) kind() int { return r.kinds[r.Intn(len(r.kinds))] }

func (r draw) len() api.Len { return api.Len{Kind: r.kind(), N: r.length()} }

// style draws one of which each other field is as Initial's.
func (r draw) style() api.Style {
	s := decl.Initial()
	for _, l := range []*api.Len{
		&s.Width, &s.Height, &s.MinW, &s.MinH, &s.MaxW, &s.MaxH, &s.Basis,
		&s.Margin[top], &s.Margin[right], &s.Margin[bottom], &s.Margin[left],
	} {
		if r.Intn(4) == 0 {
			*l = r.len()
		}
	}
	for side := range 4 {
		if r.Intn(3) == 0 {
			s.Pad[side] = r.length()
		}
		if r.Intn(3) == 0 {
			s.Border[side] = r.length()
		}
	}
	for _, word := range []*int{&s.Display, &s.Dir, &s.Wrap, &s.Justify, &s.Items, &s.Self, &s.Align, &s.White, &s.Over} {
		if r.Intn(2) == 0 {
			*word = r.kind()
		}
	}
	s.Grow, s.Shrink, s.Order = r.kind(), r.kind(), r.kind()
	return s
}

// box draws one with boxes in it, up to so deep.
func (r draw) box(deep int) api.Box {
	b := api.Box{Kind: []int{api.BLines, api.BBlock, api.BFlex, api.BFlex, r.kind()}[r.Intn(5)], Node: r.kind(), Style: r.style()}
	if b.Kind != api.BLines || r.Intn(4) == 0 {
		for deep > 0 && r.Intn(4) > 0 && len(b.Kids) < 5 {
			b.Kids = append(b.Kids, r.box(deep-1))
		}
	}
	if b.Kind == api.BLines || r.Intn(4) == 0 {
		for r.Intn(3) > 0 {
			b.Runs = append(b.Runs, r.run())
		}
	}
	return b
}

func (r draw) run() api.Run {
	s := make([]byte, r.Intn(9))
	for i := range s {
		s[i] = "abi   \n\t"[r.Intn(8)]
	}
	return api.Run{Node: r.kind(), Text: string(s), White: r.Intn(4) - 1, Line: r.length()}
}

// usual draws boxes as trees have them, but for some words that there are not.
func usual(seed int64) draw {
	return draw{rand.New(rand.NewSource(seed)), []int64{0, 1, 5, 13, 40, 64, -3, -20, -64}, []int{0, 1, 2, 3}}
}

// wild draws boxes with any numbers.
func wild(seed int64) draw {
	return draw{rand.New(rand.NewSource(seed)), extremes(), kinds()}
}

// 13.1

func TestClamp(t *testing.T) {
	for _, x := range []struct{ n, least, most, want int64 }{
		{5, 0, -1, 5}, {5, 5, 5, 5}, {5, 3, 9, 5}, {5, 6, 9, 6}, {5, 3, 4, 4}, {5, 3, 3, 3},
		// The least holds ahead of the most.
		{5, 7, 3, 7}, {1, 7, 3, 7}, {9, 7, 3, 7},
		// A most of 0 is one, one below is none.
		{5, 0, 0, 0}, {5, 0, -2, 5}, {5, 0, math.MinInt64, 5}, {5, 1, 0, 1},
		// No answer is below 0.
		{-5, 0, -1, 0}, {-5, -9, -1, 0}, {-5, -9, 3, 0}, {5, -9, 3, 3}, {-1, -1, -1, 0}, {-5, -9, 0, 0},
		{-5, 1, 0, 1},
		{math.MaxInt64, 0, -1, math.MaxInt64}, {math.MinInt64, 0, -1, 0}, {0, math.MaxInt64, 0, math.MaxInt64},
	} {
		if got := size.Clamp(x.n, x.least, x.most); got != x.want {
			t.Errorf("Clamp(%d, %d, %d): %d, not %d", x.n, x.least, x.most, got, x.want)
		}
	}
	numbers := extremes()
	for n := int64(-4); n < 7; n++ {
		numbers = append(numbers, n)
	}
	for _, n := range numbers {
		for _, least := range numbers {
			for _, most := range numbers {
				if got, want := size.Clamp(n, least, most), toldClamp(n, least, most); got != want {
					t.Errorf("Clamp(%d, %d, %d): %d, not %d", n, least, most, got, want)
				}
			}
		}
	}
}

func TestMinAndMax(t *testing.T) {
	for _, x := range []struct {
		l        api.Len
		base     int64
		min, max int64
	}{
		{fix(7), 100, 7, 7}, {fix(7), -1, 7, 7}, {fix(0), 100, 0, 0}, {fix(-7), 100, 0, 0}, {fix(-7), -1, 0, 0},
		// A length that is told in pixels is not held.
		{fix(api.Far + 1), 5, api.Far + 1, api.Far + 1}, {fix(math.MaxInt64), -1, math.MaxInt64, math.MaxInt64},
		{fix(math.MinInt64), 5, 0, 0},
		{pct(5000), 100, 50, 50}, {pct(5000), 0, 0, 0}, {pct(5000), 1, 1, 1}, {pct(4999), 1, 0, 0}, {pct(20000), 7, 14, 14},
		{pct(0), 100, 0, 0}, {pct(-5000), 100, 0, 0}, {pct(-5000), 0, 0, 0},
		// Without a base there is no percentage.
		{pct(5000), -1, 0, -1}, {pct(0), -1, 0, -1}, {pct(-5000), -1, 0, -1}, {pct(-5000), -100, 0, -1},
		{pct(5000), math.MinInt64, 0, -1},
		{pct(10000), api.Far + 9, api.Far, api.Far}, {pct(20000), api.Far, api.Far, api.Far}, {pct(10000), math.MaxInt64, api.Far, api.Far},
		{api.Len{}, 100, 0, -1}, {api.Len{}, -1, 0, -1}, {api.Len{N: 50}, 100, 0, -1}, {api.Len{N: -50}, 100, 0, -1},
		// A kind that there is not is neither auto nor told: what is left is 0.
		{api.Len{Kind: 3, N: 5000}, 100, 0, 0}, {api.Len{Kind: -1, N: 5000}, -1, 0, 0}, {api.Len{Kind: 257, N: 50}, 100, 0, 0},
	} {
		bounds(t, x.l, x.base, x.min, x.max)
	}
	for _, kind := range kinds() {
		for _, n := range extremes() {
			for _, base := range extremes() {
				l := api.Len{Kind: kind, N: n}
				bounds(t, l, base, toldMin(l, base), toldMax(l, base))
			}
		}
	}
}

// bounds holds what each of a style's four bounds says, where it is told as l
// and all the others say something else.
func bounds(t *testing.T, l api.Len, base, least, most int64) {
	t.Helper()
	other := fix(11)
	s := api.Style{
		Width: other, Height: other, MinW: other, MinH: other, MaxW: other, MaxH: other, Basis: other,
		Margin: [4]api.Len{other, other, other, other},
	}
	minW, minH, maxW, maxH := s, s, s, s
	minW.MinW, minH.MinH, maxW.MaxW, maxH.MaxH = l, l, l, l
	got := [4]int64{size.Min(minW, false, base), size.Min(minH, true, base), size.Max(maxW, false, base), size.Max(maxH, true, base)}
	if want := [4]int64{least, least, most, most}; got != want {
		t.Errorf("%v of %d: %d, not %d", l, base, got, want)
	}
}

// What an element tells of its bounds, and what it doesn't.
func TestBoundsOfElements(t *testing.T) {
	for _, x := range []struct {
		told                   string
		base                   int64
		minW, minH, maxW, maxH int64
	}{
		{"", 100, 0, 0, -1, -1},
		{"min-width: 1px; max-height: 30%", 100, 64, 0, -1, 30},
		{"min-width: 1px; max-height: 30%", -1, 64, 0, -1, -1},
		{"min-height: 150%; max-width: 0.5px", 10, 0, 15, 32, -1},
		{"min-height: 150%; max-width: 0", -1, 0, 0, 0, -1},
		{"max-width: 5px; max-width: none; max-height: none", 10, 0, 0, -1, -1},
	} {
		s := styled(t, x.told)
		got := [4]int64{size.Min(s, false, x.base), size.Min(s, true, x.base), size.Max(s, false, x.base), size.Max(s, true, x.base)}
		if want := [4]int64{x.minW, x.minH, x.maxW, x.maxH}; got != want {
			t.Errorf("%q of %d: %d, not %d", x.told, x.base, got, want)
		}
	}
}

// 13.2

func TestContents(t *testing.T) {
	asPre := func(b api.Box) api.Box {
		for i := range b.Runs {
			b.Runs[i].White = pre
		}
		return b
	}
	asNowrap := func(b api.Box) api.Box {
		for i := range b.Runs {
			b.Runs[i].White = nowrap
		}
		return b
	}
	ab, cde := lines("a b"), lines("cd e")
	back := with(t, lines("a"), "margin-left: -1px")
	for _, x := range []struct {
		name        string
		b           api.Box
		least, most int64
	}{
		{"no runs", lines(), 0, 0},
		{"an empty run", lines(""), 0, 0},
		{"blanks", lines(" \n\t"), 0, 0},
		{"a word", lines("abc"), 30, 30},
		{"two words", lines("abc de"), 30, 54},
		{"blanks at the ends, and two in a row", lines("  abc  de "), 30, 54},
		{"words of several runs", lines("ab", "c d", "e"), 30, 54},
		{"a blank of two runs", lines("a ", " b"), 10, 24},
		{"nowrap", asNowrap(lines("abc de")), 54, 54},
		{"pre", asPre(lines("abc de")), 54, 54},
		{"lines of pre", asPre(lines(" a\nbc d\n")), 34, 34},
		{"a line beside words", api.Box{Kind: api.BLines, Runs: []api.Run{run("a b"), {Text: "\nc", White: pre}, run(" d")}}, 10, 24},

		{"a block of none", block(), 0, 0},
		{"a block of one", block(ab), 10, 24},
		{"a block", block(ab, cde, ab), 20, 34},
		{"a block of narrow ones", block(back), 0, 0},
		{"a block of a block", block(block(ab), block(block(cde))), 20, 34},
		{"a block with a direction", with(t, block(ab, cde), "flex-wrap: wrap; flex-direction: column"), 20, 34},

		{"a flex of none", flex(), 0, 0},
		{"a flex of one", flex(ab), 10, 24},
		{"a row", flex(ab, cde, ab), 40, 82},
		{"a row of narrow ones", flex(back), -54, -54},
		{"a row with a narrow one", flex(back, ab), -44, -30},
		{"a row-reverse", with(t, flex(ab, cde), "flex-direction: row-reverse"), 30, 58},
		{"a row that wraps", with(t, flex(ab, cde, ab), "flex-wrap: wrap"), 20, 82},
		{"a row that wraps back", with(t, flex(ab, cde, ab), "flex-wrap: wrap-reverse"), 20, 82},
		{"a row-reverse that wraps", with(t, flex(ab, cde, ab), "flex-wrap: wrap; flex-direction: row-reverse"), 20, 82},
		{"a row of narrow ones that wraps", with(t, flex(back), "flex-wrap: wrap"), 0, -54},
		{"a row with a narrow one that wraps", with(t, flex(back, ab), "flex-wrap: wrap"), 10, -30},
		{"a row of none that wraps", with(t, flex(), "flex-wrap: wrap"), 0, 0},
		{"a column", with(t, flex(ab, cde, ab), "flex-direction: column"), 20, 34},
		{"a column-reverse", with(t, flex(ab, cde, ab), "flex-direction: column-reverse"), 20, 34},
		{"a column that wraps", with(t, flex(ab, cde, ab), "flex-direction: column; flex-wrap: wrap"), 20, 34},
		{"a column of narrow ones", with(t, flex(back, back), "flex-direction: column"), 0, 0},
		{"a row of rows", flex(flex(ab, cde), with(t, flex(ab, cde), "flex-wrap: wrap")), 50, 116},
		{"a block of rows", block(flex(ab, cde), with(t, flex(ab, cde, cde), "flex-wrap: wrap")), 30, 92},

		// The sizes of a box don't count in its content, those of its kids do.
		{"a block with sides", with(t, block(ab), "width: 9px; min-width: 8px; padding-left: 1px; margin-right: 1px"), 10, 24},
		{"a row with sides", with(t, flex(ab), "width: 9px; max-width: 0; border-left: 1px; margin-left: 1px"), 10, 24},
		{"lines with sides", with(t, lines("a b"), "width: 9px; max-width: 0; border-left: 1px"), 10, 24},
		{"a block around sides", block(with(t, ab, "padding-left: 1px; margin-right: 2px")), 202, 216},
		{"a row around sides", flex(with(t, ab, "padding-left: 1px"), with(t, cde, "border-right: 1px")), 158, 186},
		{"a block around a width", block(with(t, block(cde), "width: 0.2px"), ab), 13, 24},

		// What a box of its kind has not doesn't count.
		{"lines with kids", api.Box{Kind: api.BLines, Runs: []api.Run{run("a")}, Kids: []api.Box{cde}}, 10, 10},
		{"a block with runs", api.Box{Kind: api.BBlock, Runs: []api.Run{run("abcd")}, Kids: []api.Box{ab}}, 10, 24},
		{"a row with runs", api.Box{Kind: api.BFlex, Runs: []api.Run{run("abcd")}, Kids: []api.Box{ab}}, 10, 24},
	} {
		if least, most := size.Least(letters(), x.b), size.Most(letters(), x.b); least != x.least || most != x.most {
			t.Errorf("%s: %d and %d, not %d and %d", x.name, least, most, x.least, x.most)
		}
		isAsTold(t, letters(), x.b)
	}
}

func TestOuters(t *testing.T) {
	for _, x := range []struct {
		told        string
		least, most int64
	}{
		{"", 20, 34},
		{"padding-left: 1px", 84, 98}, {"padding-right: 2px", 148, 162}, {"padding-top: 1px; padding-bottom: 1px", 20, 34},
		{"border-left: 1px", 84, 98}, {"border-right: 2px", 148, 162}, {"border-top: 1px; border-bottom: 1px", 20, 34},
		{"margin-left: 1px", 84, 98}, {"margin-right: 2px", 148, 162}, {"margin-top: 1px; margin-bottom: 1px", 20, 34},
		{"padding-left: 1px; padding-right: 2px; border-left: 4px; border-right: 8px; margin-left: 16px; margin-right: 32px", 20 + 63*64, 34 + 63*64},
		// Margins count only in pixels, also back.
		{"margin-left: auto", 20, 34}, {"margin-left: auto; margin-right: 1px", 84, 98},
		{"margin-left: 50%; margin-right: 100%", 20, 34}, {"margin-right: -0.1px", 14, 28}, {"margin-left: -1px", -44, -30},
		{"margin-left: -1px; padding-right: 1px", 20, 34},
		// Widths.
		{"width: 1px", 64, 64}, {"width: 0", 0, 0}, {"width: 100%", 20, 34}, {"width: auto", 20, 34},
		{"width: 1px; padding-left: 1px; margin-right: -0.5px", 96, 96},
		{"height: 1px; min-height: 1px; max-height: 0", 20, 34},
		// Bounds, of what is told and of what isn't, and never of what is around.
		{"min-width: 0.4px", 26, 34}, {"min-width: 1px", 64, 64}, {"max-width: 0.4px", 20, 26}, {"max-width: 0.1px", 6, 6}, {"max-width: 0", 0, 0},
		{"max-width: none", 20, 34}, {"min-width: 1px; max-width: 0.1px", 64, 64},
		{"width: 1px; max-width: 0.5px", 32, 32}, {"width: 1px; min-width: 2px", 128, 128}, {"width: 1px; min-width: 0.5px; max-width: 2px", 64, 64},
		{"min-width: 50%", 20, 34}, {"max-width: 1%", 20, 34}, {"width: 1px; min-width: 500%; max-width: 0%", 64, 64},
		{"max-width: 0; padding-left: 1px; border-right: 1px; margin-left: 1px", 192, 192},
		{"min-width: 2px; padding-left: 1px", 192, 192},
		// What else is told says nothing.
		{"display: none; flex-basis: 9px; flex-grow: 3; order: 2; text-align: right; overflow: hidden; white-space: nowrap", 20, 34},
		{"flex-direction: column; flex-wrap: wrap", 20, 34},
	} {
		for name, b := range map[string]api.Box{"lines": lines("cd e"), "a block": block(lines("cd e")), "a flex": flex(lines("cd e"))} {
			b := with(t, b, x.told)
			if least, most := size.Outer(letters(), b, true), size.Outer(letters(), b, false); least != x.least || most != x.most {
				t.Errorf("%s with %q: %d and %d, not %d and %d", name, x.told, least, most, x.least, x.most)
			}
		}
	}
	// Widths that no text tells.
	for _, x := range []struct {
		width api.Len
		want  int64
	}{
		{fix(-5), 0}, {fix(math.MinInt64), 0}, {fix(api.Far + 1), api.Far + 1}, {fix(math.MaxInt64), math.MaxInt64},
		{api.Len{Kind: 3, N: 50}, 20}, {api.Len{Kind: -1, N: 50}, 20}, {api.Len{N: 50}, 20},
	} {
		b := lines("cd e")
		b.Style.Width = x.width
		if got := size.Outer(letters(), b, true); got != x.want {
			t.Errorf("width %v: %d, not %d", x.width, got, x.want)
		}
	}
}

// A content below 0 is clamped, as any is, and what is around it is not.
func TestOutersOfNarrowContents(t *testing.T) {
	back := with(t, lines("a"), "margin-left: -1px")
	for _, x := range []struct {
		told string
		want int64
	}{
		{"", 0}, {"padding-left: 1px", 64}, {"min-width: 0.1px", 6}, {"max-width: 1px", 0}, {"margin-right: -1px", -64}, {"width: 1px", 64},
	} {
		if got := size.Outer(letters(), with(t, flex(back), x.told), true); got != x.want {
			t.Errorf("%q: %d, not %d", x.told, got, x.want)
		}
	}
}

// Kinds of boxes that there are not have no content.
func TestOtherKinds(t *testing.T) {
	for _, kind := range kinds() {
		if kind == api.BLines || kind == api.BBlock || kind == api.BFlex {
			continue
		}
		b := api.Box{Kind: kind, Style: styled(t, "padding-left: 1px"), Kids: []api.Box{lines("abc")}, Runs: []api.Run{run("abc")}}
		got := [4]int64{size.Least(letters(), b), size.Most(letters(), b), size.Outer(letters(), b, true), size.Outer(letters(), b, false)}
		if want := [4]int64{0, 0, 64, 64}; got != want {
			t.Errorf("kind %d: %d, not %d", kind, got, want)
		}
		if n := size.Most(letters(), flex(b, lines("abc"), with(t, b, "width: 1px"))); n != 64+30+64 {
			t.Errorf("kind %d in a row: %d", kind, n)
		}
	}
	// Nor is a direction that there is not a column, nor a wrap nowrap.
	for _, word := range kinds() {
		b := flex(lines("a"), lines("bc"))
		b.Style.Dir = word
		want := int64(30)
		if word == 2 || word == 3 {
			want = 20
		}
		if least, most := size.Least(letters(), b), size.Most(letters(), b); least != want || most != want {
			t.Errorf("direction %d: %d and %d, not %d", word, least, most, want)
		}
		b.Style.Dir, b.Style.Wrap, want = 0, word, 20
		if word == 0 {
			want = 30
		}
		if least, most := size.Least(letters(), b), size.Most(letters(), b); least != want || most != 30 {
			t.Errorf("wrap %d: %d and %d, not %d and 30", word, least, most, want)
		}
	}
}

func TestContentsAreAsTold(t *testing.T) {
	r := usual(1)
	for range 20000 {
		isAsTold(t, letters(), r.box(4))
	}
}

// Sums are those of the numbers, not of what is left of them in 64 bits.
func TestSumsDoNotWrapRound(t *testing.T) {
	great := lines()
	great.Style.Width = fix(math.MaxInt64)
	back := lines()
	back.Style.Margin[left] = fix(math.MinInt64)
	for _, x := range []struct {
		name string
		b    api.Box
		want int64
	}{
		{"two", flex(great, great), math.MaxInt64},
		{"three", flex(great, great, great), math.MaxInt64},
		{"two back", flex(back, back), math.MinInt64},
		{"one and one back", flex(great, back), -1},
		{"one back ahead of two", flex(back, great, great), math.MaxInt64 - 1},
		{"one back behind two", flex(great, great, back), math.MaxInt64 - 1},
		{"one back between two", flex(great, back, great), math.MaxInt64 - 1},
		{"two back and one", flex(back, great, back), math.MinInt64},
	} {
		if least, most := size.Least(letters(), x.b), size.Most(letters(), x.b); least != x.want || most != x.want {
			t.Errorf("%s: %d and %d, not %d", x.name, least, most, x.want)
		}
	}
	// Around a content.
	for _, x := range []struct {
		pad, border, margin, want int64
	}{
		{math.MaxInt64, 0, 0, math.MaxInt64}, {math.MaxInt64, math.MaxInt64, math.MaxInt64, math.MaxInt64},
		{math.MaxInt64, 0, math.MinInt64, 9}, {math.MaxInt64, math.MaxInt64, math.MinInt64, math.MaxInt64},
		{0, 0, math.MinInt64, math.MinInt64 + 10}, {-11, 0, math.MinInt64, math.MinInt64},
		{api.Far, api.Far, api.Far, 3*api.Far + 10},
	} {
		b := lines("a")
		b.Style.Pad[right], b.Style.Border[left], b.Style.Margin[right] = x.pad, x.border, fix(x.margin)
		if got := size.Outer(letters(), b, false); got != x.want {
			t.Errorf("%+v: %d, not %d", x, got, x.want)
		}
		isAsTold(t, letters(), b)
	}
}

// A width is as great as its texts are, though no length that is told is.
func TestWidthsAreNotHeld(t *testing.T) {
	const n = 20000
	word := lines(strings.Repeat("a", n))
	for _, x := range []struct {
		b    api.Box
		want int64
	}{{word, n * 65536}, {block(word), n * 65536}, {flex(word, word, word), 3 * n * 65536}} {
		if least, most := size.Least(same(65536), x.b), size.Most(same(65536), x.b); least != x.want || most != x.want {
			t.Errorf("%d and %d, not %d", least, most, x.want)
		}
		if n := size.Outer(same(65536), x.b, true); n != x.want {
			t.Errorf("an Outer of %d, not %d", n, x.want)
		}
	}
}

// Each byte leads as it does, held by gaug.
func TestAdvs(t *testing.T) {
	for _, x := range [][2]int64{{0, 0}, {1, 1}, {65536, 65536}, {65537, 65536}, {-1, 0}, {math.MaxInt64, 65536}, {math.MinInt64, 0}} {
		b := flex(lines("ab c"), block(lines("d")))
		if least, most := size.Least(same(x[0]), b), size.Most(same(x[0]), b); least != 3*x[1] || most != 5*x[1] {
			t.Errorf("where each byte leads %d: %d and %d", x[0], least, most)
		}
	}
}

// The boxes of a tree, as anon answers them.
func TestBoxesOfTrees(t *testing.T) {
	element := func(id, parent int, told string) api.Op {
		return api.Op{Kind: api.OElement, ID: id, At: parent, Before: -1, Text: told}
	}
	text := func(id, parent int, s string) api.Op {
		return api.Op{Kind: api.OText, ID: id, At: parent, Before: -1, Text: s}
	}
	for i, x := range []struct {
		ops         []api.Op
		least, most int64
	}{
		{nil, 0, 0},
		{[]api.Op{text(1, 0, "one two")}, 30, 64},
		{[]api.Op{text(1, 0, "one "), element(2, 0, ""), text(3, 2, "three"), text(4, 0, "four")}, 90, 124},
		{[]api.Op{text(1, 0, "one two "), element(2, 0, "display: block; padding-left: 1px"), text(3, 2, "i"), text(4, 0, " ")}, 67, 67},
		{[]api.Op{element(1, 0, "display: block; width: 50%"), text(2, 1, "a b")}, 10, 24},
		{
			[]api.Op{
				{Kind: api.OStyle, ID: 0, Text: "display: flex; padding-left: 3px"},
				text(1, 0, "a b"), element(2, 0, "margin-left: 1px"), text(3, 2, "c d"), element(4, 0, "display: none"), text(5, 4, "efg"),
			},
			10 + 64 + 10, 24 + 64 + 24,
		},
	} {
		one := tree.New(api.MaxNodes)
		if e := edit.Batch(one, x.ops); e != nil {
			t.Fatal(i, e)
		}
		b := anon.Boxes(one)
		if least, most := size.Least(letters(), b), size.Most(letters(), b); least != x.least || most != x.most {
			t.Errorf("tree %d: %d and %d, not %d and %d", i, least, most, x.least, x.most)
		}
		isAsTold(t, letters(), b)
	}
}

// 13.3

// widest is how wide the widest line in avail is.
func widest(m api.Metrics, runs []api.Run, avail int64) int64 {
	var w int64
	for _, line := range brk.Lines(whit.Glyphs(m, runs), avail) {
		w = max(w, line.W)
	}
	return w
}

// However narrow, or wide, lines are laid, one of them is as wide as Least says,
// and none is wider than Most says; where there is as much room, none is wider.
func TestNoLinesNeedLess(t *testing.T) {
	r := usual(2)
	for range 5000 {
		b := api.Box{Kind: api.BLines}
		for r.Intn(5) > 0 {
			b.Runs = append(b.Runs, r.run())
		}
		least, most := size.Least(letters(), b), size.Most(letters(), b)
		for avail := int64(-3); avail < most+20; avail += 7 {
			if w := widest(letters(), b.Runs, avail); w < least || w > most || w > max(avail, least) {
				t.Fatalf("%+v in %d: %d wide, but %d and %d", b, avail, w, least, most)
			}
		}
		if w := widest(letters(), b.Runs, least); w != least {
			t.Fatalf("%+v in its Least %d: %d wide", b, least, w)
		}
		if w := widest(letters(), b.Runs, most); w != most {
			t.Fatalf("%+v in its Most %d: %d wide", b, most, w)
		}
	}
}

// A box holds each of its kids, and in a row all of them; where no margin is
// below 0, none needs more at least than at most.
func TestNoBoxNeedsLess(t *testing.T) {
	r := draw{rand.New(rand.NewSource(3)), []int64{0, 1, 5, 13, 40, 64}, []int{0, 1, 2}}
	for range 20000 {
		b := r.box(4)
		if b.Kind != api.BBlock && b.Kind != api.BFlex {
			continue
		}
		least, most := size.Least(letters(), b), size.Most(letters(), b)
		var all int64
		for _, kid := range b.Kids {
			needs := size.Outer(letters(), kid, true)
			all += needs
			if needs > least || size.Outer(letters(), kid, false) > most {
				t.Fatalf("%+v needs %d and %d, its kid %+v more", b, least, most, kid)
			}
		}
		inOneRow := b.Kind == api.BFlex && b.Style.Dir < 2 && b.Style.Wrap == 0
		if least > most || inOneRow && least != all {
			t.Fatalf("%+v needs %d and %d, its kids %d together", b, least, most, all)
		}
	}
}

// 13.4

func TestNoCallPanics(t *testing.T) {
	defer func() {
		if r := recover(); r != nil {
			t.Error("a call panicked:", r)
		}
	}()
	r := wild(4)
	for range 10000 {
		m := same(r.length())
		m.Adv[' '], m.Adv['a'] = r.length(), r.length()
		isAsTold(t, m, r.box(3))
	}
	for range 20000 {
		s, base := r.style(), r.length()
		for _, high := range []bool{false, true} {
			least, most := s.MinW, s.MaxW
			if high {
				least, most = s.MinH, s.MaxH
			}
			if a, b := size.Min(s, high, base), size.Max(s, high, base); a != toldMin(least, base) || b != toldMax(most, base) {
				t.Fatalf("%+v of %d: %d and %d", s, base, a, b)
			}
		}
	}
	var none api.Box
	if size.Least(letters(), none) != 0 || size.Most(letters(), none) != 0 || size.Outer(letters(), none, true) != 0 {
		t.Error("a box of nothing has a width")
	}
}

// Nil and an empty list are the same.
func TestEmptyLists(t *testing.T) {
	for _, kind := range []int{api.BBlock, api.BLines, api.BFlex} {
		isAsTold(t, letters(), api.Box{Kind: kind, Kids: []api.Box{}, Runs: []api.Run{}})
		if n := size.Most(letters(), api.Box{Kind: kind, Kids: []api.Box{}, Runs: []api.Run{}}); n != 0 {
			t.Errorf("kind %d: %d", kind, n)
		}
	}
}

// Boxes may be deeper, and have more kids, than those of a tree.
func TestVeryManyBoxes(t *testing.T) {
	const n = 200000
	deep := with(t, lines("a b"), "padding-left: 1px")
	for i := range n {
		deep = api.Box{Kind: []int{api.BBlock, api.BFlex}[i%2], Kids: []api.Box{deep}}
		deep.Style.Border[right] = 1
	}
	flat := flex(slices.Repeat([]api.Box{with(t, lines("a b"), "padding-left: 1px")}, n)...)
	for _, x := range []struct {
		name        string
		b           api.Box
		least, most int64
	}{
		{"deep", deep, 10 + 64 + n - 1, 24 + 64 + n - 1},
		{"flat", flat, 74 * n, 88 * n},
		{"flat that wraps", with(t, flat, "flex-wrap: wrap"), 74, 88 * n},
		{"flat in a block", block(flat), 74 * n, 88 * n},
	} {
		if least, most := size.Least(letters(), x.b), size.Most(letters(), x.b); least != x.least || most != x.most {
			t.Errorf("%s: %d and %d, not %d and %d", x.name, least, most, x.least, x.most)
		}
	}
}

// What is handed in stays as it is, its spare room too, and is not kept.
func TestBoxesStayAsTheyAre(t *testing.T) {
	r := usual(5)
	for range 2000 {
		b := r.box(3)
		b.Kids = append(slices.Grow(b.Kids, 3), block())[:len(b.Kids)]
		b.Runs = append(slices.Grow(b.Runs, 3), run("spare"))[:len(b.Runs)]
		was := copied(b)
		first := [4]int64{size.Least(letters(), b), size.Most(letters(), b), size.Outer(letters(), b, true), size.Outer(letters(), b, false)}
		if !reflect.DeepEqual(roomy(b), roomy(was)) {
			t.Fatalf("%+v was turned to %+v", was, b)
		}
		// Another box where the first one stood is answered as it is itself.
		for i := range b.Kids {
			b.Kids[i] = with(t, lines("abcdefg"), "margin-left: 9px")
		}
		isAsTold(t, letters(), b)
		again := [4]int64{size.Least(letters(), was), size.Most(letters(), was), size.Outer(letters(), was, true), size.Outer(letters(), was, false)}
		if first != again {
			t.Fatalf("%+v: %d, and then %d", was, first, again)
		}
	}
}

// copied is b in new memory, with its spare room.
func copied(b api.Box) api.Box {
	kids := b.Kids[:cap(b.Kids)]
	c := b
	c.Kids = make([]api.Box, len(kids))
	for i, kid := range kids {
		c.Kids[i] = copied(kid)
	}
	c.Kids = c.Kids[:len(b.Kids)]
	c.Runs = slices.Clone(b.Runs[:cap(b.Runs)])[:len(b.Runs)]
	return c
}

// roomy is b with its spare room as kids and runs.
func roomy(b api.Box) api.Box {
	kids := b.Kids[:cap(b.Kids)]
	b.Kids = nil
	for _, kid := range kids {
		b.Kids = append(b.Kids, roomy(kid))
	}
	b.Runs = append([]api.Run(nil), b.Runs[:cap(b.Runs)]...)
	return b
}
