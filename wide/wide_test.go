package wide_test

import (
	"math"
	"math/big"
	"math/rand"
	"testing"

	"quoin/api"
	"quoin/decl"
	"quoin/size"
	"quoin/unit"
	"quoin/wide"
)

// The sides, by the places that a style has them at.
const (
	top    = 0
	right  = 1
	bottom = 2
	left   = 3
)

// styled is the style of an element that tells s.
func styled(t testing.TB, s string) api.Style {
	t.Helper()
	l, at, e := decl.Parse(s)
	if e != api.OK {
		t.Fatalf("Parse(%q): %d %v", s, at, e)
	}
	return decl.Style(decl.Initial(), l)
}

func fix(n int64) api.Len { return api.Len{Kind: api.LFix, N: n} }

func pct(n int64) api.Len { return api.Len{Kind: api.LPct, N: n} }

// auto is one that says nothing, whatever its N.
func auto(n int64) api.Len { return api.Len{Kind: api.LAuto, N: n} }

// extremes is lengths at bounds, and such that a narrower number, or a sum,
// would take for another one.
func extremes() []int64 {
	return []int64{
		0, 1, -1, 2, 3, 10, 5000, -5000, 10000, 10001, api.Far - 1, api.Far, api.Far + 1, -api.Far, -api.Far - 1, 1 << 32,
		1<<32 + 5, -1 << 32, 5 - 1<<32, math.MaxInt64, math.MaxInt64 - 1, math.MinInt64, math.MinInt64 + 1,
		math.MaxInt64 / 2, math.MinInt64 / 2,
	}
}

// kinds is such as there are of lengths, and others.
func kinds() []int {
	return []int{0, 1, 2, 3, 4, -1, -2, 255, 256, 257, 258, 1<<32 + 1, 1<<32 + 2, math.MaxInt, math.MinInt}
}

func sum(l ...int64) *big.Int {
	s := new(big.Int)
	for _, n := range l {
		s.Add(s, big.NewInt(n))
	}
	return s
}

// held is the number that is nearest to n.
func held(n *big.Int) int64 {
	switch {
	case n.IsInt64():
		return n.Int64()
	case n.Sign() < 0:
		return math.MinInt64
	}
	return math.MaxInt64
}

// 14.1, one sentence at a time.

func toldSide(l api.Len, base int64) (int64, bool) {
	if l.Kind == api.LFix {
		return l.N, true
	}
	if l.Kind == api.LPct {
		return unit.Pct(base, l.N), true
	}
	return 0, false
}

func toldEdges(s api.Style) [4]int64 {
	var l [4]int64
	for side := range l {
		l[side] = held(sum(s.Pad[side], s.Border[side]))
	}
	return l
}

func toldWidth(s api.Style, base int64) api.Width {
	edges := toldEdges(s)
	e := sum(edges[left], edges[right])
	autoLeft, autoRight := s.Margin[left].Kind == api.LAuto, s.Margin[right].Kind == api.LAuto
	var marginLeft, marginRight int64
	if !autoLeft {
		marginLeft, _ = toldSide(s.Margin[left], base)
	}
	if !autoRight {
		marginRight, _ = toldSide(s.Margin[right], base)
	}
	clamp := func(n int64) int64 {
		return size.Clamp(n, size.Min(s, false, base), size.Max(s, false, base))
	}
	var w int64
	if s.Width.Kind == api.LAuto {
		was := sum(base)
		was.Sub(was, sum(marginLeft, marginRight))
		was.Sub(was, e)
		w = clamp(held(was))
		if sum(w).Cmp(was) == 0 {
			return api.Width{Left: marginLeft, W: w, Right: marginRight}
		}
	} else {
		w, _ = toldSide(s.Width, base)
		w = clamp(w)
	}
	over := sum(base)
	over.Sub(over, sum(w))
	over.Sub(over, e)
	over.Sub(over, sum(marginLeft, marginRight))
	l, r := sum(marginLeft), sum(marginRight)
	switch {
	case over.Sign() < 0:
		r.Add(r, over)
	case autoLeft && autoRight:
		half := new(big.Int).Div(over, big.NewInt(2))
		l = half
		r = new(big.Int).Sub(over, half)
	case autoLeft:
		l = over
	case autoRight:
		r = over
	default:
		r.Add(r, over)
	}
	return api.Width{Left: held(l), W: w, Right: held(r)}
}

// 14.2, one sentence at a time.

func toldHeight(s api.Style, base int64) (int64, bool) {
	if s.Height.Kind == api.LFix || s.Height.Kind == api.LPct && base >= 0 {
		n, _ := toldSide(s.Height, base)
		return size.Clamp(n, size.Min(s, true, base), size.Max(s, true, base)), true
	}
	return 0, false
}

// isAsTold holds all answers of s in base against the chapter's words.
func isAsTold(t *testing.T, s api.Style, base int64) {
	t.Helper()
	var edges [4]int64
	edges[top], edges[right], edges[bottom], edges[left] = wide.Edges(s)
	if want := toldEdges(s); edges != want {
		t.Fatalf("Edges(%+v): %d, not %d", s, edges, want)
	}
	got := wide.Width(s, base)
	if want := toldWidth(s, base); got != want {
		t.Fatalf("Width(%+v, %d): %d, not %d", s, base, got, want)
	}
	h, ok := wide.Height(s, base)
	if wantH, wantOK := toldHeight(s, base); h != wantH || ok != wantOK {
		t.Fatalf("Height(%+v, %d): %d %t, not %d %t", s, base, h, ok, wantH, wantOK)
	}
}

// draw draws styles.
type draw struct {
	*rand.Rand
	// lengths and kinds is what the styles are made of.
	lengths []int64
	kinds   []int
}

func (r draw) length() int64 { return r.lengths[r.Intn(len(r.lengths))] }

func (r draw) len() api.Len { return api.Len{Kind: r.kinds[r.Intn(len(r.kinds))], N: r.length()} }

// style draws one of which each other field is as Initial's.
func (r draw) style() api.Style {
	s := decl.Initial()
	for _, l := range []*api.Len{
		&s.Width, &s.Height, &s.MinW, &s.MinH, &s.MaxW, &s.MaxH, &s.Basis,
		&s.Margin[top], &s.Margin[right], &s.Margin[bottom], &s.Margin[left],
	} {
		if r.Intn(2) == 0 {
			*l = r.len()
		}
	}
	for side := range 4 {
		if r.Intn(3) == 0 {
			s.Pad[side] = r.length()
		}
		if r.Intn(3) == 0 {
			s.Border[side] = r.length()
		}
	}
	return s
}

// usual draws styles as elements have them, but for some kinds that there are
// not.
func usual(seed int64) draw {
	return draw{rand.New(rand.NewSource(seed)), []int64{0, 1, 5, 13, 40, 64, 2500, 5000, 10000, -3, -20, -64, -3300}, []int{0, 1, 2, 3}}
}

// wild draws styles with any numbers.
func wild(seed int64) draw {
	return draw{rand.New(rand.NewSource(seed)), extremes(), kinds()}
}

// 14.1

func TestSide(t *testing.T) {
	for _, x := range []struct {
		l    api.Len
		base int64
		n    int64
		ok   bool
	}{
		{fix(7), 100, 7, true}, {fix(0), 100, 0, true}, {fix(-7), 100, -7, true}, {fix(7), -1, 7, true}, {fix(7), 0, 7, true},
		// A length in pixels is not held.
		{fix(api.Far + 1), 5, api.Far + 1, true}, {fix(math.MinInt64), 5, math.MinInt64, true},
		{pct(5000), 100, 50, true}, {pct(5000), 0, 0, true}, {pct(0), 100, 0, true}, {pct(-5000), 100, -50, true},
		{pct(5000), -100, -50, true}, {pct(20000), 7, 14, true}, {pct(4999), 1, 0, true}, {pct(5000), 1, 1, true},
		// Of a percentage a half is rounded up.
		{pct(-5000), 1, 0, true}, {pct(-5001), 1, -1, true}, {pct(5000), -1, 0, true},
		{pct(10000), api.Far + 9, api.Far, true}, {pct(20000), api.Far, api.Far, true}, {pct(-20000), api.Far, -api.Far, true},
		{auto(0), 100, 0, false}, {auto(7), 100, 0, false}, {auto(7), -1, 0, false},
		{api.Len{Kind: 3, N: 7}, 100, 0, false}, {api.Len{Kind: -1, N: 7}, 100, 0, false}, {api.Len{Kind: 257, N: 7}, 100, 0, false},
	} {
		if n, ok := wide.Side(x.l, x.base); n != x.n || ok != x.ok {
			t.Errorf("Side(%v, %d): %d %t, not %d %t", x.l, x.base, n, ok, x.n, x.ok)
		}
	}
	for _, kind := range kinds() {
		for _, n := range extremes() {
			for _, base := range extremes() {
				l := api.Len{Kind: kind, N: n}
				got, ok := wide.Side(l, base)
				if want, wantOK := toldSide(l, base); got != want || ok != wantOK {
					t.Errorf("Side(%v, %d): %d %t, not %d %t", l, base, got, ok, want, wantOK)
				}
			}
		}
	}
}

func TestEdges(t *testing.T) {
	for _, x := range []struct {
		told string
		want [4]int64
	}{
		{"", [4]int64{}},
		{"padding-top: 1px", [4]int64{64, 0, 0, 0}}, {"border-top: 1px", [4]int64{64, 0, 0, 0}},
		{"padding-right: 1px", [4]int64{0, 64, 0, 0}}, {"border-right: 1px", [4]int64{0, 64, 0, 0}},
		{"padding-bottom: 1px", [4]int64{0, 0, 64, 0}}, {"border-bottom: 1px", [4]int64{0, 0, 64, 0}},
		{"padding-left: 1px", [4]int64{0, 0, 0, 64}}, {"border-left: 1px", [4]int64{0, 0, 0, 64}},
		{"padding-left: 1px; border-left: 2px; border-top: 0.5px", [4]int64{32, 0, 0, 192}},
		// Margins are no edges, nor is any other length.
		{"margin-top: 1px; margin-right: 2px; margin-bottom: 3px; margin-left: 4px; width: 5px; line-height: 6px; min-height: 7px", [4]int64{}},
	} {
		var got [4]int64
		got[top], got[right], got[bottom], got[left] = wide.Edges(styled(t, x.told))
		if got != x.want {
			t.Errorf("Edges of %q: %d, not %d", x.told, got, x.want)
		}
	}
	for _, pad := range extremes() {
		for _, border := range extremes() {
			for side := range 4 {
				var s api.Style
				s.Pad[side], s.Border[side] = pad, border
				isAsTold(t, s, 100)
			}
		}
	}
}

func TestWidth(t *testing.T) {
	for _, x := range []struct {
		told string
		base int64
		want api.Width
	}{
		{"", 640, api.Width{W: 640}}, {"", 0, api.Width{}}, {"", -10, api.Width{Right: -10}},
		// What is auto takes the room that is left.
		{"margin-left: 1px", 640, api.Width{Left: 64, W: 576}},
		{"margin-right: 1px", 640, api.Width{W: 576, Right: 64}},
		{"margin-left: -1px; margin-right: -2px", 640, api.Width{Left: -64, W: 832, Right: -128}},
		{"margin-left: 10%; margin-right: 25%", 640, api.Width{Left: 64, W: 416, Right: 160}},
		{"padding-left: 1px; padding-right: 2px; border-left: 3px; border-right: 1px", 640, api.Width{W: 192}},
		{"padding-top: 1px; padding-bottom: 2px; border-top: 3px; border-bottom: 1px", 640, api.Width{W: 640}},
		{"margin-top: 1px; margin-bottom: 2px", 640, api.Width{W: 640}},
		// Autos beside it get nothing then.
		{"margin-left: auto", 640, api.Width{W: 640}}, {"margin-right: auto", 640, api.Width{W: 640}},
		{"margin-left: auto; margin-right: auto; padding-left: 1px", 640, api.Width{W: 576}},
		{"margin-left: auto; margin-right: 1px", 640, api.Width{W: 576, Right: 64}},
		// Where its bounds say otherwise, it is as one that is told.
		{"max-width: 2px", 640, api.Width{W: 128, Right: 512}},
		{"max-width: 50%", 640, api.Width{W: 320, Right: 320}},
		{"max-width: 2px; margin-left: auto", 640, api.Width{Left: 512, W: 128}},
		{"max-width: 2px; margin-right: auto", 640, api.Width{W: 128, Right: 512}},
		{"max-width: 2px; margin-left: auto; margin-right: auto", 641, api.Width{Left: 256, W: 128, Right: 257}},
		{"max-width: 10px", 640, api.Width{W: 640}}, {"max-width: 0", 640, api.Width{Right: 640}},
		{"min-width: 10px", 640, api.Width{W: 640}}, {"min-width: 11px", 640, api.Width{W: 704, Right: -64}},
		{"min-width: 11px; margin-left: auto; margin-right: auto", 640, api.Width{W: 704, Right: -64}},
		{"min-width: 110%", 640, api.Width{W: 704, Right: -64}},
		{"min-width: 3px; max-width: 2px", 640, api.Width{W: 192, Right: 448}},
		// No content is narrower than nothing.
		{"padding-left: 11px", 640, api.Width{Right: -64}},
		{"padding-left: 11px; margin-left: auto; margin-right: auto", 640, api.Width{Right: -64}},
		{"padding-left: 10px; margin-left: 1px; margin-right: 2px", 640, api.Width{Left: 64, Right: -64}},
		{"padding-left: 10px; margin-left: 1px; margin-right: -1px", 640, api.Width{Left: 64, Right: -64}},
		// A width that is told.
		{"width: 5px", 640, api.Width{W: 320, Right: 320}}, {"width: 0", 640, api.Width{Right: 640}},
		{"width: 50%", 640, api.Width{W: 320, Right: 320}}, {"width: 50%", -640, api.Width{Right: -640}},
		{"width: 10px", 640, api.Width{W: 640}},
		{"width: 5px; margin-left: 1px; margin-right: 2px", 640, api.Width{Left: 64, W: 320, Right: 256}},
		{"width: 5px; padding-left: 1px; border-left: 1px; padding-right: 1px; border-right: 2px", 640, api.Width{W: 320}},
		{"width: 5px; min-width: 6px", 640, api.Width{W: 384, Right: 256}},
		{"width: 5px; max-width: 4px; min-width: 6px", 640, api.Width{W: 384, Right: 256}},
		{"width: 5px; max-width: 25%", 640, api.Width{W: 160, Right: 480}},
		// Autos share what is left.
		{"width: 5px; margin-left: auto", 640, api.Width{Left: 320, W: 320}},
		{"width: 5px; margin-right: auto", 640, api.Width{W: 320, Right: 320}},
		{"width: 5px; margin-left: auto; margin-right: 1px", 640, api.Width{Left: 256, W: 320, Right: 64}},
		{"width: 5px; margin-left: 1px; margin-right: auto", 640, api.Width{Left: 64, W: 320, Right: 256}},
		{"width: 5px; margin-left: auto; margin-right: auto", 640, api.Width{Left: 160, W: 320, Right: 160}},
		{"width: 5px; margin-left: auto; margin-right: auto", 643, api.Width{Left: 161, W: 320, Right: 162}},
		{"width: 5px; margin-left: auto; margin-right: auto; padding-right: 1px", 640, api.Width{Left: 128, W: 320, Right: 128}},
		{"width: 5px; margin-left: auto; margin-right: auto", 321, api.Width{W: 320, Right: 1}},
		{"width: 5px; margin-left: auto; margin-right: auto", 320, api.Width{W: 320}},
		// What is missing falls to the right alone.
		{"width: 5px; margin-left: auto; margin-right: auto", 319, api.Width{W: 320, Right: -1}},
		{"width: 5px; margin-left: auto; margin-right: auto", 317, api.Width{W: 320, Right: -3}},
		{"width: 5px; margin-left: auto", 256, api.Width{W: 320, Right: -64}},
		{"width: 5px; margin-right: auto", 256, api.Width{W: 320, Right: -64}},
		{"width: 5px; margin-left: auto; margin-right: 1px", 256, api.Width{W: 320, Right: -64}},
		{"width: 5px; margin-left: auto; margin-right: 3px", 256, api.Width{W: 320, Right: -64}},
		{"width: 5px; margin-left: auto; margin-right: -3px", 256, api.Width{Left: 128, W: 320, Right: -192}},
		{"width: 5px; margin-left: 1px; margin-right: 2px", 256, api.Width{Left: 64, W: 320, Right: -128}},
		{"width: 5px; margin-left: -1px", 256, api.Width{Left: -64, W: 320}},
		{"width: 5px; margin-left: -2px", 256, api.Width{Left: -128, W: 320, Right: 64}},
		{"width: 5px; margin-left: -2px; margin-right: auto", 256, api.Width{Left: -128, W: 320, Right: 64}},
	} {
		s := styled(t, x.told)
		if got := wide.Width(s, x.base); got != x.want {
			t.Errorf("Width of %q in %d: %d, not %d", x.told, x.base, got, x.want)
		}
		isAsTold(t, s, x.base)
	}
}

// A margin's N says nothing where it is auto, and neither does a kind that
// there is not; a width of such a kind is none that is auto.
func TestWidthOfRawStyles(t *testing.T) {
	raw := func(width, left, right api.Len) api.Style {
		s := decl.Initial()
		s.Width, s.Margin[3], s.Margin[1] = width, left, right
		return s
	}
	other := api.Len{Kind: 3, N: 7}
	for _, x := range []struct {
		s    api.Style
		base int64
		want api.Width
	}{
		{raw(auto(7), auto(7), auto(7)), 100, api.Width{W: 100}},
		{raw(fix(9), auto(7), auto(7)), 100, api.Width{Left: 45, W: 9, Right: 46}},
		{raw(fix(9), auto(7), fix(7)), 100, api.Width{Left: 84, W: 9, Right: 7}},
		{raw(fix(9), auto(7), fix(7)), 10, api.Width{W: 9, Right: 1}},
		{raw(fix(9), other, fix(7)), 100, api.Width{W: 9, Right: 91}},
		{raw(fix(9), other, auto(7)), 100, api.Width{W: 9, Right: 91}},
		{raw(fix(9), auto(7), other), 100, api.Width{Left: 91, W: 9}},
		{raw(other, fix(7), fix(7)), 100, api.Width{Left: 7, Right: 93}},
		{raw(other, auto(7), fix(7)), 100, api.Width{Left: 93, Right: 7}},
		{raw(fix(-9), fix(7), fix(7)), 100, api.Width{Left: 7, Right: 93}},
	} {
		if got := wide.Width(x.s, x.base); got != x.want {
			t.Errorf("Width(%+v, %d): %d, not %d", x.s, x.base, got, x.want)
		}
		isAsTold(t, x.s, x.base)
	}
}

// All blocks of few units.
func TestSmallWidths(t *testing.T) {
	lens := []api.Len{auto(0), fix(0), fix(1), fix(3), fix(-2), pct(5000), pct(-10000), {Kind: 3, N: 1}}
	for _, width := range lens {
		for _, before := range lens {
			for _, after := range lens {
				for _, least := range []api.Len{fix(0), fix(2), pct(10000)} {
					for _, most := range []api.Len{auto(0), fix(0), fix(1), pct(5000)} {
						s := decl.Initial()
						s.Width, s.Margin[left], s.Margin[right], s.MinW, s.MaxW = width, before, after, least, most
						for base := int64(-2); base < 7; base++ {
							s.Pad, s.Border = [4]int64{}, [4]int64{}
							isAsTold(t, s, base)
							s.Pad, s.Border = [4]int64{9, 1, 9, 0}, [4]int64{9, 0, 9, 1}
							isAsTold(t, s, base)
						}
					}
				}
			}
		}
	}
}

// Each answer against the chapter's words.
func TestStylesAsTold(t *testing.T) {
	for _, x := range []struct {
		r     draw
		times int
	}{{usual(1), 100000}, {wild(2), 100000}} {
		for range x.times {
			s := x.r.style()
			base := x.r.length()
			if x.r.Intn(2) == 0 {
				base = x.r.Int63n(1000)
			}
			isAsTold(t, s, base)
		}
	}
}

// 14.2

func TestHeight(t *testing.T) {
	for _, x := range []struct {
		told string
		base int64
		h    int64
		ok   bool
	}{
		{"", 100, 0, false}, {"height: auto", 100, 0, false}, {"min-height: 5px", 100, 0, false}, {"width: 5px", 100, 0, false},
		{"height: 2px", 100, 128, true}, {"height: 2px", 0, 128, true}, {"height: 2px", -1, 128, true}, {"height: 0", -1, 0, true},
		{"height: 50%", 100, 50, true}, {"height: 50%", 1, 1, true}, {"height: 150%", 100, 150, true},
		// A base of 0 is one, one below is none.
		{"height: 50%", 0, 0, true}, {"height: 50%", -1, 0, false}, {"height: 50%", -100, 0, false}, {"height: 0%", -1, 0, false},
		{"height: 50%; min-height: 5px", -1, 0, false},
		{"height: 50%; min-height: 5px", 0, 320, true},
		// Paddings and borders are not in it.
		{"height: 2px; padding-top: 1px; border-bottom: 1px", 100, 128, true},
		{"height: 2px; min-height: 3px", -1, 192, true}, {"height: 2px; min-height: 200%", 100, 200, true},
		{"height: 2px; min-height: 200%", -1, 128, true},
		{"height: 2px; max-height: 1px", -1, 64, true}, {"height: 2px; max-height: 50%", 100, 50, true},
		{"height: 2px; max-height: 50%", 0, 0, true}, {"height: 2px; max-height: 50%", -1, 128, true},
		{"height: 50%; max-height: 20%; min-height: 30%", 100, 30, true},
		// The bounds of the width say nothing.
		{"height: 2px; min-width: 3px; max-width: 1px; width: 9px", 100, 128, true},
	} {
		s := styled(t, x.told)
		if h, ok := wide.Height(s, x.base); h != x.h || ok != x.ok {
			t.Errorf("Height of %q in %d: %d %t, not %d %t", x.told, x.base, h, ok, x.h, x.ok)
		}
	}
	for _, kind := range kinds() {
		for _, n := range extremes() {
			for _, base := range extremes() {
				s := decl.Initial()
				s.Height = api.Len{Kind: kind, N: n}
				h, ok := wide.Height(s, base)
				if wantH, wantOK := toldHeight(s, base); h != wantH || ok != wantOK {
					t.Errorf("Height of %v in %d: %d %t, not %d %t", s.Height, base, h, ok, wantH, wantOK)
				}
			}
		}
	}
}

// 14.3

func TestWidthsAddUp(t *testing.T) {
	r := usual(3)
	r.lengths = append(r.lengths, api.Far, -api.Far, 1<<50, -1<<50)
	for range 100000 {
		s, base := r.style(), r.Int63n(1<<uint(r.Intn(50)+1))-1
		_, right, _, left := wide.Edges(s)
		got := wide.Width(s, base)
		if all := got.Left + left + got.W + right + got.Right; all != base {
			t.Fatalf("%+v: %d with %d and %d is %d, not %d", s, got, left, right, all, base)
		}
		if got.W < 0 {
			t.Fatalf("%+v in %d: %d", s, base, got)
		}
	}
}

// What is beyond an int64 is reckoned as it is, and answered by the nearest
// number that there is.
func TestGreatWidths(t *testing.T) {
	const most, least = math.MaxInt64, math.MinInt64
	raw := func(width, left, right api.Len) api.Style {
		return api.Style{Width: width, Margin: [4]api.Len{fix(0), right, fix(0), left}}
	}
	for _, x := range []struct {
		s    api.Style
		base int64
		want api.Width
	}{
		{raw(auto(0), fix(least), fix(0)), 0, api.Width{Left: least, W: most, Right: 1}},
		{raw(auto(0), fix(least), auto(0)), 0, api.Width{Left: least, W: most, Right: 1}},
		{raw(auto(0), fix(least), fix(most)), 0, api.Width{Left: least, W: 1, Right: most}},
		{raw(auto(0), fix(most), fix(most)), 0, api.Width{Left: most, Right: -most}},
		{raw(auto(0), fix(most), fix(5)), least, api.Width{Left: most, Right: least}},
		{raw(fix(9), fix(least), fix(0)), most, api.Width{Left: least, W: 9, Right: most}},
		{raw(fix(most), auto(0), auto(0)), least, api.Width{W: most, Right: least}},
		{raw(fix(0), auto(0), auto(0)), most, api.Width{Left: most / 2, Right: most/2 + 1}},
	} {
		if got := wide.Width(x.s, x.base); got != x.want {
			t.Errorf("Width(%+v, %d): %d, not %d", x.s, x.base, got, x.want)
		}
		isAsTold(t, x.s, x.base)
	}
	// Edges below 0 leave more than an int64 holds; the half of it may be less.
	s := raw(fix(0), auto(0), auto(0))
	s.Pad[left] = -9
	if got, want := wide.Width(s, most), (api.Width{Left: most/2 + 5, Right: most/2 + 5}); got != want {
		t.Errorf("%d, not %d", got, want)
	}
}

// 14.4

func TestNoCallPanics(t *testing.T) {
	defer func() {
		if p := recover(); p != nil {
			t.Fatal(p)
		}
	}()
	wide.Width(api.Style{}, 0)
	wide.Height(api.Style{}, 0)
	wide.Edges(api.Style{})
	r := wild(4)
	for range 50000 {
		s, base := r.style(), r.length()
		wide.Side(s.Width, base)
		wide.Edges(s)
		wide.Width(s, base)
		wide.Height(s, base)
	}
}
