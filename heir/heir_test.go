package heir_test

import (
	"math"
	"math/rand"
	"slices"
	"testing"

	"quoin/api"
	"quoin/decl"
	"quoin/heir"
)

func fix(n int64) api.Len { return api.Len{Kind: api.LFix, N: n} }

// initial is chapter 4's, written out once more, so that a fault there isn't
// taken for what is right here.
func initial() api.Style {
	return api.Style{
		Display: 1, Items: 3, Shrink: 1, Line: 1280,
		MinW: fix(0), MinH: fix(0),
		Margin: [4]api.Len{fix(0), fix(0), fix(0), fix(0)},
	}
}

// with is the initial style after turn.
func with(turn func(s *api.Style)) api.Style {
	s := initial()
	turn(&s)
	return s
}

func told(t *testing.T, s string) []api.Decl {
	t.Helper()
	l, at, e := decl.Parse(s)
	if e != api.OK {
		t.Fatalf("Parse(%q): %d %v", s, at, e)
	}
	return l
}

// unlike has in each field something else than the initial style.
func unlike() api.Style {
	return api.Style{
		Display: 2, Dir: 3, Wrap: 2, Justify: 4, Items: 1, Self: 2, Align: 2, White: 1, Over: 1,
		Width: fix(1), Height: fix(2), MinW: fix(3), MinH: fix(4), MaxW: fix(5), MaxH: fix(6), Basis: fix(7),
		Margin: [4]api.Len{fix(8), {}, fix(-9), {Kind: api.LPct, N: 10}},
		Pad:    [4]int64{11, 12, 13, 14},
		Border: [4]int64{15, 16, 17, 18},
		Grow:   19, Shrink: 20, Order: 21, Line: 22,
	}
}

// whole is a text that tells each property, in the order of their numbers, each
// as something else than the initial style has.
const whole = "display: block; width: 1px; height: 2px; min-width: 3px; min-height: 4px; max-width: 5px; max-height: 6px; " +
	"margin-top: 7px; margin-right: 8px; margin-bottom: 9px; margin-left: 10px; " +
	"padding-top: 11px; padding-right: 12px; padding-bottom: 13px; padding-left: 14px; " +
	"border-top: 15px; border-right: 16px; border-bottom: 17px; border-left: 18px; " +
	"flex-direction: column; flex-wrap: wrap; flex-basis: 19px; flex-grow: 20; flex-shrink: 21; order: 22; " +
	"justify-content: end; align-items: center; align-self: start; text-align: right; white-space: pre; line-height: 23px; overflow: hidden"

func wholeStyle() api.Style {
	px := func(n int64) api.Len { return fix(64 * n) }
	return api.Style{
		Display: 0, Dir: 2, Wrap: 1, Justify: 1, Items: 2, Self: 1, Align: 1, White: 2, Over: 1,
		Width: px(1), Height: px(2), MinW: px(3), MinH: px(4), MaxW: px(5), MaxH: px(6), Basis: px(19),
		Margin: [4]api.Len{px(7), px(8), px(9), px(10)},
		Pad:    [4]int64{704, 768, 832, 896},
		Border: [4]int64{960, 1024, 1088, 1152},
		Grow:   20, Shrink: 21, Order: 22, Line: 1472,
	}
}

// untold is Decls that no text tells.
func untold() []api.Decl {
	return []api.Decl{
		{}, {Prop: -1}, {Prop: 33}, {Prop: 1, Word: 4}, {Prop: 1, Word: -1}, {Prop: 1, Len: fix(1)}, {Prop: 2, Len: fix(-1)},
		{Prop: 29, Word: 3}, {Prop: 30, Word: 3}, {Prop: 30, Word: -1}, {Prop: 29, Word: 1, Len: fix(1)},
		{Prop: 31}, {Prop: 31, Len: fix(-1)}, {Prop: 31, Len: api.Len{Kind: api.LPct, N: 5}}, {Prop: 31, Word: 1, Len: fix(5)},
	}
}

// 5.1

func TestOwnHandsDownThree(t *testing.T) {
	for _, x := range []struct {
		name         string
		parent, want api.Style
	}{
		{"the initial one", initial(), initial()},
		{"another in each field", unlike(), with(func(s *api.Style) { s.Align, s.White, s.Line = 2, 1, 22 })},
		{"one with all told", wholeStyle(), with(func(s *api.Style) { s.Align, s.White, s.Line = 1, 2, 1472 })},
		{"the zero one", api.Style{}, with(func(s *api.Style) { s.Line = 0 })},
		{"text-align", with(func(s *api.Style) { s.Align = 1 }), with(func(s *api.Style) { s.Align = 1 })},
		{"white-space", with(func(s *api.Style) { s.White = 2 }), with(func(s *api.Style) { s.White = 2 })},
		{"line-height", with(func(s *api.Style) { s.Line = 7 }), with(func(s *api.Style) { s.Line = 7 })},
		{"line-height 0", with(func(s *api.Style) { s.Line = 0 }), with(func(s *api.Style) { s.Line = 0 })},
		{"display none", with(func(s *api.Style) { s.Display = 3 }), initial()},
	} {
		for _, l := range [][]api.Decl{nil, {}} {
			if got := heir.Own(x.parent, l); got != x.want {
				t.Errorf("Own(%s, none): %v, not %v", x.name, got, x.want)
			}
		}
	}
}

// Each property by itself, so that none is handed down beside the three.
func TestOwnHandsDownNoOther(t *testing.T) {
	for _, d := range told(t, whole) {
		parent := decl.Style(initial(), []api.Decl{d})
		if parent == initial() {
			t.Fatalf("property %d: nothing is told", d.Prop)
		}
		got := heir.Own(parent, nil)
		want := initial()
		if isHanded(d.Prop) {
			want = parent
		}
		if got != want {
			t.Errorf("property %d: a kid has %v", d.Prop, got)
		}
	}
}

func TestOwnLaysItsOwnOver(t *testing.T) {
	for _, x := range []struct {
		s    string
		turn func(s *api.Style)
	}{
		{"", func(s *api.Style) {}},
		{"text-align: left", func(s *api.Style) { s.Align = 0 }},
		{"text-align: right", func(s *api.Style) { s.Align = 1 }},
		{"white-space: normal", func(s *api.Style) { s.White = 0 }},
		{"white-space: pre", func(s *api.Style) { s.White = 2 }},
		{"line-height: 0", func(s *api.Style) { s.Line = 0 }},
		{"line-height: 20px", func(s *api.Style) { s.Line = 1280 }},
		{"line-height: 1px; line-height: 2px", func(s *api.Style) { s.Line = 128 }},
		{"white-space: pre; white-space: normal", func(s *api.Style) { s.White = 0 }},
		{"text-align: left; white-space: normal; line-height: 3px", func(s *api.Style) { s.Align, s.White, s.Line = 0, 0, 192 }},
		{"display: block", func(s *api.Style) { s.Display = 0 }},
		{"display: inline", func(s *api.Style) {}},
		{"display: flex", func(s *api.Style) { s.Display = 2 }},
		{"display: none", func(s *api.Style) { s.Display = 3 }},
		{"width: 50%; order: -3", func(s *api.Style) { s.Width, s.Order = api.Len{Kind: api.LPct, N: 5000}, -3 }},
		{"margin-left: auto; padding-top: 1px", func(s *api.Style) { s.Margin[3], s.Pad[0] = api.Len{}, 64 }},
		{whole, func(s *api.Style) { *s = wholeStyle() }},
	} {
		want := with(func(s *api.Style) { s.Align, s.White, s.Line = 2, 1, 22 })
		x.turn(&want)
		if got := heir.Own(unlike(), told(t, x.s)); got != want {
			t.Errorf("Own(.., %q): %v, not %v", x.s, got, want)
		}
	}
}

func TestWhatNoTextTellsSaysNothing(t *testing.T) {
	handed := heir.Own(unlike(), nil)
	root := heir.Root(nil)
	for _, d := range untold() {
		if got := heir.Own(unlike(), []api.Decl{d}); got != handed {
			t.Errorf("Own(.., %v): %v", d, got)
		}
		if got := heir.Root([]api.Decl{d}); got != root {
			t.Errorf("Root(%v): %v", d, got)
		}
	}
	among := slices.Concat(untold(), told(t, "line-height: 5px; display: flex"), untold())
	handed.Line, handed.Display = 320, 2
	if got := heir.Own(unlike(), among); got != handed {
		t.Error("Own of what is among what no text tells:", got)
	}
}

func TestRoot(t *testing.T) {
	for _, x := range []struct {
		s    string
		turn func(s *api.Style)
	}{
		{"", func(s *api.Style) { s.Display = 0 }},
		{"display: block", func(s *api.Style) { s.Display = 0 }},
		{"display: inline", func(s *api.Style) { s.Display = 0 }},
		{"display: flex", func(s *api.Style) { s.Display = 2 }},
		{"display: none", func(s *api.Style) { s.Display = 0 }},
		{"display: flex; display: none", func(s *api.Style) { s.Display = 0 }},
		{"display: flex; display: inline", func(s *api.Style) { s.Display = 0 }},
		{"display: none; display: flex", func(s *api.Style) { s.Display = 2 }},
		{"width: 1px", func(s *api.Style) { s.Display, s.Width = 0, fix(64) }},
		{"text-align: center; line-height: 0", func(s *api.Style) { s.Display, s.Align, s.Line = 0, 2, 0 }},
		{"display: flex; white-space: nowrap", func(s *api.Style) { s.Display, s.White = 2, 1 }},
		{whole, func(s *api.Style) { *s = wholeStyle() }},
	} {
		if got, want := heir.Root(told(t, x.s)), with(x.turn); got != want {
			t.Errorf("Root(%q): %v, not %v", x.s, got, want)
		}
	}
	if got, want := heir.Root([]api.Decl{}), heir.Root(nil); got != want {
		t.Errorf("Root of an empty list: %v, of nil: %v", got, want)
	}
}

func TestAnonymous(t *testing.T) {
	for display := range 4 {
		parent := unlike()
		parent.Display = display
		want := with(func(s *api.Style) { s.Display, s.Align, s.White, s.Line = 0, 2, 1, 22 })
		if got := heir.Anonymous(parent); got != want {
			t.Errorf("Anonymous in display %d: %v, not %v", display, got, want)
		}
	}
	if got, want := heir.Anonymous(initial()), with(func(s *api.Style) { s.Display = 0 }); got != want {
		t.Errorf("Anonymous(Initial): %v, not %v", got, want)
	}
	if got, want := heir.Anonymous(api.Style{}), with(func(s *api.Style) { s.Display, s.Line = 0, 0 }); got != want {
		t.Errorf("Anonymous of the zero style: %v, not %v", got, want)
	}
}

// 5.2

// chain is some elements, each a kid of the one ahead, by what they tell.
func chain(r *rand.Rand, all []api.Decl) [][]api.Decl {
	l := make([][]api.Decl, 1+r.Intn(6))
	for i := range l {
		for range r.Intn(8) {
			d := all[r.Intn(len(all))]
			l[i] = append(l[i], d)
		}
	}
	return l
}

// last answers what the last of l tells of a property, if one does.
func last(l []api.Decl, prop int) (api.Decl, bool) {
	for _, d := range slices.Backward(l) {
		if d.Prop == prop {
			return d, true
		}
	}
	return api.Decl{}, false
}

// isHanded answers whether a property is one of the three.
func isHanded(prop int) bool { return 29 <= prop && prop <= 31 }

// nearest answers what is told of a property by the last of a chain or, if it
// is one of the three, by the last one that tells it.
func nearest(l [][]api.Decl, prop int) (api.Decl, bool) {
	if isHanded(prop) {
		return last(slices.Concat(l...), prop)
	}
	return last(l[len(l)-1], prop)
}

// said is the reference: the style of a chain's last one, property by property.
func said(l [][]api.Decl) api.Style {
	s := initial()
	for prop := 1; prop <= 32; prop++ {
		if d, ok := nearest(l, prop); ok {
			s = decl.Style(s, []api.Decl{d})
		}
	}
	if len(l) == 1 && (s.Display == 1 || s.Display == 3) {
		s.Display = 0
	}
	return s
}

func TestEachHasItsOwnOrItsParents(t *testing.T) {
	all := append(told(t, whole), told(t, "text-align: left; text-align: center; white-space: normal; white-space: nowrap; "+
		"line-height: 0; line-height: 20px; line-height: 0.02px; display: none; display: inline; display: flex; width: auto; order: 0; overflow: visible")...)
	// The three more than once, so that most chains tell them.
	all = append(all, all[28:31]...)
	r := rand.New(rand.NewSource(52))
	for range 20000 {
		l := chain(r, all)
		s := heir.Root(l[0])
		for _, own := range l[1:] {
			s = heir.Own(s, own)
		}
		if want := said(l); s != want {
			t.Fatalf("%v: %v, not %v", l, s, want)
		}
		want := said(append(l, nil, nil))
		want.Display = 0
		if got := heir.Anonymous(s); got != want {
			t.Fatalf("%v, then nobody's: %v, not %v", l, got, want)
		}
	}
}

// What was asked ahead doesn't hang on what is asked behind.
func TestWhatIsHandedInStays(t *testing.T) {
	room := append(told(t, whole), untold()...)
	l := room[:5]
	was, parent := slices.Clone(room), unlike()
	first, root := heir.Own(parent, l), heir.Root(l)
	heir.Anonymous(parent)
	heir.Own(wholeStyle(), room)
	heir.Root(room)
	if !slices.Equal(room, was) || parent != unlike() {
		t.Error("what is handed in was changed")
	}
	if heir.Own(parent, l) != first || heir.Root(l) != root {
		t.Error("another answer to the same call")
	}
	clear(l)
	if heir.Own(parent, was[:5]) != first || heir.Root(was[:5]) != root {
		t.Error("the list is kept")
	}
}

// 5.3

func TestNoCallPanics(t *testing.T) {
	defer func() {
		if r := recover(); r != nil {
			t.Error("a call panicked:", r)
		}
	}()
	wild := []int64{0, 1, -1, 2, 3, 4, 33, 1280, 6400001, 1 << 30, 1 << 62, math.MaxInt64, math.MinInt64, math.MinInt64 + 1}
	for _, n := range wild {
		for _, m := range wild {
			far := api.Len{Kind: int(m), N: n}
			parent := api.Style{Display: int(n), Items: int(m), Align: int(n), White: int(m), Line: n, Width: far, Margin: [4]api.Len{far, far, far, far}, Pad: [4]int64{n, m, n, m}, Order: int(n)}
			want := with(func(s *api.Style) { s.Display, s.Align, s.White, s.Line = 0, int(n), int(m), n })
			if got := heir.Anonymous(parent); got != want {
				t.Errorf("Anonymous(%v): %v", parent, got)
			}
			for prop := -2; prop < 36; prop++ {
				l := []api.Decl{{Prop: prop, Word: int(n), Len: far}, {Prop: int(n), Word: prop, Len: far}}
				heir.Own(parent, l)
				heir.Root(l)
			}
		}
	}
	long := make([]api.Decl, 1000000)
	for i := range long {
		long[i] = api.Decl{Prop: 25, Word: i % 1000}
	}
	if got := heir.Own(unlike(), long); got.Order != 999 || got.Line != 22 {
		t.Error("Own of a long list:", got)
	}
	if got := heir.Root(long); got.Order != 999 || got.Display != 0 {
		t.Error("Root of a long list:", got)
	}
}
