package anon_test

import (
	"fmt"
	"math"
	"math/rand"
	"slices"
	"strings"
	"testing"

	"quoin/anon"
	"quoin/api"
	"quoin/decl"
	"quoin/edit"
	"quoin/heir"
	"quoin/tree"
)

// Trees are written so: an element is a letter with its kids in brackets behind
// it, a text stands in quotes. Ids are given in the order of reading, from 0 of
// the root.
func declared(letter byte) string {
	switch letter {
	case 'b':
		return "display: block"
	case 'i':
		return "display: inline"
	case 'f':
		return "display: flex"
	case 'n':
		return "display: none"
	case 'p':
		return "display: block; white-space: pre"
	case 'q':
		return "white-space: pre"
	case 'g':
		return "display: flex; white-space: pre"
	case 'w':
		return "display: block; white-space: nowrap"
	case 'v':
		return "white-space: nowrap"
	case 'm':
		return "display: block; white-space: normal"
	case 'u':
		return "white-space: normal"
	}
	return ""
}

// read is the nodes that s writes.
func read(t testing.TB, s string) []api.Node {
	t.Helper()
	var l []api.Node
	above := []int{-1}
	for i := 0; i < len(s); i++ {
		n := api.Node{ID: len(l), Parent: above[len(above)-1]}
		switch s[i] {
		case ' ', '(':
			continue
		case ')':
			above = above[:len(above)-1]
			continue
		case '\'':
			to := strings.IndexByte(s[i+1:], '\'')
			n.Text, n.Data = true, s[i+1:i+1+to]
			i += to + 1
		default:
			n.Style = told(t, declared(s[i]))
			if i+1 < len(s) && s[i+1] == '(' {
				above = append(above, n.ID)
			}
		}
		l = append(l, n)
	}
	return l
}

func told(t testing.TB, s string) []api.Decl {
	t.Helper()
	l, at, e := decl.Parse(s)
	if e != api.OK {
		t.Fatalf("Parse(%q): %d %v", s, at, e)
	}
	return l
}

func made(t testing.TB, l []api.Node) *tree.Tree {
	t.Helper()
	x, ok := tree.Of(api.MaxNodes, l)
	if !ok {
		t.Fatalf("Of(%v): false", l)
	}
	return x
}

func element(id, parent int, l ...api.Decl) api.Node {
	return api.Node{ID: id, Parent: parent, Style: l}
}

func text(id, parent int, s string) api.Node {
	return api.Node{ID: id, Parent: parent, Text: true, Data: s}
}

// show is a box without its styles: its kind and its node, its runs, and its
// kids in brackets.
func show(b api.Box) string {
	s := fmt.Sprint(b.Kind)
	if b.Kind >= 1 && b.Kind <= 3 {
		s = "?BLF"[b.Kind : b.Kind+1]
	}
	s += fmt.Sprint(b.Node)
	for _, r := range b.Runs {
		s += fmt.Sprintf(" %d'%s'", r.Node, r.Text)
	}
	if len(b.Kids) > 0 {
		var kids []string
		for _, k := range b.Kids {
			kids = append(kids, show(k))
		}
		s += "(" + strings.Join(kids, ", ") + ")"
	}
	return s
}

// all is b and all boxes in it.
func all(b api.Box) []api.Box {
	l := []api.Box{b}
	for _, k := range b.Kids {
		l = append(l, all(k)...)
	}
	return l
}

// of is the box in b of a node.
func of(t *testing.T, b api.Box, id int) api.Box {
	t.Helper()
	l := all(b)
	at := slices.IndexFunc(l, func(b api.Box) bool { return b.Node == id })
	if at < 0 {
		t.Fatalf("%s has no box of %d", show(b), id)
	}
	return l[at]
}

// like answers whether a and b are the same boxes.
func like(a, b api.Box) bool {
	return a.Kind == b.Kind && a.Node == b.Node && a.Style == b.Style &&
		slices.Equal(a.Runs, b.Runs) && slices.EqualFunc(a.Kids, b.Kids, like)
}

// book is the reference: a tree as the list that Say answers, in which all is
// looked up.
type book []api.Node

func (b book) node(id int) api.Node {
	return b[slices.IndexFunc(b, func(n api.Node) bool { return n.ID == id })]
}

func (b book) kids(id int) []api.Node {
	var l []api.Node
	for _, n := range b {
		if n.Parent == id {
			l = append(l, n)
		}
	}
	return l
}

// line is a node and all that stand above it.
func (b book) line(id int) []int {
	var l []int
	for ; id != -1; id = b.node(id).Parent {
		l = append(l, id)
	}
	return l
}

// style is an element's: 8.1's sentence.
func (b book) style(id int) api.Style {
	n := b.node(id)
	if id == 0 {
		return heir.Root(n.Style)
	}
	return heir.Own(b.style(n.Parent), n.Style)
}

func (b book) isNone(n api.Node) bool {
	return !n.Text && b.style(n.ID).Display == 3
}

func (b book) isInline(n api.Node) bool {
	return n.Text || b.style(n.ID).Display == 1
}

// runs is 8.3: of all texts, those that show in one of the parts.
func (b book) runs(parts []api.Node) []api.Run {
	var l []api.Run
	for _, n := range b {
		line := b.line(n.ID)
		at := slices.IndexFunc(line, func(id int) bool {
			return slices.ContainsFunc(parts, func(p api.Node) bool { return p.ID == id })
		})
		if !n.Text || n.Data == "" || at < 0 {
			continue
		}
		if !slices.ContainsFunc(line[:at+1], func(id int) bool { return b.isNone(b.node(id)) }) {
			s := b.style(n.Parent)
			l = append(l, api.Run{Node: n.ID, Text: n.Data, White: s.White, Line: s.Line})
		}
	}
	return l
}

// lines is the boxes of nobody for a row: one or none.
func (b book) lines(of int, row []api.Node) []api.Box {
	l := b.runs(row)
	for _, r := range l {
		if r.White == 2 || strings.Trim(r.Text, " \t\n\r") != "" {
			return []api.Box{{Kind: 2, Node: -1, Style: heir.Anonymous(b.style(of)), Runs: l}}
		}
	}
	return nil
}

// rows parts l into the longest rows of those that may stand side by side, and
// each of the others by itself.
func rows(l []api.Node, isSide func(n api.Node) bool) [][]api.Node {
	var all [][]api.Node
	for i, n := range l {
		if i > 0 && isSide(n) && isSide(l[i-1]) {
			all[len(all)-1] = append(all[len(all)-1], n)
		} else {
			all = append(all, []api.Node{n})
		}
	}
	return all
}

// box is 8.2, sentence by sentence; an item is an element in a flex one.
func (b book) box(id int, item bool) api.Box {
	x := api.Box{Node: id, Style: b.style(id)}
	if item && x.Style.Display == 1 {
		x.Style.Display = 0
	}
	if x.Style.Display == 2 {
		x.Kind = 3
		for _, row := range rows(b.kids(id), func(n api.Node) bool { return n.Text }) {
			if row[0].Text {
				x.Kids = append(x.Kids, b.lines(id, row)...)
			} else if !b.isNone(row[0]) {
				x.Kids = append(x.Kids, b.box(row[0].ID, true))
			}
		}
		return x
	}
	parts := slices.DeleteFunc(b.kids(id), b.isNone)
	if !slices.ContainsFunc(parts, func(n api.Node) bool { return !b.isInline(n) }) {
		x.Kind, x.Runs = 2, b.runs(parts)
		return x
	}
	x.Kind = 1
	for _, row := range rows(parts, b.isInline) {
		if b.isInline(row[0]) {
			x.Kids = append(x.Kids, b.lines(id, row)...)
		} else {
			x.Kids = append(x.Kids, b.box(row[0].ID, false))
		}
	}
	return x
}

// agrees tells where Boxes answers otherwise than the book.
func agrees(t *testing.T, x *tree.Tree) {
	t.Helper()
	l := book(x.Say())
	got, want := anon.Boxes(x), l.box(0, false)
	if !like(got, want) {
		t.Fatalf("%v:\n%s, not\n%s\n(%v, not\n%v)", l, show(got), show(want), got, want)
	}
}

// 8.1

// initial is chapter 4's, written out once more, but for its display.
func initial(display int) api.Style {
	none := api.Len{Kind: api.LFix}
	return api.Style{
		Display: display, Items: 3, Shrink: 1, Line: 1280, MinW: none, MinH: none,
		Margin: [4]api.Len{none, none, none, none},
	}
}

// whole is a text that tells each property but display, each as something else
// than an element has of which nothing is told.
const whole = "width: 1px; height: 2px; min-width: 3px; min-height: 4px; max-width: 5px; max-height: 6px; " +
	"margin-top: 7px; margin-right: 8px; margin-bottom: 9px; margin-left: 10px; " +
	"padding-top: 11px; padding-right: 12px; padding-bottom: 13px; padding-left: 14px; " +
	"border-top: 15px; border-right: 16px; border-bottom: 17px; border-left: 18px; " +
	"flex-direction: column; flex-wrap: wrap; flex-basis: 19px; flex-grow: 20; flex-shrink: 21; order: 22; " +
	"justify-content: end; align-items: center; align-self: start; text-align: right; white-space: pre; line-height: 23px; overflow: hidden"

func wholeStyle(display int) api.Style {
	px := func(n int64) api.Len { return api.Len{Kind: api.LFix, N: 64 * n} }
	return api.Style{
		Display: display, Dir: 2, Wrap: 1, Justify: 1, Items: 2, Self: 1, Align: 1, White: 2, Over: 1,
		Width: px(1), Height: px(2), MinW: px(3), MinH: px(4), MaxW: px(5), MaxH: px(6), Basis: px(19),
		Margin: [4]api.Len{px(7), px(8), px(9), px(10)},
		Pad:    [4]int64{704, 768, 832, 896},
		Border: [4]int64{960, 1024, 1088, 1152},
		Grow:   20, Shrink: 21, Order: 22, Line: 1472,
	}
}

// handed is what stands in one with wholeStyle and tells nothing.
func handed(display int) api.Style {
	s := initial(display)
	s.Align, s.White, s.Line = 1, 2, 1472
	return s
}

func TestBoxesHaveTheirStyles(t *testing.T) {
	said := told(t, whole)
	with := func(display int) []api.Decl {
		return append([]api.Decl{{Prop: 1, Word: display}}, said...)
	}
	for _, c := range []struct {
		name string
		l    []api.Node
		// want is the styles of all boxes, in their order.
		want []api.Style
	}{
		{"the root alone", []api.Node{element(0, -1)}, []api.Style{initial(0)}},
		{"a root that tells all", []api.Node{element(0, -1, said...)}, []api.Style{wholeStyle(0)}},
		{"a root that is none", []api.Node{element(0, -1, with(3)...)}, []api.Style{wholeStyle(0)}},
		{"a root that is flex", []api.Node{element(0, -1, with(2)...)}, []api.Style{wholeStyle(2)}},
		{"a block that tells all", []api.Node{element(0, -1), element(1, 0, with(0)...)}, []api.Style{initial(0), wholeStyle(0)}},
		{"a block that tells its display", []api.Node{element(0, -1, said...), element(1, 0, with(0)[0])}, []api.Style{wholeStyle(0), handed(0)}},
		{"flex in a block", []api.Node{element(0, -1, said...), element(1, 0, with(2)[0])}, []api.Style{wholeStyle(0), handed(2)}},
		{"lines of nobody in a block", []api.Node{element(0, -1, said...), text(2, 0, "x"), element(1, 0, with(0)[0])}, []api.Style{wholeStyle(0), handed(0), handed(0)}},
		{"lines of nobody in flex", []api.Node{element(0, -1, with(2)...), text(2, 0, "x")}, []api.Style{wholeStyle(2), handed(0)}},
		{"an item that tells nothing", []api.Node{element(0, -1, with(2)...), element(1, 0)}, []api.Style{wholeStyle(2), handed(0)}},
		{"an inline item that tells all", []api.Node{element(0, -1, with(2)[0]), element(1, 0, with(1)...)}, []api.Style{initial(2), wholeStyle(0)}},
		{"a block item", []api.Node{element(0, -1, with(2)[0]), element(1, 0, with(0)...)}, []api.Style{initial(2), wholeStyle(0)}},
		{"a flex item", []api.Node{element(0, -1, with(2)[0]), element(1, 0, with(2)...)}, []api.Style{initial(2), wholeStyle(2)}},
		{"what an item hands down", []api.Node{element(0, -1, with(2)...), element(1, 0), element(2, 1, with(0)[0]), text(3, 1, "x")}, []api.Style{wholeStyle(2), handed(0), handed(0), handed(0)}},
		{"what two hand down", []api.Node{element(0, -1, said...), element(1, 0, with(0)[0]), element(2, 1, with(2)[0]), text(3, 2, "x")}, []api.Style{wholeStyle(0), handed(0), handed(2), handed(0)}},
	} {
		var got []api.Style
		for _, b := range all(anon.Boxes(made(t, c.l))) {
			got = append(got, b.Style)
		}
		if !slices.Equal(got, c.want) {
			t.Errorf("%s: %v, not\n%v", c.name, got, c.want)
		}
	}
}

// Each field that isn't told has its zero value: lines have no kids, others no
// runs.
func TestABoxHasWhatItsKindHas(t *testing.T) {
	for _, b := range all(anon.Boxes(made(t, read(t, "b('a' b('b') f('c' i('d')) ' ' i)")))) {
		if b.Kind == api.BLines && len(b.Kids) != 0 || b.Kind != api.BLines && len(b.Runs) != 0 {
			t.Errorf("%s has both: %v", show(b), b)
		}
	}
}

func TestBlankOfEachByte(t *testing.T) {
	for c := range 256 {
		s := string([]byte{byte(c)})
		for _, white := range []int{math.MinInt, -2, -1, 0, 1, 2, 3, 4, 256, 1 << 32, math.MaxInt} {
			falls := white == 0 || white == 1
			is := falls && (c == 32 || c == 9 || c == 10 || c == 13)
			if got := anon.Blank(s, white); got != is {
				t.Errorf("Blank(%q, %d): %v", s, white, got)
			}
			// One byte of others is enough, wherever it stands.
			for _, around := range []string{" ", " \t", "\n\r \t", strings.Repeat(" ", 1000)} {
				for _, s := range []string{s + around, around + s, around + s + around} {
					if got := anon.Blank(s, white); got != is {
						t.Errorf("Blank(%q, %d): %v", s, white, got)
					}
				}
			}
			if !anon.Blank("", white) {
				t.Errorf("Blank of no bytes, %d: false", white)
			}
		}
	}
}

// What is a blank in other scripts is bytes of others here.
func TestBlankOfRunes(t *testing.T) {
	for _, s := range []string{"\u00a0", "\u0085", "\u2003", "\u3000", "\ufeff", " \u00a0 ", "\xa0", "\x85", "\xff ", "\x00", "\v", "\f", "\u0120", "\u2020"} {
		for white := range 2 {
			if anon.Blank(s, white) {
				t.Errorf("Blank(%q, %d): true", s, white)
			}
		}
	}
}

// 8.2

func TestBoxesInTheFlow(t *testing.T) {
	for _, c := range []struct{ in, want string }{
		// No part is a block.
		{"b", "L0"},
		{"i", "L0"},
		{"n", "L0"},
		{"n('a' b('b'))", "B0(L-1 1'a', L2 3'b')"},
		{"b('')", "L0"},
		{"b(' ')", "L0 1' '"},
		{"b('a')", "L0 1'a'"},
		{"b('a' '' 'b')", "L0 1'a' 3'b'"},
		{"b('a' i('b') 'c')", "L0 1'a' 3'b' 4'c'"},
		{"b(i i)", "L0"},
		{"b('a' n('b') 'c')", "L0 1'a' 4'c'"},
		{"b(n)", "L0"},
		{"b(n(b('a')))", "L0"},
		{"b(' ' i('\t') ' ')", "L0 1' ' 3'\t' 4' '"},
		// One is.
		{"b(b)", "B0(L1)"},
		{"b(f)", "B0(F1)"},
		{"i(b)", "B0(L1)"},
		{"b(b b)", "B0(L1, L2)"},
		{"b(b(b(b('a'))))", "B0(B1(B2(L3 4'a')))"},
		{"b('a' b)", "B0(L-1 1'a', L2)"},
		{"b(b 'a')", "B0(L1, L-1 2'a')"},
		{"b('a' b 'b')", "B0(L-1 1'a', L2, L-1 3'b')"},
		{"b('a' 'b' b 'c' i('d') f('e'))", "B0(L-1 1'a' 2'b', L3, L-1 4'c' 6'd', F7(L-1 8'e'))"},
		{"b(i('a') b i('b' i('c')) b)", "B0(L-1 2'a', L3, L-1 5'b' 7'c', L8)"},
		// A row may show nothing.
		{"b(' ' b)", "B0(L2)"},
		{"b(b ' \t\n\r')", "B0(L1)"},
		{"b(b '' b)", "B0(L1, L3)"},
		{"b(b i b)", "B0(L1, L3)"},
		{"b(b ' ' i('\n') i b)", "B0(L1, L6)"},
		{"b(b ' ' 'a' b)", "B0(L1, L-1 2' ' 3'a', L4)"},
		{"b(b 'a' ' ' b)", "B0(L1, L-1 2'a' 3' ', L4)"},
		{"b(b ' ' i('' 'a') ' ')", "B0(L1, L-1 2' ' 5'a' 6' ')"},
		{"b(b i(n('a')))", "B0(L1)"},
		{"b(b ' ' b 'a' b ' ')", "B0(L1, L3, L-1 4'a', L5)"},
		// By the White of each.
		{"p(b ' ')", "B0(L1, L-1 2' ')"},
		{"p(b '')", "B0(L1)"},
		{"w(b ' ')", "B0(L1)"},
		{"b(b q(' '))", "B0(L1, L-1 3' ')"},
		{"b(b v(' '))", "B0(L1)"},
		{"p(b u(' '))", "B0(L1)"},
		{"p(b v(' '))", "B0(L1)"},
		{"p(b u(' ') '\n' u(' '))", "B0(L1, L-1 3' ' 4'\n' 6' ')"},
		{"b(b ' ' q(' ') ' ')", "B0(L1, L-1 2' ' 4' ' 5' ')"},
		{"p(b m('a' b ' '))", "B0(L1, B2(L-1 3'a', L4))"},
		// What is none parts no row.
		{"b('a' n 'b' b)", "B0(L-1 1'a' 3'b', L4)"},
		{"b(' ' n('x') 'b' b)", "B0(L-1 1' ' 4'b', L5)"},
		{"b(b 'a' n n 'b' n i('c'))", "B0(L1, L-1 2'a' 5'b' 8'c')"},
		{"b(b n(b) b)", "B0(L1, L4)"},
		{"b(n b n)", "B0(L2)"},
		// What stands in a line has no box.
		{"b(i(b('a')))", "L0 3'a'"},
		{"b(i(f('a' i('b') n('c'))))", "L0 3'a' 5'b'"},
		{"b(i(b) b(i(b('a'))))", "B0(L3 6'a')"},
	} {
		if got := show(anon.Boxes(made(t, read(t, c.in)))); got != c.want {
			t.Errorf("%s: %s, not %s", c.in, got, c.want)
		}
	}
}

func TestBoxesOfFlex(t *testing.T) {
	for _, c := range []struct{ in, want string }{
		{"f", "F0"},
		{"f('')", "F0"},
		{"f(' ')", "F0"},
		{"f('' '' ' ')", "F0"},
		{"f(n)", "F0"},
		{"f('a')", "F0(L-1 1'a')"},
		{"f('a' '' ' ' 'b')", "F0(L-1 1'a' 3' ' 4'b')"},
		{"f(' ' 'a')", "F0(L-1 1' ' 2'a')"},
		{"f(b)", "F0(L1)"},
		{"f(i)", "F0(L1)"},
		{"f(f)", "F0(F1)"},
		{"f(i i b f)", "F0(L1, L2, L3, F4)"},
		{"f(i('a' i('b') b('c')))", "F0(B1(L-1 2'a' 4'b', L5 6'c'))"},
		{"f(i(i(b('a'))))", "F0(L1 4'a')"},
		{"f('a' i('b') 'c')", "F0(L-1 1'a', L2 3'b', L-1 4'c')"},
		{"f('a' i 'c')", "F0(L-1 1'a', L2, L-1 3'c')"},
		{"f(' ' i ' ' i '\t')", "F0(L2, L4)"},
		// What is none parts rows.
		{"f('a' n 'b')", "F0(L-1 1'a', L-1 3'b')"},
		{"f('a' n(' ') ' ')", "F0(L-1 1'a')"},
		{"f(' ' n 'b' n ' ')", "F0(L-1 3'b')"},
		{"f(n 'a' 'b' n n 'c' n)", "F0(L-1 2'a' 3'b', L-1 6'c')"},
		{"f(n(b('a')) b n)", "F0(L4)"},
		// By the element's white-space.
		{"g(' ')", "F0(L-1 1' ')"},
		{"g('')", "F0"},
		{"g('' ' ' '' b '\n')", "F0(L-1 2' ', L4, L-1 5'\n')"},
		{"b(g(' ') f(' '))", "B0(F1(L-1 2' '), F3)"},
		{"p(f(' '))", "B0(F1(L-1 2' '))"},
		{"f(q(' ') ' ')", "F0(L1 2' ')"},
		// Flex in others, and others in it.
		{"b('a' f('b' b) 'c')", "B0(L-1 1'a', F2(L-1 3'b', L4), L-1 5'c')"},
		{"f(f(f('a')))", "F0(F1(F2(L-1 3'a')))"},
		{"f(b(f(b(i('a')))))", "F0(B1(F2(L3 5'a')))"},
		{"f(b(b ' '))", "F0(B1(L2))"},
	} {
		if got := show(anon.Boxes(made(t, read(t, c.in)))); got != c.want {
			t.Errorf("%s: %s, not %s", c.in, got, c.want)
		}
	}
}

// Kids stand in the tree's order, not in that of ids or of their told order.
func TestKidsStandInTheirOrder(t *testing.T) {
	for _, display := range []int{0, 2} {
		block := api.Decl{Prop: 1, Word: 0}
		b := anon.Boxes(made(t, []api.Node{
			element(0, -1, api.Decl{Prop: 1, Word: display}),
			element(900, 0, block, api.Decl{Prop: 25, Word: 1000}),
			text(7, 0, "seven"), text(3, 0, "three"),
			element(1000, 0, block, api.Decl{Prop: 25, Word: -1000}),
			element(1, 0, block),
		}))
		want := "0(L900, L-1 7'seven' 3'three', L1000, L1)"
		if got := show(b); got[1:] != want {
			t.Errorf("display %d: %s, not %s", display, got, want)
		}
	}
}

// 8.3

func TestRunsHaveWhatTheirElementHas(t *testing.T) {
	styled := func(id, parent int, s string) api.Node { return element(id, parent, told(t, s)...) }
	b := anon.Boxes(made(t, []api.Node{
		styled(0, -1, "line-height: 1px"),
		text(1, 0, "a"),
		styled(2, 0, "white-space: nowrap"),
		text(3, 2, "b"),
		styled(4, 2, "display: block; line-height: 2px"),
		text(5, 4, "c"),
		styled(6, 4, "display: none; white-space: pre"),
		text(7, 6, "?"),
		styled(8, 4, "display: flex; white-space: pre"),
		text(9, 8, " "),
		text(10, 8, ""),
		styled(11, 8, "white-space: normal; line-height: 0"),
		text(12, 11, "d"),
		text(13, 4, "e"),
		text(14, 2, "f"),
		text(15, 0, "g\x00\xff"),
	}))
	want := []api.Run{
		{Node: 1, Text: "a", White: 0, Line: 64},
		{Node: 3, Text: "b", White: 1, Line: 64},
		{Node: 5, Text: "c", White: 1, Line: 128},
		{Node: 9, Text: " ", White: 2, Line: 128},
		{Node: 12, Text: "d", White: 0, Line: 0},
		{Node: 13, Text: "e", White: 1, Line: 128},
		{Node: 14, Text: "f", White: 1, Line: 64},
		{Node: 15, Text: "g\x00\xff", White: 0, Line: 64},
	}
	if b.Kind != api.BLines || !slices.Equal(b.Runs, want) {
		t.Errorf("%v, not\n%v", b, want)
	}
}

// Beside a block, and in a flex element, the runs of nobody's lines have it too.
func TestRunsOfNobodyHaveWhatTheirElementHas(t *testing.T) {
	for _, root := range []string{"display: block", "display: flex"} {
		b := anon.Boxes(made(t, []api.Node{
			element(0, -1, told(t, root+"; white-space: nowrap; line-height: 3px")...),
			text(1, 0, "a"),
			element(2, 0, told(t, "display: block; white-space: pre; line-height: 4px")...),
			text(3, 2, "b"),
			text(4, 0, "c"),
		}))
		var got []api.Run
		for _, b := range all(b) {
			got = append(got, b.Runs...)
		}
		want := []api.Run{{Node: 1, Text: "a", White: 1, Line: 192}, {Node: 3, Text: "b", White: 2, Line: 256}, {Node: 4, Text: "c", White: 1, Line: 192}}
		if !slices.Equal(got, want) {
			t.Errorf("%s: %v, not %v", root, got, want)
		}
	}
}

// 8.2 and 8.3, held against the book

// shapes is all ways in which so many nodes can stand below others: of each, how
// many stand above it, but the root.
func shapes(nodes int) [][]int {
	if nodes == 0 {
		return [][]int{nil}
	}
	var l [][]int
	for _, ahead := range shapes(nodes - 1) {
		most := 0
		if len(ahead) > 0 {
			most = ahead[len(ahead)-1] + 1
		}
		for deep := range most + 1 {
			l = append(l, append(slices.Clone(ahead), deep))
		}
	}
	return l
}

// filled is a shape with what the letters write at its places; false where a
// text would have kids.
func filled(t *testing.T, root byte, shape []int, letters []byte) ([]api.Node, bool) {
	l := []api.Node{element(0, -1, told(t, declared(root))...)}
	above := []int{0}
	for i, deep := range shape {
		above = append(above[:deep+1], i+1)
		parent := above[deep]
		if l[parent].Text {
			return nil, false
		}
		switch letters[i] {
		case 'a':
			l = append(l, text(i+1, parent, "a"))
		case '_':
			l = append(l, text(i+1, parent, " "))
		case '-':
			l = append(l, text(i+1, parent, ""))
		default:
			l = append(l, element(i+1, parent, told(t, declared(letters[i]))...))
		}
	}
	return l, true
}

func TestEverySmallTreeIsAsTheBookSays(t *testing.T) {
	const letters = "bifnqa_-"
	trees := 0
	for nodes := range 4 {
		words := [][]byte{nil}
		for range nodes {
			var longer [][]byte
			for _, w := range words {
				for _, c := range []byte(letters) {
					longer = append(longer, append(slices.Clone(w), c))
				}
			}
			words = longer
		}
		for _, shape := range shapes(nodes) {
			for _, w := range words {
				for _, root := range []byte("bifnpg") {
					if l, ok := filled(t, root, shape, w); ok {
						agrees(t, made(t, l))
						trees++
					}
				}
			}
		}
	}
	if trees < 10000 {
		t.Errorf("only %d trees", trees)
	}
}

// Rows of four and five kids, so that each kind of row stands between others.
func TestEveryRowIsAsTheBookSays(t *testing.T) {
	const letters = "bina_"
	for _, root := range []byte("bf") {
		for n := range 5 * 5 * 5 * 5 * 5 {
			var w []byte
			for ; len(w) < 5; n /= 5 {
				w = append(w, letters[n%5])
			}
			l, _ := filled(t, root, []int{0, 0, 0, 0, 0}, w)
			agrees(t, made(t, l))
		}
	}
}

// drawn is a tree of up to so many nodes, with ids in no order.
func drawn(t *testing.T, r *rand.Rand, most int) *tree.Tree {
	t.Helper()
	one := func(l ...string) string { return l[r.Intn(len(l))] }
	styled := func() string {
		s := "display: " + one("block", "inline", "inline", "inline", "flex", "none")
		if r.Intn(3) == 0 {
			s += "; white-space: " + one("normal", "nowrap", "pre")
		}
		if r.Intn(3) == 0 {
			s += "; line-height: " + one("0", "1px", "2.5px") + "; text-align: " + one("right", "center")
		}
		return s
	}
	x := tree.New(most)
	if r.Intn(2) == 0 {
		edit.Do(x, api.Op{Kind: api.OStyle, Text: styled()})
	}
	for range most {
		ids := x.Say()
		op := api.Op{Kind: api.OElement, ID: r.Intn(api.MaxID + 1), At: ids[r.Intn(len(ids))].ID, Before: -1, Text: styled()}
		if kids := x.Kids(op.At); len(kids) > 0 && r.Intn(2) == 0 {
			op.Before = kids[r.Intn(len(kids))]
		}
		if r.Intn(2) == 0 {
			op.Kind, op.Text = api.OText, one("", " ", " ", "\t\n", "a", " b ", "\v", "\u00a0")
		}
		// What can't be done makes the tree a node less.
		_ = edit.Do(x, op)
	}
	return x
}

func TestBoxesAreAsTheBookSays(t *testing.T) {
	r := rand.New(rand.NewSource(8))
	for range 4000 {
		agrees(t, drawn(t, r, 1+r.Intn(40)))
	}
	for range 10 {
		agrees(t, drawn(t, r, 200))
	}
}

// 8.4

// A text shows where it has bytes and nothing above it is none; those that are
// in no run are blanks of which a row says nothing.
func TestEachTextThatShowsIsInOneRun(t *testing.T) {
	r := rand.New(rand.NewSource(84))
	left := 0
	for range 2000 {
		x := drawn(t, r, 1+r.Intn(60))
		l := book(x.Say())
		var runs []api.Run
		for _, b := range all(anon.Boxes(x)) {
			runs = append(runs, b.Runs...)
		}
		for _, want := range l.runs(l.kids(0)) {
			if len(runs) > 0 && runs[0] == want {
				runs = runs[1:]
				continue
			}
			left++
			if !anon.Blank(want.Text, want.White) {
				t.Fatalf("%v: %v is in no run, or not in order", l, want)
			}
		}
		if len(runs) > 0 {
			t.Fatalf("%v: %v are beside what shows", l, runs)
		}
	}
	if left == 0 {
		t.Error("no row showed nothing")
	}
}

// The boxes of elements are those of the tree, each once, in its order.
func TestEachElementHasAtMostOneBox(t *testing.T) {
	r := rand.New(rand.NewSource(85))
	for range 1000 {
		x := drawn(t, r, 1+r.Intn(60))
		say := x.Say()
		at := 0
		for _, b := range all(anon.Boxes(x)) {
			if b.Node == -1 {
				continue
			}
			for at < len(say) && say[at].ID != b.Node {
				at++
			}
			if at == len(say) || say[at].Text {
				t.Fatalf("%v: %d is in no order, or a text", say, b.Node)
			}
			at++
		}
	}
}

// Rule 3 of the document

func TestTheTreeStays(t *testing.T) {
	r := rand.New(rand.NewSource(3))
	for range 200 {
		x := drawn(t, r, 40)
		before := fmt.Sprint(x.Say())
		b := anon.Boxes(x)
		spoil(b)
		if got := fmt.Sprint(x.Say()); got != before {
			t.Fatalf("%s, not %s", got, before)
		}
		agrees(t, x)
	}
}

// spoil writes over all that an answer has.
func spoil(b api.Box) {
	for _, k := range b.Kids {
		spoil(k)
	}
	for i := range b.Runs[:cap(b.Runs)] {
		b.Runs[:cap(b.Runs)][i] = api.Run{Node: -7, Text: "?"}
	}
	for i := range b.Kids[:cap(b.Kids)] {
		b.Kids[:cap(b.Kids)][i] = api.Box{Node: -7}
	}
}

// spoilRoom writes over what is behind all lists of an answer.
func spoilRoom(b api.Box) {
	for i := len(b.Runs); i < cap(b.Runs); i++ {
		b.Runs[:cap(b.Runs)][i] = api.Run{Node: -7, Text: "?"}
	}
	for i := len(b.Kids); i < cap(b.Kids); i++ {
		b.Kids[:cap(b.Kids)][i] = api.Box{Node: -7}
	}
	for _, k := range b.Kids {
		spoilRoom(k)
	}
}

func TestListsOfAnAnswerShareNothing(t *testing.T) {
	r := rand.New(rand.NewSource(33))
	for range 300 {
		x := drawn(t, r, 40)
		a, b := anon.Boxes(x), anon.Boxes(x)
		want := book(x.Say()).box(0, false)
		spoilRoom(a)
		if !like(a, want) {
			t.Fatalf("%s, not %s", show(a), show(want))
		}
		spoil(a)
		if !like(b, want) {
			t.Fatalf("%s, not %s", show(b), show(want))
		}
	}
}

// An answer is of the tree as it was asked.
func TestAnAnswerStays(t *testing.T) {
	x := made(t, read(t, "b('a' b('b') f('c' i('d')))"))
	b := anon.Boxes(x)
	was := show(b)
	if err := edit.Batch(x, []api.Op{
		{Kind: api.OData, ID: 1, Text: "other"},
		{Kind: api.OStyle, ID: 2, Text: "display: none"},
		{Kind: api.ODrop, ID: 4},
	}); err != nil {
		t.Fatal(err)
	}
	if got := show(b); got != was {
		t.Errorf("%s, not %s", got, was)
	}
	if got := show(anon.Boxes(x)); got != "L0 1'other'" {
		t.Error(got)
	}
	if s := of(t, b, 4).Style; s.Display != 2 {
		t.Error(s)
	}
}

// 8.5

// chain is the root, and elements below each other, with a text at the end that
// stands as deep as may be.
func chain(display ...int) []api.Node {
	var l []api.Node
	for i := range api.MaxDeep {
		l = append(l, element(i, i-1, api.Decl{Prop: 1, Word: display[i%len(display)]}))
	}
	return append(l, text(api.MaxDeep, api.MaxDeep-1, "x"))
}

func TestNoCallPanics(t *testing.T) {
	for _, l := range [][]int{{0}, {1}, {2}, {3}, {0, 1}, {1, 0}, {0, 2}, {2, 0}, {1, 2}, {2, 1}, {0, 1, 2}, {2, 1, 0, 1}} {
		agrees(t, made(t, chain(l...)))
	}
	for _, display := range []int{0, 2} {
		l := []api.Node{element(0, -1, api.Decl{Prop: 1, Word: display})}
		for i := 1; i < api.MaxNodes; i++ {
			l = append(l, text(i, 0, strings.Repeat("\xff ", api.MaxText/2)))
		}
		agrees(t, made(t, l))
		for i := 3; i < api.MaxNodes; i += 3 {
			l[i] = element(i, 0, api.Decl{Prop: 1, Word: i / 3 % 4})
		}
		agrees(t, made(t, l))
	}
	for _, white := range []int{math.MinInt, -1, 0, 1, 2, 3, math.MaxInt} {
		for _, s := range []string{"", " ", "\xff", strings.Repeat(" ", 1<<20), strings.Repeat("\x00", 1<<20)} {
			anon.Blank(s, white)
		}
	}
}
