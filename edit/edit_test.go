package edit_test

import (
	"errors"
	"math"
	"math/rand"
	"slices"
	"strings"
	"testing"

	"quoin/api"
	"quoin/decl"
	"quoin/edit"
	"quoin/tree"
)

func element(id, parent int, l ...api.Decl) api.Node {
	return api.Node{ID: id, Parent: parent, Style: l}
}

func text(id, parent int, s string) api.Node {
	return api.Node{ID: id, Parent: parent, Text: true, Data: s}
}

// Declarations, as the text beside each tells them.
var (
	flex  = api.Decl{Prop: 1, Word: 2}                               // display: flex
	order = api.Decl{Prop: 25, Word: 3}                              // order: 3
	wide  = api.Decl{Prop: 2, Len: api.Len{Kind: api.LPct, N: 5000}} // width: 50%
)

const (
	long    = api.MaxText + 1
	longest = api.MaxStyle + 1
)

func newElement(id, at, before int, s string) api.Op {
	return api.Op{Kind: api.OElement, ID: id, At: at, Before: before, Text: s}
}

func newText(id, at, before int, s string) api.Op {
	return api.Op{Kind: api.OText, ID: id, At: at, Before: before, Text: s}
}

func style(id int, s string) api.Op {
	return api.Op{Kind: api.OStyle, ID: id, At: -7, Before: -7, Text: s}
}

func data(id int, s string) api.Op {
	return api.Op{Kind: api.OData, ID: id, At: -7, Before: -7, Text: s}
}

func move(id, at, before int) api.Op {
	return api.Op{Kind: api.OMove, ID: id, At: at, Before: before, Text: "?"}
}

func drop(id int) api.Op {
	return api.Op{Kind: api.ODrop, ID: id, At: -7, Before: -7, Text: "?"}
}

// field is a tree with some of all:
//
//	0
//	  1 (flex)
//	    2
//	      3 "three"
//	      4
//	    5 "five"
//	  6
//	    7
//	  8 ""
func field() []api.Node {
	return []api.Node{
		element(0, -1),
		element(1, 0, flex),
		element(2, 1),
		text(3, 2, "three"),
		element(4, 2),
		text(5, 1, "five"),
		element(6, 0),
		element(7, 6),
		text(8, 0, ""),
	}
}

// chain is the root, and then so many more, each a kid of the one ahead.
func chain(more int) []api.Node {
	l := []api.Node{element(0, -1)}
	for i := range more {
		l = append(l, element(i+1, i))
	}
	return l
}

func made(t *testing.T, most int, l []api.Node) *tree.Tree {
	t.Helper()
	x, ok := tree.Of(most, l)
	if !ok {
		t.Fatalf("Of(%d, %v): false", most, l)
	}
	return x
}

// like answers whether a and b are the same nodes.
func like(a, b []api.Node) bool {
	return slices.EqualFunc(a, b, func(x, y api.Node) bool {
		return x.ID == y.ID && x.Parent == y.Parent && x.Text == y.Text && x.Data == y.Data && slices.Equal(x.Style, y.Style)
	})
}

// is tells where x isn't l, in all that is asked of it.
func is(t *testing.T, name string, x *tree.Tree, l []api.Node) {
	t.Helper()
	if got := x.Say(); !like(got, l) {
		t.Fatalf("%s: %v, not %v", name, got, l)
	}
	if x.Len() != len(l) {
		t.Errorf("%s: Len %d, not %d", name, x.Len(), len(l))
	}
	for _, n := range l {
		if x.Parent(n.ID) != n.Parent || !slices.Equal(x.Kids(n.ID), book(l).kids(n.ID)) || x.Deep(n.ID) != len(book(l).above(n.ID)) {
			t.Errorf("%s: %d stands otherwise", name, n.ID)
		}
	}
}

// errs tells where err isn't the one that is wanted.
func errs(t *testing.T, name string, err error, want api.Errno) {
	t.Helper()
	if want == api.OK && err != nil || want != api.OK && !errors.Is(err, want) || api.Code(err) != want {
		t.Errorf("%s: %v, not %v", name, err, want)
	}
}

// book is the reference: a tree as the list that Say answers, in which all is
// looked up, and turned by cutting and laying in.
type book []api.Node

func (b book) at(id int) int {
	return slices.IndexFunc(b, func(n api.Node) bool { return n.ID == id })
}

func (b book) has(id int) bool {
	return b.at(id) >= 0
}

func (b book) kids(id int) []int {
	var l []int
	for _, n := range b {
		if n.Parent == id && n.ID != 0 {
			l = append(l, n.ID)
		}
	}
	return l
}

// above is what stands above a node, from its parent on.
func (b book) above(id int) []int {
	var l []int
	for id != 0 {
		id = b[b.at(id)].Parent
		l = append(l, id)
	}
	return l
}

// end is behind a node and all that is below it.
func (b book) end(id int) int {
	to := b.at(id) + 1
	for to < len(b) && slices.Contains(b.above(b[to].ID), id) {
		to++
	}
	return to
}

// with is b with l, whose first is a kid of at, laid in.
func (b book) with(at, before int, l ...api.Node) book {
	to := b.end(at)
	if before != -1 {
		to = b.at(before)
	}
	l = slices.Clone(l)
	l[0].Parent = at
	return slices.Insert(slices.Clone(b), to, l...)
}

func (b book) without(id int) book {
	return slices.Delete(slices.Clone(b), b.at(id), b.end(id))
}

func (b book) given(id int, s string, l []api.Decl) book {
	b = slices.Clone(b)
	b[b.at(id)].Data, b[b.at(id)].Style = s, l
	return b
}

// done is what an Op does, were there no error.
func (b book) done(op api.Op) book {
	l, _, _ := decl.Parse(op.Text)
	switch op.Kind {
	case api.OElement:
		return b.with(op.At, op.Before, element(op.ID, op.At, l...))
	case api.OText:
		return b.with(op.At, op.Before, text(op.ID, op.At, op.Text))
	case api.OStyle:
		return b.given(op.ID, "", l)
	case api.OData:
		return b.given(op.ID, op.Text, nil)
	case api.OMove:
		return b.without(op.ID).with(op.At, op.Before, b[b.at(op.ID):b.end(op.ID)]...)
	}
	return b.without(op.ID)
}

// refused is 7.1's sentence, word by word.
func (b book) refused(most int, op api.Op) api.Errno {
	makes := op.Kind == api.OElement || op.Kind == api.OText
	moves := op.Kind == api.OMove
	_, _, parsed := decl.Parse(op.Text)
	switch {
	case !slices.Contains([]int{1, 2, 3, 4, 5, 6}, op.Kind):
		return api.ErrKind
	case makes && (op.ID < 0 || op.ID > 1000):
		return api.ErrNode
	case makes && b.has(op.ID):
		return api.ErrTaken
	case makes && len(b) >= most:
		return api.ErrFull
	case !makes && !b.has(op.ID):
		return api.ErrNode
	case (moves || op.Kind == api.ODrop) && op.ID == 0:
		return api.ErrRoot
	case (makes || moves) && !b.has(op.At):
		return api.ErrNode
	case (makes || moves) && b[b.at(op.At)].Text:
		return api.ErrKind
	case moves && (op.At == op.ID || slices.Contains(b.above(op.At), op.ID)):
		return api.ErrCycle
	case (makes || moves) && op.Before != -1 && (!slices.Contains(b.kids(op.At), op.Before) || op.Before == op.ID):
		return api.ErrPlace
	case (makes || moves) && b.done(op).deepest() > 20:
		return api.ErrDeep
	case op.Kind == api.OStyle && b[b.at(op.ID)].Text, op.Kind == api.OData && !b[b.at(op.ID)].Text:
		return api.ErrKind
	case op.Kind == api.OElement || op.Kind == api.OStyle:
		return parsed
	case (op.Kind == api.OText || op.Kind == api.OData) && len(op.Text) > 1000:
		return api.ErrBig
	}
	return api.OK
}

func (b book) deepest() int {
	most := 0
	for _, n := range b {
		most = max(most, len(b.above(n.ID)))
	}
	return most
}

// 7.1

// By hand, so that the reference isn't believed alone.
func TestEachKindOfOp(t *testing.T) {
	for _, c := range []struct {
		name string
		op   api.Op
		want []int
		// at is a node of want, and what it is behind it.
		at api.Node
	}{
		{"an element ahead of the first", newElement(9, 0, 1, ""), []int{0, 9, 1, 2, 3, 4, 5, 6, 7, 8}, element(9, 0)},
		{"an element ahead of another", newElement(9, 0, 6, "order: 3"), []int{0, 1, 2, 3, 4, 5, 9, 6, 7, 8}, element(9, 0, order)},
		{"an element behind the last one", newElement(9, 2, -1, "display: flex; order: 3"), []int{0, 1, 2, 3, 4, 9, 5, 6, 7, 8}, element(9, 2, flex, order)},
		{"an element in one without kids", newElement(1000, 7, -1, ""), []int{0, 1, 2, 3, 4, 5, 6, 7, 1000, 8}, element(1000, 7)},
		{"a text ahead of the last", newText(9, 1, 5, "nine"), []int{0, 1, 2, 3, 4, 9, 5, 6, 7, 8}, text(9, 1, "nine")},
		{"a text of no bytes", newText(999, 4, -1, ""), []int{0, 1, 2, 3, 4, 999, 5, 6, 7, 8}, text(999, 4, "")},
		{"a text of any bytes", newText(9, 0, -1, "\x00\xff?\n"), []int{0, 1, 2, 3, 4, 5, 6, 7, 8, 9}, text(9, 0, "\x00\xff?\n")},
		{"declarations", style(6, "width: 50%"), []int{0, 1, 2, 3, 4, 5, 6, 7, 8}, element(6, 0, wide)},
		{"other declarations", style(1, "width: 50%; order: 3"), []int{0, 1, 2, 3, 4, 5, 6, 7, 8}, element(1, 0, wide, order)},
		{"no declarations", style(1, " "), []int{0, 1, 2, 3, 4, 5, 6, 7, 8}, element(1, 0)},
		{"declarations of the root", style(0, "order: 3"), []int{0, 1, 2, 3, 4, 5, 6, 7, 8}, element(0, -1, order)},
		{"other bytes", data(3, "order"), []int{0, 1, 2, 3, 4, 5, 6, 7, 8}, text(3, 2, "order")},
		{"no bytes", data(3, ""), []int{0, 1, 2, 3, 4, 5, 6, 7, 8}, text(3, 2, "")},
		{"a move with all below", move(2, 7, -1), []int{0, 1, 5, 6, 7, 2, 3, 4, 8}, element(2, 7)},
		{"a move ahead of another", move(1, 0, 8), []int{0, 6, 7, 1, 2, 3, 4, 5, 8}, element(1, 0, flex)},
		{"a move to the front", move(8, 0, 1), []int{0, 8, 1, 2, 3, 4, 5, 6, 7}, text(8, 0, "")},
		{"a move to the end", move(1, 0, -1), []int{0, 6, 7, 8, 1, 2, 3, 4, 5}, element(1, 0, flex)},
		{"a move up", move(3, 1, 2), []int{0, 1, 3, 2, 4, 5, 6, 7, 8}, text(3, 1, "three")},
		{"a move to where it stands", move(6, 0, 8), []int{0, 1, 2, 3, 4, 5, 6, 7, 8}, element(6, 0)},
		{"a move of the last behind the last", move(8, 0, -1), []int{0, 1, 2, 3, 4, 5, 6, 7, 8}, text(8, 0, "")},
		{"a drop", drop(8), []int{0, 1, 2, 3, 4, 5, 6, 7}, element(0, -1)},
		{"a drop with all below", drop(1), []int{0, 6, 7, 8}, element(0, -1)},
		{"a drop below", drop(2), []int{0, 1, 5, 6, 7, 8}, element(1, 0, flex)},
	} {
		x := made(t, 20, field())
		errs(t, c.name, edit.Do(x, c.op), api.OK)
		var ids []int
		for _, n := range x.Say() {
			ids = append(ids, n.ID)
		}
		if !slices.Equal(ids, c.want) {
			t.Errorf("%s: %v, not %v", c.name, ids, c.want)
		}
		if n, ok := x.Node(c.at.ID); !ok || !like([]api.Node{n}, []api.Node{c.at}) {
			t.Errorf("%s: %v, not %v", c.name, n, c.at)
		}
		is(t, c.name, x, book(field()).done(c.op))
	}
}

// Each Op has all errors that could come later.
func TestErrorsAndTheirOrder(t *testing.T) {
	for _, c := range []struct {
		name string
		op   api.Op
		want api.Errno
	}{
		{"kind 0", api.Op{Kind: 0, ID: -1, At: -1, Before: 99, Text: "?"}, api.ErrKind},
		{"kind 7", api.Op{Kind: 7, ID: 0, At: -1, Before: 99, Text: "?"}, api.ErrKind},
		{"kind -1", api.Op{Kind: -1, ID: 1, At: 6, Before: -1}, api.ErrKind},
		{"an element -1", newElement(-1, 99, 99, "?"), api.ErrNode},
		{"a text -1", newText(-1, 99, 99, strings.Repeat("x", long)), api.ErrNode},
		{"an element 1001", newElement(1001, 99, 99, "?"), api.ErrNode},
		{"a text 1001", newText(1001, 99, 99, "?"), api.ErrNode},
		{"the root again", newElement(0, 99, 99, "?"), api.ErrTaken},
		{"a text again", newText(3, 99, 99, strings.Repeat("x", long)), api.ErrTaken},
		{"an element that is a text", newElement(3, 99, 99, "?"), api.ErrTaken},
		{"an element in full", newElement(9, 99, 99, "?"), api.ErrFull},
		{"a text in full", newText(9, 3, 99, strings.Repeat("x", long)), api.ErrFull},
		{"a style of none", style(9, "?"), api.ErrNode},
		{"a style of -1", style(-1, "?"), api.ErrNode},
		{"a style of a text", style(3, "?"), api.ErrKind},
		{"data of none", data(9, strings.Repeat("x", long)), api.ErrNode},
		{"data of an element", data(1, strings.Repeat("x", long)), api.ErrKind},
		{"data of the root", data(0, ""), api.ErrKind},
		{"a move of none", move(9, 99, 99), api.ErrNode},
		{"a move of none to itself", move(9, 9, 9), api.ErrNode},
		{"a move of 1001", move(1001, 0, -1), api.ErrNode},
		{"a move of the root", move(0, 99, 99), api.ErrRoot},
		{"a move of the root to itself", move(0, 0, -1), api.ErrRoot},
		{"a move to none", move(1, 99, 99), api.ErrNode},
		{"a move to -1", move(1, -1, -1), api.ErrNode},
		{"a move to a text", move(1, 8, 99), api.ErrKind},
		{"a move to a text below it", move(1, 3, 99), api.ErrKind},
		{"a move of a text to itself", move(3, 3, 99), api.ErrKind},
		{"a move to itself", move(1, 1, 99), api.ErrCycle},
		{"a move to a kid", move(1, 2, 99), api.ErrCycle},
		{"a move below", move(1, 4, 1), api.ErrCycle},
		{"a move ahead of none", move(1, 6, 99), api.ErrPlace},
		{"a move ahead of -2", move(1, 6, -2), api.ErrPlace},
		{"a move ahead of itself", move(1, 0, 1), api.ErrPlace},
		{"a move ahead of itself elsewhere", move(1, 6, 1), api.ErrPlace},
		{"a move ahead of a kid's kid", move(6, 1, 3), api.ErrPlace},
		{"a move ahead of its parent", move(7, 6, 6), api.ErrPlace},
		{"a move ahead of another's kid", move(4, 6, 2), api.ErrPlace},
		{"a drop of the root", drop(0), api.ErrRoot},
		{"a drop of none", drop(9), api.ErrNode},
		{"a drop of -1", drop(-1), api.ErrNode},
	} {
		x := made(t, 9, field())
		errs(t, c.name, edit.Do(x, c.op), c.want)
		is(t, c.name, x, field())
	}
	for _, c := range []struct {
		name string
		op   api.Op
		want api.Errno
	}{
		{"an element in none", newElement(9, 99, 99, "?"), api.ErrNode},
		{"an element in -1", newElement(9, -1, -1, "?"), api.ErrNode},
		{"an element in itself", newElement(9, 9, -1, ""), api.ErrNode},
		{"an element in a text", newElement(9, 3, 99, "?"), api.ErrKind},
		{"a text in a text", newText(9, 8, 99, strings.Repeat("x", long)), api.ErrKind},
		{"an element ahead of none", newElement(9, 0, 99, "?"), api.ErrPlace},
		{"an element ahead of itself", newElement(9, 0, 9, "?"), api.ErrPlace},
		{"an element ahead of -2", newElement(9, 0, -2, "?"), api.ErrPlace},
		{"an element ahead of the root", newElement(9, 0, 0, "?"), api.ErrPlace},
		{"an element ahead of a kid's kid", newElement(9, 0, 2, "?"), api.ErrPlace},
		{"a text ahead of another's kid", newText(9, 6, 2, strings.Repeat("x", long)), api.ErrPlace},
		{"an element of no form", newElement(9, 0, -1, "?"), api.ErrSyntax},
		{"an element of another property", newElement(9, 0, 1, "a: b"), api.ErrName},
		{"an element of another value", newElement(9, 0, -1, "order: b"), api.ErrValue},
		{"an element of 2001 bytes", newElement(9, 0, -1, strings.Repeat("?", longest)), api.ErrBig},
		{"a text of 1001 bytes", newText(9, 0, -1, strings.Repeat("x", long)), api.ErrBig},
		{"a style of no form", style(1, "?"), api.ErrSyntax},
		{"a style of another property", style(1, "order: 1; a: b"), api.ErrName},
		{"a style of another value", style(0, "order: b"), api.ErrValue},
		{"a style of 2001 bytes", style(1, strings.Repeat(" ", longest)), api.ErrBig},
		{"data of 1001 bytes", data(3, strings.Repeat("x", long)), api.ErrBig},
		{"an element of 2000 bytes", newElement(9, 0, -1, strings.Repeat(" ", longest-1)), api.OK},
		{"a text of 1000 bytes", newText(9, 0, -1, strings.Repeat("\xff", long-1)), api.OK},
		{"a style of 2000 bytes", style(1, strings.Repeat(" ", longest-1)), api.OK},
		{"data of 1000 bytes", data(3, strings.Repeat("x", long-1)), api.OK},
		{"an element 1000", newElement(1000, 0, -1, ""), api.OK},
		{"a text 1000", newText(1000, 0, -1, ""), api.OK},
	} {
		x := made(t, 10, field())
		errs(t, c.name, edit.Do(x, c.op), c.want)
		want := book(field())
		if c.want == api.OK {
			want = want.done(c.op)
		}
		is(t, c.name, x, want)
	}
}

// A tree's most is held to 1 to 500, whichever way the tree was made.
func TestFull(t *testing.T) {
	for _, c := range []struct{ most, held int }{{math.MinInt, 1}, {0, 1}, {1, 1}, {2, 2}, {7, 7}, {499, 499}, {500, 500}, {501, 500}, {math.MaxInt, 500}} {
		for name, x := range map[string]*tree.Tree{
			"New":     tree.New(c.most),
			"Of":      made(t, c.most, chain(0)),
			"Copy":    tree.New(c.most).Copy(),
			"Of Copy": made(t, c.most, chain(0)).Copy().Copy(),
		} {
			for id := 1; id < c.held; id++ {
				errs(t, name, edit.Do(x, newElement(id, 0, -1, "")), api.OK)
			}
			errs(t, name+" full", edit.Do(x, newElement(600, 0, -1, "")), api.ErrFull)
			errs(t, name+" full", edit.Batch(x, []api.Op{newText(600, 0, -1, "")}), api.ErrFull)
			errs(t, name+" full", edit.Do(x.Copy(), newText(600, 0, -1, "")), api.ErrFull)
			if x.Len() != c.held {
				t.Errorf("%s(%d): %d nodes", name, c.most, x.Len())
			}
			if c.held == 1 {
				continue
			}
			// What is taken away leaves room, for one only.
			errs(t, name, edit.Do(x, drop(1)), api.OK)
			errs(t, name, edit.Batch(x, []api.Op{newElement(600, 0, -1, "")}), api.OK)
			errs(t, name+" full again", edit.Do(x, newElement(1, 0, -1, "")), api.ErrFull)
		}
	}
	x := made(t, 9, field())
	errs(t, "a drop", edit.Do(x, drop(1)), api.OK)
	for id := range 5 {
		errs(t, "where five were", edit.Do(x, newElement(id+1, 7, -1, "")), api.OK)
	}
	errs(t, "full", edit.Do(x, newElement(9, 0, -1, "")), api.ErrFull)
}

func TestDeep(t *testing.T) {
	for deep, want := range map[int]api.Errno{0: api.OK, 1: api.OK, 18: api.OK, 19: api.OK, 20: api.ErrDeep} {
		for _, op := range []api.Op{newElement(99, deep, -1, ""), newText(99, deep, -1, "")} {
			x := made(t, 500, chain(20))
			errs(t, "a new one", edit.Do(x, op), want)
			if want == api.OK && x.Deep(99) != deep+1 {
				t.Error(x.Deep(99), "above one that was made in", deep)
			}
		}
		if want == api.ErrDeep {
			x := made(t, 500, chain(20))
			errs(t, "no place and deep", edit.Do(x, newElement(99, deep, 7, "")), api.ErrPlace)
			errs(t, "deep and a style of no form", edit.Do(x, newElement(99, deep, -1, "?")), api.ErrDeep)
			errs(t, "deep and a long text", edit.Do(x, newText(99, deep, -1, strings.Repeat("x", long))), api.ErrDeep)
		}
	}
	// 30 has 31 and 32 below it, one below the other; and 33, 34 and 35.
	l := append(chain(20), element(30, 0), text(33, 30, ""), element(31, 30), text(34, 31, ""), element(32, 31), element(35, 30))
	for at := range 21 {
		for id, below := range map[int]int{30: 2, 31: 1, 32: 0, 33: 0, 35: 0} {
			want := api.OK
			if at+1+below > 20 {
				want = api.ErrDeep
			}
			x := made(t, 500, l)
			op := move(id, at, -1)
			errs(t, "a move", edit.Do(x, op), want)
			if want == api.OK {
				is(t, "a move", x, book(l).done(op))
				continue
			}
			is(t, "a move too deep", x, l)
			errs(t, "no place and deep", edit.Do(x, move(id, at, 999)), api.ErrPlace)
		}
	}
	// What goes up, or stays, may be as high as it is.
	x := made(t, 500, chain(20))
	errs(t, "up", edit.Do(x, move(2, 0, 1)), api.OK)
	errs(t, "down again", edit.Do(x, move(2, 1, -1)), api.OK)
	errs(t, "where it stands", edit.Do(x, move(1, 0, -1)), api.OK)
	is(t, "up and down", x, chain(20))
}

// texts is some of which some are declarations, and some are too long.
func texts() []string {
	return []string{
		"", " ", "order: 3", "display: flex; width: 50%", "width: 50%;",
		"?", "a: b", "order: b", strings.Repeat("x", 1000), strings.Repeat("x", 1001),
		strings.Repeat(" ", 1001), strings.Repeat(" ", 2000), strings.Repeat(" ", 2001),
	}
}

// drawn answers an Op that mostly can be done.
func drawn(r *rand.Rand, b book) api.Op {
	op := api.Op{Kind: 1 + r.Intn(6), ID: r.Intn(16), At: -1, Before: -1}
	if r.Intn(30) == 0 {
		op.Kind = r.Intn(10) - 2
	}
	if op.Kind == api.ODrop && r.Intn(3) > 0 {
		op.Kind = api.OElement
	}
	if op.Kind > api.OText && r.Intn(5) > 0 {
		op.ID = b[r.Intn(len(b))].ID
	}
	if r.Intn(40) == 0 {
		op.ID = []int{-1, 1001, 1000, 999}[r.Intn(4)]
	}
	op.At = b[max(r.Intn(len(b)), r.Intn(len(b)))].ID
	if r.Intn(30) == 0 {
		op.At = r.Intn(20) - 2
	}
	if kids := b.kids(op.At); len(kids) > 0 && r.Intn(2) == 0 {
		op.Before = kids[r.Intn(len(kids))]
	}
	if r.Intn(20) == 0 {
		op.Before = r.Intn(20) - 3
	}
	l := texts()
	op.Text = l[min(r.Intn(len(l)), r.Intn(len(l)))]
	return op
}

// grown answers what is there behind so many Ops.
func grown(r *rand.Rand, most, ops int) book {
	b := book{element(0, -1)}
	for range ops {
		op := drawn(r, b)
		if b.refused(most, op) == api.OK {
			b = b.done(op)
		}
	}
	return b
}

func TestDoIsAsTheBookSays(t *testing.T) {
	r := rand.New(rand.NewSource(71))
	count := map[api.Errno]int{}
	for range 300 {
		most := 3 + r.Intn(14)
		b := book{element(0, -1)}
		x := tree.New(most)
		for range 100 {
			op := drawn(r, b)
			want := b.refused(most, op)
			count[want]++
			err := edit.Do(x, op)
			if want == api.OK {
				b = b.done(op)
			}
			errs(t, "Do", err, want)
			is(t, "Do", x, b)
		}
	}
	for _, e := range []api.Errno{api.OK, api.ErrFull, api.ErrBig, api.ErrSyntax, api.ErrName, api.ErrValue, api.ErrKind, api.ErrNode, api.ErrTaken, api.ErrRoot, api.ErrCycle, api.ErrPlace} {
		if count[e] < 20 {
			t.Error("hardly any of error", e, ":", count[e])
		}
	}
}

// Every Op of a few ids, in a tree of a few nodes.
func TestEveryOpOfASmallTree(t *testing.T) {
	ids := []int{-2, -1, 0, 1, 2, 3, 4, 5, 8, 9, 1000, 1001}
	b := book(field())
	for kind := range 8 {
		for _, id := range ids {
			for _, at := range ids {
				for _, before := range ids {
					for _, s := range []string{"", "order: 3", "?"} {
						op := api.Op{Kind: kind, ID: id, At: at, Before: before, Text: s}
						x := made(t, 10, b)
						want := b.refused(10, op)
						if err := edit.Do(x, op); api.Code(err) != want {
							t.Fatalf("Do of %v: %v, not %v", op, err, want)
						}
						after := b
						if want == api.OK {
							after = b.done(op)
						}
						if got := x.Say(); !like(got, after) {
							t.Fatalf("Do of %v: %v, not %v", op, got, after)
						}
					}
				}
			}
		}
	}
}

// Copy is no more than a look at what was: neither turns the other.
func TestCopyStaysAsItWas(t *testing.T) {
	ops := []api.Op{newElement(9, 1, 2, "order: 3"), style(1, ""), data(3, "?"), move(2, 6, -1), newText(10, 2, -1, "x"), drop(7), style(0, "order: 3")}
	x := made(t, 20, field())
	c := x.Copy()
	b := book(field())
	for _, op := range ops {
		errs(t, "a turn", edit.Do(x, op), api.OK)
		b = b.done(op)
		is(t, "the copy", c, field())
		is(t, "the tree", x, b)
	}
	d := x.Copy()
	errs(t, "a batch", edit.Batch(d, []api.Op{drop(1), drop(6)}), api.OK)
	is(t, "the tree of a copy", x, b)
	errs(t, "a batch", edit.Batch(x, []api.Op{style(0, ""), newText(700, 0, -1, "")}), api.OK)
	errs(t, "a turn", edit.Do(d, style(0, "order: 3")), api.OK)
	is(t, "the copy", d, []api.Node{element(0, -1, order), text(8, 0, "")})
}

// What a tree answered isn't it.
func TestWhatIsAnsweredIsNotTurned(t *testing.T) {
	x := made(t, 20, field())
	l, kids := x.Say(), x.Kids(0)
	n, _ := x.Node(1)
	errs(t, "a batch", edit.Batch(x, []api.Op{style(1, "order: 3"), move(1, 0, -1), drop(6)}), api.OK)
	if !like(l, field()) || !slices.Equal(kids, []int{1, 6, 8}) || !like([]api.Node{n}, field()[1:2]) {
		t.Error("what was answered was turned")
	}
	now := x.Say()
	n, _ = x.Node(1)
	clear(n.Style[:cap(n.Style)])
	kids = x.Kids(0)
	clear(kids[:cap(kids)])
	is(t, "the tree", x, now)
}

// 7.2

func TestBatchDoesAllInOrder(t *testing.T) {
	l := []api.Op{newElement(9, 0, 6, ""), move(2, 9, -1), drop(1), newText(1, 2, 4, "x"), data(1, "y"), style(2, "order: 3")}
	x := made(t, 20, field())
	errs(t, "a batch", edit.Batch(x, l), api.OK)
	is(t, "a batch", x, []api.Node{
		element(0, -1),
		element(9, 0),
		element(2, 9, order),
		text(3, 2, "three"),
		text(1, 2, "y"),
		element(4, 2),
		element(6, 0),
		element(7, 6),
		text(8, 0, ""),
	})
	now := x.Say()
	errs(t, "no Ops", edit.Batch(x, nil), api.OK)
	errs(t, "no Ops", edit.Batch(x, []api.Op{}), api.OK)
	is(t, "no Ops", x, now)
}

// faults tells where err isn't a Fault of a place and an error.
func faults(t *testing.T, err error, at int, want api.Errno) {
	t.Helper()
	var f *api.Fault
	if !errors.As(err, &f) {
		t.Errorf("%v: no Fault", err)
		return
	}
	if f.At != at || f.Err != error(want) {
		t.Errorf("a Fault of %d, %v, not of %d, %v", f.At, f.Err, at, want)
	}
	errs(t, "a Fault", err, want)
}

func TestBatchTellsTheFirstFault(t *testing.T) {
	for _, c := range []struct {
		l    []api.Op
		at   int
		want api.Errno
	}{
		{[]api.Op{drop(0)}, 0, api.ErrRoot},
		{[]api.Op{{}}, 0, api.ErrKind},
		{[]api.Op{drop(1), drop(2), drop(0)}, 1, api.ErrNode},
		{[]api.Op{newElement(9, 0, -1, ""), newElement(10, 9, -1, ""), newElement(11, 9, -1, "")}, 2, api.ErrFull},
		{[]api.Op{drop(8), newElement(9, 0, -1, ""), newElement(9, 0, -1, "")}, 2, api.ErrTaken},
		{[]api.Op{move(1, 6, -1), move(6, 4, -1)}, 1, api.ErrCycle},
		{[]api.Op{move(7, 0, -1), newElement(9, 6, 7, "")}, 1, api.ErrPlace},
		{[]api.Op{style(1, "order: 3"), style(6, "order: 3"), style(2, "?"), style(4, "a: b")}, 2, api.ErrSyntax},
		{[]api.Op{data(3, ""), data(5, strings.Repeat("x", long))}, 1, api.ErrBig},
		{[]api.Op{style(1, strings.Repeat(" ", longest))}, 0, api.ErrBig},
		{append(slices.Repeat([]api.Op{style(1, "")}, 99), style(1, "order: b")), 99, api.ErrValue},
		{make([]api.Op, 100), 0, api.ErrKind},
	} {
		x := made(t, 11, field())
		faults(t, edit.Batch(x, c.l), c.at, c.want)
		is(t, "a Fault", x, field())
	}
	l := append(slices.Repeat([]api.Op{move(1, 0, -1)}, 20), newElement(99, 20, -1, ""))
	x := made(t, 500, chain(20))
	faults(t, edit.Batch(x, l), 20, api.ErrDeep)
	is(t, "a Fault", x, chain(20))
}

func TestBatchOfTooMany(t *testing.T) {
	for _, n := range []int{101, 102, 100000} {
		for _, l := range [][]api.Op{make([]api.Op, n), slices.Repeat([]api.Op{style(1, "")}, n)} {
			x := made(t, 20, field())
			err := edit.Batch(x, l)
			var f *api.Fault
			if err != error(api.ErrBig) || errors.As(err, &f) {
				t.Errorf("%d Ops: %v", n, err)
			}
			is(t, "too many", x, field())
			if got := edit.Dirty(x, l); len(got) != 0 {
				t.Errorf("Dirty of %d Ops: %v", n, got)
			}
		}
	}
	x := made(t, 20, field())
	errs(t, "100 Ops", edit.Batch(x, append(slices.Repeat([]api.Op{style(1, "")}, 99), drop(8))), api.OK)
	is(t, "100 Ops", x, book(field()).given(1, "", nil).without(8))
}

func TestDirty(t *testing.T) {
	for _, c := range []struct {
		name string
		l    []api.Op
		want []int
	}{
		{"nothing", nil, nil},
		{"no Ops", []api.Op{}, nil},
		{"a new element", []api.Op{newElement(9, 4, -1, "")}, []int{0, 1, 2, 4, 9}},
		{"a new text", []api.Op{newText(1000, 0, 1, "")}, []int{0, 1000}},
		{"a style", []api.Op{style(4, "")}, []int{0, 1, 2, 4}},
		{"the root's style", []api.Op{style(0, "order: 3")}, []int{0}},
		{"bytes", []api.Op{data(3, "")}, []int{0, 1, 2, 3}},
		{"the same bytes", []api.Op{data(3, "three")}, []int{0, 1, 2, 3}},
		{"a drop", []api.Op{drop(4)}, []int{0, 1, 2}},
		{"a drop of one with kids", []api.Op{drop(2)}, []int{0, 1}},
		{"a move", []api.Op{move(4, 7, -1)}, []int{0, 1, 2, 6, 7}},
		{"a move of one with kids", []api.Op{move(2, 7, -1)}, []int{0, 1, 6, 7}},
		{"a move among a parent's kids", []api.Op{move(3, 2, -1)}, []int{0, 1, 2}},
		{"a move to where it stands", []api.Op{move(4, 2, -1)}, []int{0, 1, 2}},
		{"a move to and fro", []api.Op{move(4, 7, -1), move(4, 2, -1)}, []int{0, 1, 2, 6, 7}},
		{"one that is made and dropped", []api.Op{newElement(9, 7, -1, ""), drop(9)}, []int{0, 6, 7}},
		{"one that is given and dropped", []api.Op{style(7, "order: 3"), drop(7)}, []int{0, 6}},
		{"one that is given and dropped with its parent", []api.Op{data(3, ""), drop(2)}, []int{0, 1}},
		{"one that is dropped and made again", []api.Op{drop(2), newElement(2, 7, -1, "")}, []int{0, 1, 2, 6, 7}},
		{"one that is given something and moved", []api.Op{data(3, ""), move(2, 6, -1)}, []int{0, 1, 2, 3, 6}},
		{"one that is moved and given something", []api.Op{move(2, 6, -1), data(3, "")}, []int{0, 1, 2, 3, 6}},
		{"a parent that is moved then", []api.Op{move(3, 4, -1), move(4, 7, -1)}, []int{0, 1, 2, 4, 6, 7}},
		{"one of which a kid was taken that is moved then", []api.Op{drop(3), move(2, 0, -1)}, []int{0, 1, 2}},
		{"one twice", []api.Op{style(6, ""), style(6, ""), data(8, "")}, []int{0, 6, 8}},
		{"rising", []api.Op{style(7, ""), style(4, ""), data(8, ""), style(1, "")}, []int{0, 1, 2, 4, 6, 7, 8}},
		{"a fault", []api.Op{style(7, ""), drop(0)}, nil},
		{"a fault at first", []api.Op{drop(9), style(7, "")}, nil},
		{"a fault in the text", []api.Op{style(7, "?")}, nil},
		{"a fault of another kind", []api.Op{style(7, ""), {}}, nil},
		{"a fault of full", []api.Op{newElement(9, 0, -1, ""), newElement(10, 0, -1, ""), newElement(11, 0, -1, "")}, nil},
	} {
		x := made(t, 11, field())
		if got := edit.Dirty(x, c.l); !slices.Equal(got, c.want) {
			t.Errorf("%s: %v, not %v", c.name, got, c.want)
		}
		is(t, c.name, x, field())
	}
	x := made(t, 20, field())
	if got := edit.Dirty(x, append(slices.Repeat([]api.Op{style(1, "")}, 99), drop(8))); !slices.Equal(got, []int{0, 1}) {
		t.Error("100 Ops:", got)
	}
}

// touched is what an Op makes, gives something, takes kids from, or gives kids.
func touched(b book, op api.Op) []int {
	switch op.Kind {
	case api.OElement, api.OText:
		return []int{op.ID, op.At}
	case api.OMove:
		return []int{b[b.at(op.ID)].Parent, op.At}
	case api.ODrop:
		return []int{b[b.at(op.ID)].Parent}
	}
	return []int{op.ID}
}

// marks notes those of ids that are in b, and all that stand above them there.
func marks(seen map[int]bool, b book, ids []int) {
	for _, id := range ids {
		if !b.has(id) {
			continue
		}
		seen[id] = true
		for _, a := range b.above(id) {
			seen[a] = true
		}
	}
}

// there is those of seen that are in b, rising.
func there(seen map[int]bool, b book) []int {
	var l []int
	for id := range 1001 {
		if seen[id] && b.has(id) {
			l = append(l, id)
		}
	}
	return l
}

// "Above" may be read as above in the end, or as above at any time: the ids are
// the same ones, since a node that is taken away touches its parent.
func TestBatchAndDirtyAreAsTheBookSays(t *testing.T) {
	r := rand.New(rand.NewSource(72))
	full, refused, dirty := 0, 0, 0
	for range 4000 {
		most := 6 + r.Intn(12)
		first := grown(r, most, r.Intn(40))
		x := made(t, most, first)
		states := []book{first}
		var l []api.Op
		var ids []int
		at, want := 0, api.OK
		for range r.Intn(12) {
			b := states[len(states)-1]
			op := drawn(r, b)
			for range 8 {
				if r.Intn(8) > 0 && b.refused(most, op) != api.OK {
					op = drawn(r, b)
				}
			}
			l = append(l, op)
			if want != api.OK {
				continue
			}
			if want = b.refused(most, op); want != api.OK {
				continue
			}
			at++
			ids = append(ids, touched(b, op)...)
			states = append(states, b.done(op))
		}
		end := states[len(states)-1]
		atEnd, atAnyTime := map[int]bool{}, map[int]bool{}
		marks(atEnd, end, ids)
		for _, b := range states {
			marks(atAnyTime, b, ids)
		}
		rises := there(atEnd, end)
		if want != api.OK {
			end, rises = first, nil
		} else if all := there(atAnyTime, end); !slices.Equal(all, rises) {
			t.Fatalf("the two readings differ: %v, %v", rises, all)
		}
		if got := edit.Dirty(x, l); !slices.Equal(got, rises) {
			t.Fatalf("Dirty of %v in %v: %v, not %v", l, first, got, rises)
		}
		is(t, "Dirty", x, first)
		kept := slices.Clone(l)
		err := edit.Batch(x, l)
		if !slices.Equal(l, kept) {
			t.Error("what is handed in was changed")
		}
		is(t, "Batch", x, end)
		if want == api.OK {
			errs(t, "Batch", err, want)
			full++
		} else {
			faults(t, err, at, want)
			refused++
		}
		if len(rises) > 0 && len(rises) < len(end) {
			dirty++
		}
	}
	if min(full, refused, dirty) < 700 {
		t.Error("hardly any of one kind:", full, refused, dirty)
	}
}

// Each node that looks otherwise behind a batch is dirty, or has no other kids.
func TestWhatIsNotDirtyIsAsItWas(t *testing.T) {
	r := rand.New(rand.NewSource(73))
	for range 2000 {
		first := grown(r, 16, 30)
		x := made(t, 16, first)
		l := []api.Op{drawn(r, first), drawn(r, first)}
		dirty := edit.Dirty(x, l)
		if edit.Batch(x, l) != nil {
			continue
		}
		end := book(x.Say())
		for _, n := range end {
			if slices.Contains(dirty, n.ID) {
				continue
			}
			was := first[first.at(n.ID)]
			if was.Data != n.Data || !slices.Equal(was.Style, n.Style) || !slices.Equal(first.kids(n.ID), end.kids(n.ID)) {
				t.Fatalf("%d turned, but isn't dirty behind %v", n.ID, l)
			}
		}
	}
}

// 7.3

func TestAllOfABatchOrNothing(t *testing.T) {
	all := []api.Op{newElement(9, 0, 1, "order: 3"), newText(10, 9, -1, "x"), style(1, ""), data(3, ""), move(6, 9, 10), drop(2), newElement(2, 9, -1, "")}
	whole := book(field())
	for _, op := range all {
		whole = whole.done(op)
	}
	for i := range len(all) + 1 {
		x := made(t, 20, field())
		faults(t, edit.Batch(x, slices.Insert(slices.Clone(all), i, move(0, 0, -1))), i, api.ErrRoot)
		is(t, "nothing", x, field())
		errs(t, "all", edit.Batch(x, all), api.OK)
		is(t, "all", x, whole)
	}
	// Nor is there less room behind one that was refused.
	x := made(t, 10, field())
	for range 5 {
		faults(t, edit.Batch(x, []api.Op{newElement(9, 0, -1, ""), newElement(10, 0, -1, "")}), 1, api.ErrFull)
		errs(t, "a wrong style", edit.Do(x, newElement(9, 0, -1, "?")), api.ErrSyntax)
	}
	errs(t, "the last one", edit.Do(x, newElement(9, 0, -1, "")), api.OK)
}

func TestTheOpsStay(t *testing.T) {
	room := []api.Op{style(1, ""), newElement(9, 0, -1, "order: 3"), drop(8), drop(0)}
	kept := slices.Clone(room)
	x := made(t, 20, field())
	edit.Dirty(x, room[:3])
	errs(t, "a batch", edit.Batch(x, room[:3]), api.OK)
	now := x.Say()
	if !slices.Equal(room, kept) {
		t.Error("what is handed in was changed")
	}
	clear(room)
	is(t, "the tree", x, now)
	l := edit.Dirty(x, []api.Op{style(1, ""), style(2, "")})
	m := edit.Dirty(x, []api.Op{style(1, ""), style(2, "")})
	clear(l[:cap(l)])
	if !slices.Equal(m, []int{0, 1, 2}) {
		t.Error("two answers share")
	}
}

// 7.4

func TestNoCallPanics(t *testing.T) {
	defer func() {
		if r := recover(); r != nil {
			t.Error("a call panicked:", r)
		}
	}()
	wild := []int{math.MinInt, math.MinInt + 1, -1 << 31, -1001, -2, -1, 0, 1, 3, 20, 21, 500, 1000, 1001, 1 << 31, math.MaxInt - 1, math.MaxInt}
	x := made(t, 20, field())
	for _, kind := range append([]int{2, 4, 5, 6, 7}, wild...) {
		for _, id := range wild {
			for _, at := range wild {
				for _, before := range wild {
					op := api.Op{Kind: kind, ID: id, At: at, Before: before, Text: "x"}
					want := book(field()).refused(20, op)
					y := x.Copy()
					if err := edit.Do(y, op); api.Code(err) != want {
						t.Fatalf("Do of %v: %v, not %v", op, err, want)
					}
					if err := edit.Batch(x, []api.Op{op, {}}); err == nil || edit.Dirty(x, []api.Op{op, {}}) != nil {
						t.Fatalf("Batch of %v: %v", op, err)
					}
				}
			}
		}
	}
	is(t, "the tree", x, field())
	huge := strings.Repeat("x", 1<<20)
	for kind := range 8 {
		edit.Do(x, api.Op{Kind: kind, ID: 700 + kind, Before: -1, Text: huge})
	}
	is(t, "the tree", x, field())
	full := tree.New(500)
	for id := 1; id < 500; id++ {
		errs(t, "many", edit.Do(full, newElement(id, max(0, id-20)*19/20, -1, "order: 3")), api.OK)
	}
	edit.Batch(full, slices.Repeat([]api.Op{move(1, 0, -1)}, 100))
	edit.Dirty(full, slices.Repeat([]api.Op{move(1, 0, -1)}, 100))
}
