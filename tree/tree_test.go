package tree_test

import (
	"math"
	"math/rand"
	"reflect"
	"slices"
	"strings"
	"testing"

	"quoin/api"
	"quoin/decl"
	"quoin/tree"
)

func element(id, parent int, l ...api.Decl) api.Node {
	return api.Node{ID: id, Parent: parent, Style: l}
}

func text(id, parent int, s string) api.Node {
	return api.Node{ID: id, Parent: parent, Text: true, Data: s}
}

var root = element(0, -1)

// Declarations that a text can tell.
var (
	flex  = api.Decl{Prop: 1, Word: 2}
	order = api.Decl{Prop: 25, Word: 3}
	wide  = api.Decl{Prop: 2, Len: api.Len{Kind: api.LPct, N: 5000}}
)

// field is a tree with some of all, whose ids are in no order.
func field() []api.Node {
	return []api.Node{
		root,
		element(40, 0, flex, order),
		text(7, 40, "seven"),
		element(1000, 40),
		element(3, 1000, wide),
		text(900, 3, ""),
		text(2, 3, "\x00\xff two\n"),
		element(6, 1000),
		text(1, 40, "one"),
		text(5, 0, "five"),
		element(4, 0, order, order, flex),
		element(12, 4),
	}
}

// chain is the root, and then so many more, each a kid of the one ahead.
func chain(more int) []api.Node {
	l := []api.Node{root}
	for i := range more {
		l = append(l, element(i+1, i))
	}
	return l
}

// flat is the root, and then so many more, all of them kids of it.
func flat(more int) []api.Node {
	l := []api.Node{root}
	for i := range more {
		l = append(l, text(api.MaxID-i, 0, ""))
	}
	return l
}

// like answers whether a and b are the same nodes.
func like(a, b []api.Node) bool {
	return slices.EqualFunc(a, b, func(x, y api.Node) bool {
		return x.ID == y.ID && x.Parent == y.Parent && x.Text == y.Text && x.Data == y.Data && slices.Equal(x.Style, y.Style)
	})
}

// made makes a tree of l, and tells if it can't be or is another one.
func made(t *testing.T, most int, l []api.Node) *tree.Tree {
	t.Helper()
	x, ok := tree.Of(most, l)
	if !ok || x == nil {
		t.Fatalf("Of(%d, %v): false", most, l)
	}
	if got := x.Say(); !like(got, l) {
		t.Fatalf("Say: %v, not %v", got, l)
	}
	return x
}

// isNone tells if there is a tree of l.
func isNone(t *testing.T, name string, most int, l []api.Node) {
	t.Helper()
	if x, ok := tree.Of(most, l); ok || x != nil {
		t.Errorf("Of of %s: %v %v", name, x, ok)
	}
}

// book is the reference: what is asked of a tree is looked up in its list.
type book []api.Node

func (b book) at(id int) int {
	return slices.IndexFunc(b, func(n api.Node) bool { return n.ID == id })
}

func (b book) kids(id int) []int {
	var l []int
	for _, n := range b {
		if n.Parent == id && n.ID != 0 {
			l = append(l, n.ID)
		}
	}
	return l
}

// line is a node and all that stand above it; none of one that isn't there.
func (b book) line(id int) []int {
	at := b.at(id)
	if at < 0 {
		return nil
	}
	if id == 0 {
		return []int{0}
	}
	return append([]int{id}, b.line(b[at].Parent)...)
}

// parent is -1 of none, as of the root.
func (b book) parent(id int) int {
	if at := b.at(id); at >= 0 {
		return b[at].Parent
	}
	return -1
}

// agree tells where x answers otherwise than the book of l.
func agree(t *testing.T, x *tree.Tree, l []api.Node, ids []int) {
	t.Helper()
	b := book(l)
	if x.Len() != len(l) {
		t.Errorf("Len: %d, not %d", x.Len(), len(l))
	}
	for _, id := range ids {
		at := b.at(id)
		want := api.Node{}
		if at >= 0 {
			want = b[at]
		}
		if n, ok := x.Node(id); ok != (at >= 0) || !like([]api.Node{n}, []api.Node{want}) {
			t.Errorf("Node(%d): %v %v, not %v", id, n, ok, want)
		}
		if x.Has(id) != (at >= 0) {
			t.Errorf("Has(%d): %v", id, x.Has(id))
		}
		var kids []int
		if at >= 0 {
			kids = b.kids(id)
		}
		if got := x.Kids(id); !slices.Equal(got, kids) {
			t.Errorf("Kids(%d): %v, not %v", id, got, kids)
		}
		if got := x.Parent(id); got != b.parent(id) {
			t.Errorf("Parent(%d): %d, not %d", id, got, b.parent(id))
		}
		line := b.line(id)
		if got := x.Deep(id); got != len(line)-1 {
			t.Errorf("Deep(%d): %d, not %d", id, got, len(line)-1)
		}
		for _, of := range ids {
			if got := x.Below(id, of); got != slices.Contains(line, of) {
				t.Errorf("Below(%d, %d): %v", id, of, got)
			}
		}
	}
	if got := x.Say(); !like(got, l) {
		t.Errorf("Say: %v, not %v", got, l)
	}
}

// everyID is those that may be, and some beside them.
func everyID() []int {
	var l []int
	for id := -3; id <= api.MaxID+3; id++ {
		l = append(l, id)
	}
	return append(l, math.MinInt, math.MaxInt)
}

// 6.1

func TestNewIsTheRootAlone(t *testing.T) {
	for _, most := range []int{math.MinInt, -1, 0, 1, 2, 500, 501, math.MaxInt} {
		agree(t, tree.New(most), []api.Node{root}, everyID())
	}
}

func TestEachNodeIsAnswered(t *testing.T) {
	agree(t, made(t, 12, field()), field(), everyID())
}

func TestTreesOfOneLine(t *testing.T) {
	for _, l := range [][]api.Node{chain(20), flat(499), {root}, {root, text(1000, 0, "")}} {
		var ids []int
		for _, n := range l {
			ids = append(ids, n.ID)
		}
		agree(t, made(t, 500, l), l, append(ids, -1, 777))
	}
}

// By hand, so that the reference isn't believed alone.
func TestWhatIsToldOfOneTree(t *testing.T) {
	x := made(t, 12, field())
	for id, kids := range map[int][]int{0: {40, 5, 4}, 40: {7, 1000, 1}, 1000: {3, 6}, 3: {900, 2}, 4: {12}, 12: nil, 7: nil, 8: nil, -1: nil} {
		if got := x.Kids(id); !slices.Equal(got, kids) {
			t.Errorf("Kids(%d): %v, not %v", id, got, kids)
		}
	}
	for id, parent := range map[int]int{0: -1, 40: 0, 1000: 40, 3: 1000, 900: 3, 8: -1, -1: -1, 1001: -1} {
		if got := x.Parent(id); got != parent {
			t.Errorf("Parent(%d): %d, not %d", id, got, parent)
		}
	}
	for id, deep := range map[int]int{0: 0, 40: 1, 1000: 2, 3: 3, 900: 4, 12: 2, 8: -1, -1: -1, 1001: -1} {
		if got := x.Deep(id); got != deep {
			t.Errorf("Deep(%d): %d, not %d", id, got, deep)
		}
	}
	for _, c := range []struct {
		id, of int
		is     bool
	}{
		{900, 900, true}, {900, 3, true}, {900, 1000, true}, {900, 40, true}, {900, 0, true}, {0, 0, true},
		{900, 2, false}, {900, 6, false}, {900, 4, false}, {3, 900, false}, {0, 900, false}, {0, 40, false},
		{8, 8, false}, {8, 0, false}, {0, 8, false}, {-1, -1, false}, {0, -1, false}, {-1, 0, false}, {40, -1, false}, {1001, 1001, false},
	} {
		if got := x.Below(c.id, c.of); got != c.is {
			t.Errorf("Below(%d, %d): %v", c.id, c.of, got)
		}
	}
	for _, want := range field() {
		if n, ok := x.Node(want.ID); !ok || !like([]api.Node{n}, []api.Node{want}) {
			t.Errorf("Node(%d): %v %v", want.ID, n, ok)
		}
	}
	if n, ok := x.Node(8); ok || !reflect.DeepEqual(n, api.Node{}) {
		t.Error("Node(8):", n, ok)
	}
}

func TestCopyIsLikeIt(t *testing.T) {
	for _, l := range [][]api.Node{{root}, field(), chain(20), flat(499)} {
		x := made(t, 500, l)
		c := x.Copy()
		if c == x {
			t.Fatal("Copy: the tree itself")
		}
		agree(t, c, l, []int{-1, 0, 1, 2, 3, 4, 5, 6, 7, 12, 20, 21, 40, 502, 900, 999, 1000, 1001})
		agree(t, c.Copy(), l, []int{0})
	}
	agree(t, tree.New(3).Copy(), []api.Node{root}, everyID())
}

func TestOfTakesWhatSayCanTell(t *testing.T) {
	styled := root
	styled.Style = []api.Decl{flex, order, wide}
	for _, c := range []struct {
		most int
		l    []api.Node
	}{
		{5, []api.Node{root}},
		{math.MinInt, []api.Node{root}},
		{0, []api.Node{root}},
		{1, []api.Node{styled}},
		{2, []api.Node{styled, text(1, 0, "")}},
		{12, field()},
		{math.MaxInt, field()},
		{500, chain(20)},
		{21, chain(20)},
		{500, flat(499)},
		{math.MaxInt, flat(499)},
		{5, []api.Node{root, text(1, 0, strings.Repeat("x", 1000))}},
		{5, []api.Node{root, text(1, 0, strings.Repeat("\xff", 1000))}},
		{5, []api.Node{root, {ID: 1, Text: true, Style: []api.Decl{}}}},
		{5, []api.Node{root, element(1, 0), text(2, 1, ""), text(3, 1, ""), element(4, 0)}},
		{5, append(chain(3), element(4, 0))},
		{5, append(chain(3), text(4, 1, "x"))},
		{500, append(chain(20), text(21, 19, "x"))},
	} {
		made(t, c.most, c.l)
	}
}

// Each list is one that Say can tell, but for one thing.
func TestOfTakesNothingElse(t *testing.T) {
	for _, c := range []struct {
		name string
		most int
		l    []api.Node
	}{
		{"nil", 5, nil},
		{"an empty list", 5, []api.Node{}},
		{"a root of another id", 5, []api.Node{element(1, -1)}},
		{"a root of itself", 5, []api.Node{element(0, 0)}},
		{"a root of another one", 5, []api.Node{element(0, 1), element(1, 0)}},
		{"a root of -2", 5, []api.Node{element(0, -2)}},
		{"a text as root", 5, []api.Node{text(0, -1, "")}},
		{"a root with bytes", 5, []api.Node{{Parent: -1, Data: "x"}}},
		{"a root with what no text tells", 5, []api.Node{element(0, -1, api.Decl{})}},
		{"a root that isn't the first", 5, []api.Node{element(1, 0), root}},
		{"two roots", 5, []api.Node{root, root}},
		{"two without a parent", 5, []api.Node{root, element(1, -1)}},
		{"the root as a kid", 5, []api.Node{root, element(0, 0)}},
		{"an id below 0", 5, []api.Node{root, element(-1, 0)}},
		{"an id above 1000", 5, []api.Node{root, element(1001, 0)}},
		{"the greatest id", 5, []api.Node{root, element(math.MaxInt, 0)}},
		{"the least id", 5, []api.Node{root, element(math.MinInt, 0)}},
		{"an id again", 5, []api.Node{root, element(1, 0), element(1, 0)}},
		{"an id again below itself", 5, []api.Node{root, element(1, 0), element(1, 1)}},
		{"an id again of another kind", 5, []api.Node{root, element(1, 0), text(1, 0, "")}},
		{"one's own parent", 5, []api.Node{root, element(1, 1)}},
		{"a parent that isn't there", 5, []api.Node{root, element(1, 2)}},
		{"a parent of -1001", 5, []api.Node{root, element(1, -1001)}},
		{"a parent that comes later", 5, []api.Node{root, element(1, 2), element(2, 0)}},
		{"two that are each other's", 5, []api.Node{root, element(1, 2), element(2, 1)}},
		{"a text with a kid", 5, []api.Node{root, text(1, 0, ""), element(2, 1)}},
		{"a text with a text", 5, []api.Node{root, text(1, 0, "x"), text(2, 1, "y")}},
		{"kids before a kid's kids", 5, []api.Node{root, element(1, 0), element(2, 0), element(3, 1)}},
		{"a kid behind the next one's", 9, []api.Node{root, element(1, 0), element(2, 1), element(3, 1), element(4, 2)}},
		{"a kid behind one of the root", 9, []api.Node{root, element(1, 0), element(2, 1), element(3, 0), text(4, 2, "")}},
		{"more than may be", 2, []api.Node{root, element(1, 0), element(2, 0)}},
		{"two where one may be", 0, []api.Node{root, element(1, 0)}},
		{"two where -5 may be", -5, []api.Node{root, element(1, 0)}},
		{"501", 501, flat(500)},
		{"501 in one line of many", math.MaxInt, flat(500)},
		{"21 above one", 500, chain(21)},
		{"21 above a text", 500, append(chain(20), text(99, 20, ""))},
		{"a text of 1001 bytes", 5, []api.Node{root, text(1, 0, strings.Repeat("x", 1001))}},
		{"a text with declarations", 5, []api.Node{root, {ID: 1, Text: true, Style: []api.Decl{flex}}}},
		{"a text with a wrong one", 5, []api.Node{root, {ID: 1, Text: true, Style: []api.Decl{{}}}}},
		{"an element with bytes", 5, []api.Node{root, {ID: 1, Data: "x"}}},
		{"an element with a 0 byte", 5, []api.Node{root, {ID: 1, Data: "\x00"}}},
	} {
		isNone(t, c.name, c.most, c.l)
	}
}

// decls is each property with words and lengths at the edges of what is told.
func decls() []api.Decl {
	var l []api.Decl
	for prop := -1; prop <= 34; prop++ {
		for _, word := range []int{-1001, -1000, -1, 0, 1, 2, 3, 4, 5, 1000, 1001} {
			l = append(l, api.Decl{Prop: prop, Word: word}, api.Decl{Prop: prop, Word: word, Len: api.Len{Kind: api.LFix, N: 64}})
		}
		for kind := -1; kind <= 4; kind++ {
			for _, n := range []int64{math.MinInt64, -6400001, -6400000, -65, -1, 0, 1, 64, 100000, 100001, 6400000, 6400001, math.MaxInt64} {
				l = append(l, api.Decl{Prop: prop, Len: api.Len{Kind: kind, N: n}})
			}
		}
	}
	return l
}

func TestOfAsksEachDeclarationByItself(t *testing.T) {
	told := 0
	for _, d := range decls() {
		_, ok := decl.Text([]api.Decl{d})
		if ok {
			told++
		}
		for _, style := range [][]api.Decl{{d}, {d, flex}, {flex, order, d}, {d, d}} {
			for _, l := range [][]api.Node{{element(0, -1, style...)}, {root, element(1, 0, style...)}} {
				x, is := tree.Of(5, l)
				if is != ok || is != (x != nil) || is && !like(x.Say(), l) {
					t.Fatalf("Of of %v: %v, not %v", style, is, ok)
				}
			}
		}
	}
	if told < 100 {
		t.Error("hardly any of them is told:", told)
	}
	// No text tells them all, but one each of them.
	many := slices.Repeat([]api.Decl{wide}, 1000)
	if _, ok := decl.Text(many); ok {
		t.Fatal("a text tells all of the many")
	}
	made(t, 5, []api.Node{root, element(1, 0, many...), element(2, 0, many...)})
	isNone(t, "many and a wrong one", 5, []api.Node{root, element(1, 0, append(many, api.Decl{})...)})
}

func TestWhatIsHandedInStays(t *testing.T) {
	room := append(field(), element(77, 0), text(78, 0, "x"))
	style := make([]api.Decl, 2, 5)
	style[0], style[1] = flex, order
	room[1].Style = style
	l := room[:12]
	x := made(t, 12, l)
	c := x.Copy()
	x.Say()
	tree.Of(1, l)
	if !like(room, append(field(), element(77, 0), text(78, 0, "x"))) || !slices.Equal(style[:5], []api.Decl{flex, order, {}, {}, {}}) {
		t.Error("what is handed in was changed")
	}
	clear(style[:5])
	clear(room)
	agree(t, x, field(), []int{0, 40, 1000})
	agree(t, c, field(), []int{0, 40, 1000})
	top := []api.Decl{flex}
	y := made(t, 1, []api.Node{element(0, -1, top...)})
	clear(top)
	agree(t, y, []api.Node{element(0, -1, flex)}, []int{0})
}

// spoil writes over all that was answered, and over the spare room behind it.
func spoil(l []api.Node) {
	for i := range l {
		style := l[i].Style[:cap(l[i].Style)]
		for j := range style {
			style[j] = api.Decl{Prop: 99, Word: 99}
		}
	}
	clear(l[:cap(l)])
}

func TestWhatIsAnsweredIsNew(t *testing.T) {
	x := made(t, 12, field())
	c := x.Copy()
	for _, y := range []*tree.Tree{x, c} {
		spoil(y.Say())
		for _, id := range everyID() {
			n, _ := y.Node(id)
			spoil([]api.Node{n})
			kids := y.Kids(id)
			kids = kids[:cap(kids)]
			for i := range kids {
				kids[i] = 99
			}
		}
		agree(t, x, field(), []int{0, 3, 4, 40, 1000})
		agree(t, c, field(), []int{0, 3, 4, 40, 1000})
	}
	l := x.Say()
	other := x.Say()
	spoil(l[:1:1])
	l[1].Style[0] = api.Decl{}
	if !like(other, field()) {
		t.Error("two answers share")
	}
}

// 6.2

// grown answers what Say tells of some tree of so many nodes.
func grown(r *rand.Rand, nodes int) []api.Node {
	ids := r.Perm(api.MaxID)
	l := []api.Node{root}
	if r.Intn(2) == 0 {
		l[0].Style = []api.Decl{order}
	}
	for len(l) < nodes {
		line := book(l).line(l[len(l)-1].ID)
		parent := line[min(r.Intn(len(line)), r.Intn(len(line)))]
		at := book(l).at(parent)
		if l[at].Text || len(book(l).line(parent)) > api.MaxDeep {
			continue
		}
		n := element(ids[len(l)]+1, parent)
		switch r.Intn(4) {
		case 0:
			n = text(n.ID, parent, strings.Repeat("a", r.Intn(4)))
		case 1:
			n.Style = []api.Decl{wide, flex}[:1+r.Intn(2)]
		}
		l = append(l, n)
	}
	return l
}

// isSaid is the reference: whether l is what Say tells of the tree in which
// each is a kid of the one that it names.
func isSaid(most int, l []api.Node) bool {
	if len(l) == 0 || len(l) > min(max(most, 1), 500) || l[0].ID != 0 || l[0].Parent != -1 || l[0].Text {
		return false
	}
	seen := map[int]bool{}
	for i, n := range l {
		if n.ID < 0 || n.ID > 1000 || seen[n.ID] || len(n.Data) > 1000 || n.Text && len(n.Style) > 0 || !n.Text && n.Data != "" {
			return false
		}
		seen[n.ID] = true
		for _, d := range n.Style {
			if _, ok := decl.Text([]api.Decl{d}); !ok {
				return false
			}
		}
		if i > 0 && n.ID == 0 {
			return false
		}
	}
	told, ok := walked(book(l), l[0], 0)
	return ok && like(told, l)
}

// walked answers a node with all below it; false if a text has kids, or one
// stands too deep.
func walked(b book, n api.Node, deep int) ([]api.Node, bool) {
	l := []api.Node{n}
	kids := b.kids(n.ID)
	if deep > 20 || n.Text && len(kids) > 0 {
		return nil, false
	}
	for _, id := range kids {
		below, ok := walked(b, b[b.at(id)], deep+1)
		if !ok {
			return nil, false
		}
		l = append(l, below...)
	}
	return l, true
}

func TestWhatIsToldIsMadeAgain(t *testing.T) {
	r := rand.New(rand.NewSource(62))
	for range 300 {
		l := grown(r, 1+r.Intn(60))
		var ids []int
		for _, n := range l {
			ids = append(ids, n.ID)
		}
		x := made(t, len(l)+r.Intn(3), l)
		again := made(t, 500, x.Say())
		for _, y := range []*tree.Tree{x, again, x.Copy()} {
			agree(t, y, l, append(ids, -1, 1001))
		}
		if len(l) > 1 {
			isNone(t, "one more than may be", len(l)-1, l)
		}
	}
}

// turned is l with one thing of it turned.
func turned(r *rand.Rand, l []api.Node) []api.Node {
	l = slices.Clone(l)
	i, j := r.Intn(len(l)), r.Intn(len(l))
	switch r.Intn(9) {
	case 0:
		l[i], l[j] = l[j], l[i]
	case 1:
		l[i].Parent = l[j].ID
	case 2:
		l[i].ID = l[j].ID
	case 3:
		l[i].ID, l[j].ID = l[j].ID, l[i].ID
	case 4:
		l[i].Text = !l[i].Text
	case 5:
		l = slices.Delete(l, i, i+1)
	case 6:
		l = slices.Insert(l, j, l[i])
	case 7:
		l[i].ID = r.Intn(1010) - 4
	case 8:
		n := l[i]
		l = slices.Insert(slices.Delete(l, i, i+1), min(j, len(l)-1), n)
	}
	return l
}

func TestOfTakesJustWhatSayTells(t *testing.T) {
	r := rand.New(rand.NewSource(61))
	count := map[bool]int{}
	for range 60000 {
		l := grown(r, 1+r.Intn(7))
		for range 1 + r.Intn(2) {
			if len(l) > 0 {
				l = turned(r, l)
			}
		}
		most := len(l) + r.Intn(4) - 1
		want := isSaid(most, l)
		count[want]++
		x, ok := tree.Of(most, l)
		if ok != want || ok != (x != nil) || ok && !like(x.Say(), l) {
			t.Fatalf("Of(%d, %v): %v, not %v", most, l, ok, want)
		}
	}
	if count[true] < 10000 || count[false] < 10000 {
		t.Error("hardly any of one kind:", count)
	}
}

// 6.3

func TestNoCallPanics(t *testing.T) {
	defer func() {
		if r := recover(); r != nil {
			t.Error("a call panicked:", r)
		}
	}()
	wild := []int{math.MinInt, math.MinInt + 1, -1 << 31, -1001, -2, -1, 0, 1, 2, 20, 21, 499, 500, 501, 999, 1000, 1001, 1 << 31, math.MaxInt - 1, math.MaxInt}
	for _, most := range wild {
		for _, id := range wild {
			for _, parent := range wild {
				for _, isText := range []bool{false, true} {
					n := api.Node{ID: id, Parent: parent, Text: isText}
					l := []api.Node{root, n}
					x, ok := tree.Of(most, l)
					if want := isSaid(most, l); ok != want || ok != (x != nil) {
						t.Errorf("Of(%d, %v): %v", most, l, ok)
					}
					if got, ok := tree.Of(most, l[1:]); ok != isSaid(most, l[1:]) || ok != (got != nil) {
						t.Errorf("Of(%d, %v): %v", most, l[1:], ok)
					}
				}
			}
		}
	}
	for _, x := range []*tree.Tree{tree.New(5), made(t, 12, field()), made(t, 21, chain(20))} {
		agree(t, x, x.Say(), wild)
	}
	isNone(t, "a long list", 500, make([]api.Node, 1000000))
	isNone(t, "a long text", 500, []api.Node{root, text(1, 0, strings.Repeat("x", 1<<20))})
	made(t, 500, []api.Node{root, element(1, 0, slices.Repeat([]api.Decl{flex}, 100000)...)})
}
