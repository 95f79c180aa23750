package whit_test

import (
	"math"
	"math/rand"
	"slices"
	"strings"
	"testing"

	"quoin/api"
	"quoin/gaug"
	"quoin/whit"
)

// The white-spaces, by the numbers that a Run has.
const (
	normal = 0
	nowrap = 1
	pre    = 2
)

const mostAdv = 65536

// varied is metrics by which no byte leads as far as another one.
func varied() api.Metrics {
	var m api.Metrics
	for b := range m.Adv {
		m.Adv[b] = int64(b) + 1
	}
	return m
}

// others is white-spaces that there are not, some of which a narrower number
// would take for one that there is.
func others() []int {
	return []int{
		-1, -2, 3, 4, 9, 255, 256, 257, 258, 1 << 16, 1<<16 + 1, 1<<16 + 2, 1 << 32, 1<<32 + 1, 1<<32 + 2, -1<<32 + 2,
		math.MaxInt, math.MinInt, math.MinInt + 1, math.MinInt + 2,
	}
}

// plain is a run of a text alone.
func plain(s string, white int) api.Run {
	return api.Run{Text: s, White: white}
}

// written is runs as they are written: each text behind a letter for its
// white-space, n, w or p.
func written(l ...string) []api.Run {
	var runs []api.Run
	for _, s := range l {
		runs = append(runs, plain(s[1:], strings.Index("nwp", s[:1])))
	}
	return runs
}

func ink(run, at int, b byte) api.Glyph {
	return api.Glyph{Kind: api.GInk, Run: run, At: at, Adv: int64(b) + 1}
}

func space(run, at int) api.Glyph {
	return api.Glyph{Kind: api.GSpace, Run: run, At: at, Adv: ' ' + 1}
}

func hold(run, at int) api.Glyph {
	return api.Glyph{Kind: api.GHold, Run: run, At: at, Adv: ' ' + 1}
}

func lineEnd(run, at int) api.Glyph {
	return api.Glyph{Kind: api.GBreak, Run: run, At: at}
}

// told is the glyphs by the chapter's words, one sentence at a time: all bytes,
// then the rows of blanks as one, then without those that are left out.
func told(m api.Metrics, runs []api.Run) []api.Glyph {
	var bytes []api.Glyph
	for i, r := range runs {
		for at, b := range []byte(r.Text) {
			bytes = append(bytes, alone(m, r.White, i, at, b))
		}
	}
	var rows []api.Glyph
	for i, g := range bytes {
		if !isBlank(g) || i == 0 || !isBlank(bytes[i-1]) {
			rows = append(rows, g)
		}
	}
	var left []api.Glyph
	for i, g := range rows {
		out := i == 0 || i == len(rows)-1 || rows[i-1].Kind == api.GBreak || rows[i+1].Kind == api.GBreak
		if !isBlank(g) || !out {
			left = append(left, g)
		}
	}
	return left
}

// alone is the glyph of a byte if it stood without others.
func alone(m api.Metrics, white, run, at int, b byte) api.Glyph {
	g := api.Glyph{Kind: api.GInk, Run: run, At: at, Adv: gaug.Wide(m, string([]byte{b}))}
	if white == pre {
		if b == 10 {
			g.Kind, g.Adv = api.GBreak, 0
		}
		return g
	}
	switch b {
	case 32, 9, 10, 13:
		g.Kind, g.Adv = api.GSpace, gaug.Wide(m, " ")
		if white == nowrap {
			g.Kind = api.GHold
		}
	}
	return g
}

func isBlank(g api.Glyph) bool {
	return g.Kind == api.GSpace || g.Kind == api.GHold
}

// lists calls do with each list of n runs, each of one of the texts with one of
// the white-spaces.
func lists(n int, texts []string, do func(runs []api.Run)) {
	runs := make([]api.Run, n)
	var from func(i int)
	from = func(i int) {
		if i == n {
			do(runs)
			return
		}
		for _, s := range texts {
			for white := normal; white <= pre; white++ {
				runs[i] = plain(s, white)
				from(i + 1)
			}
		}
	}
	from(0)
}

// many calls do with all lists of some few runs, and with chosen longer ones.
func many(do func(runs []api.Run)) {
	for n := range 6 {
		lists(n, []string{"", "a", " ", "\n"}, do)
	}
	lists(1, words(6), do)
	lists(2, words(3), do)
	lists(3, []string{"", "a", "\t\r", " a", "a ", "a b", " \n", "\n ", "\n\n", " \n ", "\n \n", " a\n b "}, do)
	r := rand.New(rand.NewSource(10))
	for range 3000 {
		var runs []api.Run
		for range r.Intn(30) {
			s := make([]byte, r.Intn(12))
			for i := range s {
				s[i] = " \t\n\rab"[r.Intn(6)]
			}
			runs = append(runs, plain(string(s), r.Intn(5)-1))
		}
		do(runs)
	}
}

// words is all texts of at most n bytes of some few.
func words(n int) []string {
	l := []string{""}
	for from := 0; n > 0; n-- {
		to := len(l)
		for _, s := range l[from:to] {
			for _, b := range []string{"a", " ", "\n", "\r"} {
				l = append(l, s+b)
			}
		}
		from = to
	}
	return l
}

// 10.1

func TestGlyphs(t *testing.T) {
	for _, x := range []struct {
		runs []api.Run
		want []api.Glyph
	}{
		// No bytes.
		{nil, nil},
		{[]api.Run{}, nil},
		{written("n"), nil},
		{written("w"), nil},
		{written("p"), nil},
		{written("n", "w", "p", "n"), nil},
		// The document's example.
		{written("n a  b "), []api.Glyph{ink(0, 1, 'a'), space(0, 2), ink(0, 4, 'b')}},
		{written("w a  b "), []api.Glyph{ink(0, 1, 'a'), hold(0, 2), ink(0, 4, 'b')}},
		{written("p a  b "), []api.Glyph{ink(0, 0, ' '), ink(0, 1, 'a'), ink(0, 2, ' '), ink(0, 3, ' '), ink(0, 4, 'b'), ink(0, 5, ' ')}},
		// No blanks.
		{written("na"), []api.Glyph{ink(0, 0, 'a')}},
		{written("nab", "wc", "pd"), []api.Glyph{ink(0, 0, 'a'), ink(0, 1, 'b'), ink(1, 0, 'c'), ink(2, 0, 'd')}},
		{written("n", "na", "w", "p", "nb"), []api.Glyph{ink(1, 0, 'a'), ink(4, 0, 'b')}},
		// Nothing but blanks.
		{written("n "), nil},
		{written("w \t\r\n"), nil},
		{written("n ", "w ", "n", "n\n"), nil},
		// Each white byte, and rows of them; their Adv is that of byte 32.
		{written("na\tb"), []api.Glyph{ink(0, 0, 'a'), space(0, 1), ink(0, 2, 'b')}},
		{written("na\nb"), []api.Glyph{ink(0, 0, 'a'), space(0, 1), ink(0, 2, 'b')}},
		{written("na\rb"), []api.Glyph{ink(0, 0, 'a'), space(0, 1), ink(0, 2, 'b')}},
		{written("wa\nb"), []api.Glyph{ink(0, 0, 'a'), hold(0, 1), ink(0, 2, 'b')}},
		{written("na\n\r\t \n\nb \tc"), []api.Glyph{ink(0, 0, 'a'), space(0, 1), ink(0, 7, 'b'), space(0, 8), ink(0, 10, 'c')}},
		// A row of several runs is its first byte's.
		{written("na ", "n b"), []api.Glyph{ink(0, 0, 'a'), space(0, 1), ink(1, 1, 'b')}},
		{written("na ", "w b"), []api.Glyph{ink(0, 0, 'a'), space(0, 1), ink(1, 1, 'b')}},
		{written("wa ", "n b"), []api.Glyph{ink(0, 0, 'a'), hold(0, 1), ink(1, 1, 'b')}},
		{written("na", "w ", "n b"), []api.Glyph{ink(0, 0, 'a'), hold(1, 0), ink(2, 1, 'b')}},
		{written("wa", "n ", "w b"), []api.Glyph{ink(0, 0, 'a'), space(1, 0), ink(2, 1, 'b')}},
		{written("wa \t", "n", "p", "w", "n\n\n", "n ", "nb"), []api.Glyph{ink(0, 0, 'a'), hold(0, 1), ink(6, 0, 'b')}},
		// A blank of pre is ink: it ends a row, and stands at ends.
		{written("na ", "p ", "n b"), []api.Glyph{ink(0, 0, 'a'), space(0, 1), ink(1, 0, ' '), space(2, 0), ink(2, 1, 'b')}},
		{written("n ", "p ", "w "), []api.Glyph{ink(1, 0, ' ')}},
		{written("p ", "n ", "p\t"), []api.Glyph{ink(0, 0, ' '), space(1, 0), ink(2, 0, '\t')}},
		// Of pre a LF alone is a break.
		{written("p\t\r "), []api.Glyph{ink(0, 0, '\t'), ink(0, 1, '\r'), ink(0, 2, ' ')}},
		{written("p\n"), []api.Glyph{lineEnd(0, 0)}},
		{written("p\n\n"), []api.Glyph{lineEnd(0, 0), lineEnd(0, 1)}},
		{written("pa\r\nb"), []api.Glyph{ink(0, 0, 'a'), ink(0, 1, '\r'), lineEnd(0, 2), ink(0, 3, 'b')}},
		{written("p \n "), []api.Glyph{ink(0, 0, ' '), lineEnd(0, 1), ink(0, 2, ' ')}},
		// Blanks beside a break are left out, and those of pre are not.
		{written("na ", "p\n", "nb"), []api.Glyph{ink(0, 0, 'a'), lineEnd(1, 0), ink(2, 0, 'b')}},
		{written("na", "p\n", "n b"), []api.Glyph{ink(0, 0, 'a'), lineEnd(1, 0), ink(2, 1, 'b')}},
		{written("wa \t", "w ", "p\n", "w ", "n b c "), []api.Glyph{ink(0, 0, 'a'), lineEnd(2, 0), ink(4, 1, 'b'), space(4, 2), ink(4, 3, 'c')}},
		{written("p\n", "n ", "p\n"), []api.Glyph{lineEnd(0, 0), lineEnd(2, 0)}},
		{written("n ", "p\n", "w "), []api.Glyph{lineEnd(1, 0)}},
		{written("p\n ", "n ", "p \n"), []api.Glyph{lineEnd(0, 0), ink(0, 1, ' '), space(1, 0), ink(2, 0, ' '), lineEnd(2, 1)}},
		{written("n ", "p\na", "w b"), []api.Glyph{lineEnd(1, 0), ink(1, 1, 'a'), hold(2, 0), ink(2, 1, 'b')}},
		// What is left out takes nothing else with it.
		{written("n a b c "), []api.Glyph{ink(0, 1, 'a'), space(0, 2), ink(0, 3, 'b'), space(0, 4), ink(0, 5, 'c')}},
		{written("na ", "p\n", "n b ", "p\n", "n c"), []api.Glyph{ink(0, 0, 'a'), lineEnd(1, 0), ink(2, 1, 'b'), lineEnd(3, 0), ink(4, 1, 'c')}},
	} {
		if got := whit.Glyphs(varied(), x.runs); !slices.Equal(got, x.want) {
			t.Errorf("%+v: %v, not %v", x.runs, got, x.want)
		}
	}
}

// Each byte between others, and at the ends, with each white-space.
func TestEachByte(t *testing.T) {
	const white = " \t\n\r"
	m := varied()
	for i := range 256 {
		b := byte(i)
		s := string([]byte{b})
		for _, w := range append(others(), normal, nowrap, pre) {
			between := ink(0, 1, b)
			ends := []api.Glyph{ink(0, 0, b), ink(0, 1, 'x'), ink(0, 2, b)}
			switch isWhite := strings.Contains(white, s); {
			case w == pre && b == '\n':
				between = lineEnd(0, 1)
				ends[0], ends[2] = lineEnd(0, 0), lineEnd(0, 2)
			case w == nowrap && isWhite:
				between, ends = hold(0, 1), ends[1:2]
			case w != pre && isWhite:
				between, ends = space(0, 1), ends[1:2]
			}
			want := []api.Glyph{ink(0, 0, 'x'), between, ink(0, 2, 'y')}
			if got := whit.Glyphs(m, []api.Run{plain("x"+s+"y", w)}); !slices.Equal(got, want) {
				t.Errorf("byte %d of white-space %d: %v, not %v", b, w, got, want)
			}
			if got := whit.Glyphs(m, []api.Run{plain(s+"x"+s, w)}); !slices.Equal(got, ends) {
				t.Errorf("byte %d of white-space %d at the ends: %v, not %v", b, w, got, ends)
			}
		}
	}
}

// White-spaces that there are not are as normal, in rows with others too.
func TestOtherWhitesAreNormal(t *testing.T) {
	texts := []string{" a \n b ", "a ", " ", "\n", " b"}
	for _, w := range others() {
		for _, beside := range []int{normal, nowrap, pre} {
			for _, s := range texts {
				for _, x := range texts {
					got := whit.Glyphs(varied(), []api.Run{plain("z", beside), plain(s, w), plain(x, beside), plain("\nz", w)})
					want := whit.Glyphs(varied(), []api.Run{plain("z", beside), plain(s, normal), plain(x, beside), plain("\nz", normal)})
					if !slices.Equal(got, want) {
						t.Errorf("%q, %q of white-space %d beside %d: %v, not %v", s, x, w, beside, got, want)
					}
				}
			}
		}
	}
}

func TestAdv(t *testing.T) {
	const text = "a \n"
	for _, x := range [][2]int64{
		{0, 0}, {1, 1}, {mostAdv - 1, mostAdv - 1}, {mostAdv, mostAdv}, {mostAdv + 1, mostAdv}, {-1, 0}, {-mostAdv, 0},
		{1 << 32, mostAdv}, {1<<32 + 1, mostAdv}, {-1 << 32, 0}, {1 - 1<<32, 0}, {math.MaxInt64, mostAdv}, {math.MinInt64, 0},
	} {
		for i := range len(text) {
			m := varied()
			m.Adv[text[i]] = x[0]
			want := varied()
			want.Adv[text[i]] = x[1]
			runs := []api.Run{plain("aa \n\tb ba", normal), plain(" \na\tb ", nowrap), plain(" \na\n \tb", pre)}
			got := whit.Glyphs(m, runs)
			for _, g := range got {
				adv := want.Adv[runs[g.Run].Text[g.At]]
				switch g.Kind {
				case api.GSpace, api.GHold:
					adv = want.Adv[' ']
				case api.GBreak:
					adv = 0
				}
				if g.Adv != adv {
					t.Errorf("where byte %d leads %d: %v leads %d, not %d", text[i], x[0], g, g.Adv, adv)
				}
			}
			if !slices.EqualFunc(got, whit.Glyphs(varied(), runs), isSameButAdv) {
				t.Errorf("where byte %d leads %d: other glyphs", text[i], x[0])
			}
		}
	}
}

func isSameButAdv(a, b api.Glyph) bool {
	return a.Kind == b.Kind && a.Run == b.Run && a.At == b.At
}

// A glyph that leads nothing shows as others do.
func TestGlyphsThatLeadNothing(t *testing.T) {
	want := []api.Glyph{
		{Kind: api.GInk}, {Kind: api.GSpace, At: 1}, {Kind: api.GInk, At: 3}, {Kind: api.GSpace, At: 4},
		{Kind: api.GInk, Run: 1}, {Kind: api.GBreak, Run: 1, At: 1},
	}
	if got := whit.Glyphs(api.Metrics{}, written("na  b ", "pc\n")); !slices.Equal(got, want) {
		t.Errorf("%v, not %v", got, want)
	}
}

// Bytes are told one by one, whatever they would be together.
func TestBytesOfRunes(t *testing.T) {
	for _, s := range []string{
		"\u00e9", "\u00a0", "\u0085", "\u2003", "\u2028", "\u3000", "\ufeff", "\U0001f600",
		"\xc2", "\xa0", "\x85", "\xff\xfe", "\xf0\x9f\x98", "\xc0\xa0", "\x00", "\v\f", "\x1c\x1f", "\x7f",
	} {
		for white := normal; white <= pre; white++ {
			var want []api.Glyph
			for at := range len(s) {
				want = append(want, ink(0, at, s[at]))
			}
			if got := whit.Glyphs(varied(), []api.Run{plain(s, white)}); !slices.Equal(got, want) {
				t.Errorf("%q: %v, not %v", s, got, want)
			}
		}
	}
}

// Of a run its text and its white-space count, and nothing else.
func TestNodeAndLineDoNotCount(t *testing.T) {
	runs := written("na ", "w b", "p\nc", "n d ")
	want := whit.Glyphs(varied(), runs)
	for i, n := range []int64{0, -1, 1, 1000, api.Far, math.MaxInt64, math.MinInt64} {
		for j := range runs {
			runs[j].Node, runs[j].Line = int(n)-j, n+int64(i*j)
		}
		if got := whit.Glyphs(varied(), runs); !slices.Equal(got, want) {
			t.Errorf("with %d: %v, not %v", n, got, want)
		}
	}
}

func TestGlyphsAreAsTold(t *testing.T) {
	m := varied()
	many(func(runs []api.Run) {
		if got, want := whit.Glyphs(m, runs), told(m, runs); !slices.Equal(got, want) {
			t.Fatalf("%+v: %v, not %v", runs, got, want)
		}
	})
}

// Runs may be longer, and more, than those of a tree.
func TestLongRuns(t *testing.T) {
	m := varied()
	const n = 70000
	blanks := strings.Repeat(" \t\r\n", n/4)
	for _, runs := range [][]api.Run{
		written("n" + blanks),
		written("na" + blanks + "b"),
		written("n"+blanks, "p\n", "w"+blanks, "nab"+blanks, "p ", "n"+blanks),
		written("p" + blanks),
		written("n" + strings.Repeat("ab c ", n)),
		slices.Repeat(written("n ", "w", "n\n"), n),
		slices.Repeat(written("na", "w ", "n "), n),
		slices.Repeat(written("p\n", "n "), n),
	} {
		if !slices.Equal(whit.Glyphs(m, runs), told(m, runs)) {
			t.Errorf("%d runs, the first of %d bytes: not as told", len(runs), len(runs[0].Text))
		}
	}
}

// What is handed in is as it was, and what is answered is new.
func TestRunsAreNotTouched(t *testing.T) {
	all := written("na ", "w b ", "pc\n", "n d", "ne", "w f")
	before := slices.Clone(all)
	runs := all[:4]
	want := told(varied(), runs)
	first := whit.Glyphs(varied(), runs)
	second := whit.Glyphs(varied(), runs)
	for _, l := range [][]api.Glyph{first, first[:cap(first)]} {
		for i := range l {
			l[i] = api.Glyph{Kind: 9, Run: 9, At: 9, Adv: 9}
		}
	}
	if !slices.Equal(second, want) {
		t.Error("two answers share memory")
	}
	if got := whit.Glyphs(varied(), runs); !slices.Equal(got, want) {
		t.Error("an answer was kept")
	}
	if !slices.Equal(all, before) {
		t.Errorf("%+v: %+v were handed in", all, before)
	}
	for i := range all {
		all[i] = plain("zzz", pre)
	}
	if !slices.Equal(second, want) {
		t.Error("an answer hangs on what was handed in")
	}
}

// 10.2

func TestBlanksStandAlone(t *testing.T) {
	m := varied()
	many(func(runs []api.Run) {
		l := whit.Glyphs(m, runs)
		for i, g := range l {
			if !isBlank(g) {
				continue
			}
			if i == 0 || i == len(l)-1 {
				t.Fatalf("%+v: a blank at an end of %v", runs, l)
			}
			if isBlank(l[i-1]) || isBlank(l[i+1]) {
				t.Fatalf("%+v: two blanks side by side in %v", runs, l)
			}
			if l[i-1].Kind == api.GBreak || l[i+1].Kind == api.GBreak {
				t.Fatalf("%+v: a blank beside a break in %v", runs, l)
			}
		}
	})
}

// Nothing but blanks goes: what is no blank is told, each byte once, in order.
func TestInkStays(t *testing.T) {
	m := varied()
	many(func(runs []api.Run) {
		var want, got [][2]int
		for i, r := range runs {
			for at, b := range []byte(r.Text) {
				if r.White == pre || !strings.Contains(" \t\n\r", string([]byte{b})) {
					want = append(want, [2]int{i, at})
				}
			}
		}
		for _, g := range whit.Glyphs(m, runs) {
			if !isBlank(g) {
				got = append(got, [2]int{g.Run, g.At})
			}
		}
		if !slices.Equal(got, want) {
			t.Fatalf("%+v: %v, not %v", runs, got, want)
		}
	})
}

// 10.3

func TestNoCallPanics(t *testing.T) {
	defer func() {
		if r := recover(); r != nil {
			t.Error("a call panicked:", r)
		}
	}()
	texts := append(words(3), "\x00", "\xff", "\xc3", "\xe6\x97", "\u2028", strings.Repeat(" ", 5000), strings.Repeat("\xff", 5000))
	var odd api.Metrics
	for b := range odd.Adv {
		odd.Adv[b] = int64(math.MinInt64) + int64(b)<<56
	}
	for _, m := range []api.Metrics{{}, varied(), odd} {
		whit.Glyphs(m, nil)
		whit.Glyphs(m, make([]api.Run, 3))
		for _, s := range texts {
			for _, white := range append(others(), normal, nowrap, pre) {
				r := api.Run{Node: white, Text: s, White: white, Line: int64(white)}
				whit.Glyphs(m, []api.Run{r})
				whit.Glyphs(m, []api.Run{r, {}, r})
			}
		}
	}
}
