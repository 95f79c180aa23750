package decl_test

import (
	"math"
	"math/rand"
	"regexp"
	"slices"
	"strconv"
	"strings"
	"testing"

	"quoin/api"
	"quoin/decl"
)

func fix(n int64) api.Len { return api.Len{Kind: api.LFix, N: n} }

func pct(n int64) api.Len { return api.Len{Kind: api.LPct, N: n} }

// property is what the chapter says of one, written out once more.
type property struct {
	name        string
	words       string
	whole       bool
	least, most int
	length      bool
	auto        string
	percent     bool
	minus       bool
}

func withWords(name, words string) property { return property{name: name, words: words} }

func withWhole(name string, least, most int) property {
	return property{name: name, whole: true, least: least, most: most}
}

func size(name string) property {
	return property{name: name, length: true, auto: "auto", percent: true}
}

func least(name string) property { return property{name: name, length: true, percent: true} }

func most(name string) property {
	return property{name: name, length: true, auto: "none", percent: true}
}

func margin(name string) property {
	return property{name: name, length: true, auto: "auto", percent: true, minus: true}
}

func inPixels(name string) property { return property{name: name, length: true} }

// properties is all of them; the one at 0 is none.
func properties() []property {
	return []property{
		{},
		withWords("display", "block inline flex none"),
		size("width"), size("height"),
		least("min-width"), least("min-height"),
		most("max-width"), most("max-height"),
		margin("margin-top"), margin("margin-right"), margin("margin-bottom"), margin("margin-left"),
		inPixels("padding-top"), inPixels("padding-right"), inPixels("padding-bottom"), inPixels("padding-left"),
		inPixels("border-top"), inPixels("border-right"), inPixels("border-bottom"), inPixels("border-left"),
		withWords("flex-direction", "row row-reverse column column-reverse"),
		withWords("flex-wrap", "nowrap wrap wrap-reverse"),
		size("flex-basis"),
		withWhole("flex-grow", 0, 100), withWhole("flex-shrink", 0, 100),
		withWhole("order", -1000, 1000),
		withWords("justify-content", "start end center between around"),
		withWords("align-items", "start end center stretch"),
		withWords("align-self", "auto start end center stretch"),
		withWords("text-align", "left right center"),
		withWords("white-space", "normal nowrap pre"),
		inPixels("line-height"),
		withWords("overflow", "visible hidden"),
	}
}

// units is the reference: thousandths of a pixel to the nearest unit, a half up.
func units(thousandths int64) int64 {
	n := 128*thousandths + 1000
	if n < 0 && n%2000 != 0 {
		return n/2000 - 1
	}
	return n / 2000
}

var (
	pixelsForm  = regexp.MustCompile(`^(-?)([0-9]{1,5})(?:\.([0-9]{1,3}))?px$`)
	percentForm = regexp.MustCompile(`^(-?)([0-9]{1,4})(?:\.([0-9]{1,2}))?%$`)
	wholeForm   = regexp.MustCompile(`^-?[0-9]{1,4}$`)
	blanksForm  = regexp.MustCompile(`^[ \t\n]*`)
	nameForm    = regexp.MustCompile(`^[a-z-]*`)
	valueForm   = regexp.MustCompile(`^[a-z0-9.%-]*`)
)

// asLength reads a value as the chapter says, without regard to a property.
func asLength(value string) (api.Len, bool) {
	if value == "0" {
		return fix(0), true
	}
	if m := pixelsForm.FindStringSubmatch(value); m != nil {
		n, _ := strconv.ParseInt(m[1]+m[2]+(m[3] + "000")[:3], 10, 64)
		return fix(units(n)), true
	}
	if m := percentForm.FindStringSubmatch(value); m != nil {
		n, _ := strconv.ParseInt(m[1]+m[2]+(m[3] + "00")[:2], 10, 64)
		return pct(n), true
	}
	return api.Len{}, false
}

// wants is the reference: what a value is to a property.
func wants(prop int, value string) (api.Decl, bool) {
	p := properties()[prop]
	if p.words != "" {
		k := slices.Index(strings.Fields(p.words), value)
		return api.Decl{Prop: prop, Word: k}, k >= 0
	}
	if p.whole {
		n, _ := strconv.Atoi(value)
		ok := wholeForm.MatchString(value) && p.least <= n && n <= p.most
		return api.Decl{Prop: prop, Word: n}, ok
	}
	if p.auto != "" && value == p.auto {
		return api.Decl{Prop: prop}, true
	}
	l, ok := asLength(value)
	ok = ok && (l.Kind == api.LFix || p.percent) && (l.N >= 0 || p.minus)
	return api.Decl{Prop: prop, Len: l}, ok
}

// parsed is the reference of Parse, with a pattern for each of its parts.
func parsed(s string) ([]api.Decl, int, api.Errno) {
	if len(s) > 2000 {
		return nil, 0, api.ErrBig
	}
	skip := func(at int) int { return at + len(blanksForm.FindString(s[at:])) }
	var l []api.Decl
	at := skip(0)
	for at < len(s) {
		name := nameForm.FindString(s[at:])
		colon := skip(at + len(name))
		if name == "" {
			return nil, at, api.ErrSyntax
		}
		if !strings.HasPrefix(s[colon:], ":") {
			return nil, colon, api.ErrSyntax
		}
		from := skip(colon + 1)
		value := valueForm.FindString(s[from:])
		if value == "" {
			return nil, from, api.ErrSyntax
		}
		prop := slices.IndexFunc(properties(), func(p property) bool { return p.name == name })
		if prop < 0 {
			return nil, at, api.ErrName
		}
		d, ok := wants(prop, value)
		if !ok {
			return nil, from, api.ErrValue
		}
		l = append(l, d)
		at = skip(from + len(value))
		if at < len(s) {
			if s[at] != ';' {
				return nil, at, api.ErrSyntax
			}
			at = skip(at + 1)
		}
	}
	return l, 0, api.OK
}

// holdsParse holds Parse against the reference.
func holdsParse(t *testing.T, s string) {
	t.Helper()
	l, at, e := decl.Parse(s)
	wantL, wantAt, wantE := parsed(s)
	if !slices.Equal(l, wantL) || at != wantAt || e != wantE {
		t.Errorf("Parse(%q): %v %d %v, not %v %d %v", s, l, at, e, wantL, wantAt, wantE)
	}
}

// tells tells if Text of a list isn't this text, or Parse doesn't read that as
// the list again.
func tells(t *testing.T, l []api.Decl, want string) {
	t.Helper()
	if s, ok := decl.Text(l); s != want || !ok {
		t.Errorf("Text(%v): %q %v, not %q", l, s, ok, want)
	}
	if again, at, e := decl.Parse(want); !slices.Equal(again, l) || at != 0 || e != api.OK {
		t.Errorf("Parse(%q): %v %d %v, not %v", want, again, at, e, l)
	}
}

// tellsNot tells if Text tells a list.
func tellsNot(t *testing.T, l ...api.Decl) {
	t.Helper()
	if s, ok := decl.Text(l); s != "" || ok {
		t.Errorf("Text(%v): %q %v", l, s, ok)
	}
}

// 4.1

func TestPropsAreByTheirOrder(t *testing.T) {
	values := map[bool]string{true: "7", false: "2px"}
	for prop, p := range properties() {
		if prop == 0 {
			continue
		}
		value := values[p.whole]
		if p.words != "" {
			value = strings.Fields(p.words)[0]
		}
		l, at, e := decl.Parse(p.name + ":" + value)
		if len(l) != 1 || l[0].Prop != prop || at != 0 || e != api.OK {
			t.Errorf("%s: %v %d %v, not Prop %d", p.name, l, at, e, prop)
		}
	}
}

// values has one of each sort, and what is close by each of them.
func values() []string {
	l := []string{
		"0", "1", "7", "00", "0000", "00000", "-0", "-1", "-00", "99", "100", "101", "0100", "00100", "-100", "999", "1000", "1001", "-999", "-1000", "-1001", "9999", "10000", "-9999", "-10000",
		"0px", "-0px", "0.000px", "-0.000px", "1px", "-1px", "00001px", "000001px", "1.5px", "1.50px", "1.500px", "1.5000px", "-1.5px", "10px", "99999px", "100000px", "-99999px", "-100000px",
		"99999.999px", "-99999.999px", "99999.993px", "99999.992px", "-99999.992px", "-99999.993px", "0.007px", "0.008px", "-0.007px", "-0.008px", "0.023px", "0.024px", "0.001px", "-0.001px", "-0.01px",
		".5px", "1.px", ".px", "px", "-px", "-.5px", "--1px", "1-px", "1-2px", "1.-5px", "1.5.5px", "1..5px", "1p", "1x", "1pxpx", "1px1", "px1", "1px%", "1%px", "apx", "1apx", "1.apx",
		"0%", "-0%", "0.00%", "-0.00%", "1%", "-1%", "50%", "12.5%", "12.50%", "12.500%", "12.345%", "0.01%", "-0.01%", "9999%", "10000%", "-9999%", "-10000%", "9999.99%", "-9999.99%", "0001%", "00001%", "100%",
		".5%", "1.%", ".%", "%", "-%", "--1%", "1-%", "1.5.5%", "%%", "1%%", "%1", "auto%", "a%",
		"1.0", "1.5", ".", "-", "--", "1.", ".1", "1e3", "0x1", "1em", "10pt",
		"auto", "none", "autopx", "au", "autoo", "-auto", "a", "block-", "nowra",
	}
	for _, p := range properties() {
		l = append(l, strings.Fields(p.words)...)
	}
	return l
}

func TestEachPropertyHasItsValues(t *testing.T) {
	for prop, p := range properties() {
		for _, value := range values() {
			if prop == 0 {
				continue
			}
			l, at, e := decl.Parse(p.name + ": " + value)
			d, ok := wants(prop, value)
			if ok && (len(l) != 1 || l[0] != d || at != 0 || e != api.OK) {
				t.Errorf("%s: %s: %v %d %v, not %v", p.name, value, l, at, e, d)
			}
			if !ok && (len(l) != 0 || at != len(p.name)+2 || e != api.ErrValue) {
				t.Errorf("%s: %s: %v %d %v", p.name, value, l, at, e)
			}
		}
	}
}

func TestWordsAreByTheirOrder(t *testing.T) {
	for _, x := range []struct {
		s          string
		prop, word int
	}{
		{"display: block", 1, 0}, {"display: inline", 1, 1}, {"display: flex", 1, 2}, {"display: none", 1, 3},
		{"flex-direction: row", 20, 0}, {"flex-direction: row-reverse", 20, 1}, {"flex-direction: column", 20, 2}, {"flex-direction: column-reverse", 20, 3},
		{"flex-wrap: nowrap", 21, 0}, {"flex-wrap: wrap", 21, 1}, {"flex-wrap: wrap-reverse", 21, 2},
		{"flex-grow: 0", 23, 0}, {"flex-grow: 100", 23, 100}, {"flex-shrink: 0", 24, 0}, {"flex-shrink: 0100", 24, 100},
		{"order: -1000", 25, -1000}, {"order: 1000", 25, 1000}, {"order: -0", 25, 0}, {"order: -007", 25, -7},
		{"justify-content: start", 26, 0}, {"justify-content: end", 26, 1}, {"justify-content: center", 26, 2}, {"justify-content: between", 26, 3}, {"justify-content: around", 26, 4},
		{"align-items: start", 27, 0}, {"align-items: end", 27, 1}, {"align-items: center", 27, 2}, {"align-items: stretch", 27, 3},
		{"align-self: auto", 28, 0}, {"align-self: start", 28, 1}, {"align-self: end", 28, 2}, {"align-self: center", 28, 3}, {"align-self: stretch", 28, 4},
		{"text-align: left", 29, 0}, {"text-align: right", 29, 1}, {"text-align: center", 29, 2},
		{"white-space: normal", 30, 0}, {"white-space: nowrap", 30, 1}, {"white-space: pre", 30, 2},
		{"overflow: visible", 32, 0}, {"overflow: hidden", 32, 1},
	} {
		l, _, e := decl.Parse(x.s)
		if len(l) != 1 || l[0] != (api.Decl{Prop: x.prop, Word: x.word}) || e != api.OK {
			t.Errorf("%s: %v %v", x.s, l, e)
		}
	}
}

func TestLengths(t *testing.T) {
	for _, x := range []struct {
		value string
		want  api.Len
	}{
		{"auto", api.Len{}}, {"0", fix(0)}, {"0px", fix(0)}, {"-0px", fix(0)}, {"1px", fix(64)}, {"-1px", fix(-64)}, {"1.5px", fix(96)}, {"0.125px", fix(8)}, {"-1.25px", fix(-80)},
		{"0.007px", fix(0)}, {"0.008px", fix(1)}, {"-0.007px", fix(0)}, {"-0.008px", fix(-1)}, {"0.01px", fix(1)}, {"0.1px", fix(6)}, {"-0.1px", fix(-6)},
		{"99999px", fix(6399936)}, {"99999.999px", fix(6400000)}, {"-99999.999px", fix(-6400000)}, {"00012px", fix(768)},
		{"0%", pct(0)}, {"-0%", pct(0)}, {"50%", pct(5000)}, {"12.5%", pct(1250)}, {"12.05%", pct(1205)}, {"-0.01%", pct(-1)}, {"9999.99%", pct(999999)}, {"-9999.99%", pct(-999999)}, {"0007.1%", pct(710)},
	} {
		l, at, e := decl.Parse("margin-top: " + x.value)
		if len(l) != 1 || l[0] != (api.Decl{Prop: 8, Len: x.want}) || at != 0 || e != api.OK {
			t.Errorf("%s: %v %d %v, not %v", x.value, l, at, e, x.want)
		}
	}
	// What is rounded to 0 units is 0 at least; what is below that isn't.
	if l, _, e := decl.Parse("width: -0.007px"); !slices.Equal(l, []api.Decl{{Prop: 2, Len: fix(0)}}) || e != api.OK {
		t.Error(l, e)
	}
	if l, at, e := decl.Parse("width: -0.008px"); len(l) != 0 || at != 7 || e != api.ErrValue {
		t.Error(l, at, e)
	}
}

func TestNone(t *testing.T) {
	for _, s := range []string{"max-width: none", "max-height:none"} {
		l, _, e := decl.Parse(s)
		if len(l) != 1 || l[0].Word != 0 || l[0].Len != (api.Len{}) || e != api.OK {
			t.Error(s, l, e)
		}
	}
}

func TestBlanksStandAroundNamesValuesAndSigns(t *testing.T) {
	want := []api.Decl{{Prop: 2, Len: fix(64)}, {Prop: 25, Word: -3}}
	for _, s := range []string{
		"width:1px;order:-3", "width:1px;order:-3;", "width: 1px; order: -3", " width : 1px ; order : -3 ; ",
		"\twidth\t:\t1px\t;\torder\t:\t-3\t;\t", "\nwidth\n:\n1px\n;\norder\n:\n-3\n;\n", " \t\n\n width:1px;order:-3 \n\t ",
	} {
		if l, at, e := decl.Parse(s); !slices.Equal(l, want) || at != 0 || e != api.OK {
			t.Errorf("%q: %v %d %v", s, l, at, e)
		}
	}
	for _, s := range []string{"", " ", "\t", "\n", " \n\t "} {
		if l, at, e := decl.Parse(s); len(l) != 0 || at != 0 || e != api.OK {
			t.Errorf("%q: %v %d %v", s, l, at, e)
		}
	}
	for _, blank := range []string{"\r", "\v", "\f", "\x00", "\u00a0", "\u2003", "\x85"} {
		if l, at, e := decl.Parse("order:" + blank + "1"); len(l) != 0 || at != 6 || e != api.ErrSyntax {
			t.Errorf("%q: %v %d %v", blank, l, at, e)
		}
	}
}

// 4.2

func TestErrorsOfParse(t *testing.T) {
	for _, x := range []struct {
		s  string
		at int
		e  api.Errno
	}{
		// a sign that can't stand there, or isn't there
		{";", 0, api.ErrSyntax}, {" ;", 1, api.ErrSyntax}, {":", 0, api.ErrSyntax}, {": 1px", 0, api.ErrSyntax}, {"?", 0, api.ErrSyntax}, {"1", 0, api.ErrSyntax}, {"\xff", 0, api.ErrSyntax},
		{"width", 5, api.ErrSyntax}, {"width \n", 7, api.ErrSyntax}, {"width;", 5, api.ErrSyntax}, {"width 1px", 6, api.ErrSyntax}, {"width2: 1px", 5, api.ErrSyntax}, {"widTh: 1px", 3, api.ErrSyntax}, {"min_width: 1px", 3, api.ErrSyntax},
		{"width:", 6, api.ErrSyntax}, {"width: ", 7, api.ErrSyntax}, {"width:;", 6, api.ErrSyntax}, {"width::1px", 6, api.ErrSyntax}, {"width: PX", 7, api.ErrSyntax}, {"width: \xc3\xa4", 7, api.ErrSyntax},
		{"order: 1:", 8, api.ErrSyntax}, {"order: 1 2", 9, api.ErrSyntax}, {"order: 1 order: 2", 9, api.ErrSyntax}, {"order: 1?", 8, api.ErrSyntax}, {"order: 1\n?", 9, api.ErrSyntax},
		{"order: 1;;", 9, api.ErrSyntax}, {"order: 1; ;", 10, api.ErrSyntax}, {"order: 1;; order: 2", 9, api.ErrSyntax}, {"order: 1; ?", 10, api.ErrSyntax}, {"order: 1; width", 15, api.ErrSyntax},
		// a name
		{"color: 1", 0, api.ErrName}, {"  color: 1", 2, api.ErrName}, {"-: 1", 0, api.ErrName}, {"-width: 1px", 0, api.ErrName}, {"width-: 1px", 0, api.ErrName}, {"widt: 1px", 0, api.ErrName}, {"margin: 1px", 0, api.ErrName}, {"order: 1; color: 1", 10, api.ErrName},
		// a value
		{"width: 1", 7, api.ErrValue}, {"width:  auto1", 8, api.ErrValue}, {"order: 1; width: none", 17, api.ErrValue},
		// of a declaration: as such, its name, its value, what is behind it
		{"color", 5, api.ErrSyntax}, {"color:", 6, api.ErrSyntax}, {"color: ?", 7, api.ErrSyntax}, {"color: x ?", 0, api.ErrName}, {"color: x; ?", 0, api.ErrName}, {"width: x ?", 7, api.ErrValue}, {"width: 1PX", 7, api.ErrValue}, {"width: x; ?", 7, api.ErrValue},
		// the one that is farther left
		{"width: x; color: 1", 7, api.ErrValue}, {"color: 1; width: x", 0, api.ErrName}, {"order: 1; width: x; ;", 17, api.ErrValue}, {"order: 1;; width: x", 9, api.ErrSyntax}, {"order: 1 ?; color: x", 9, api.ErrSyntax},
		// how long it is
		{strings.Repeat(" ", 2001), 0, api.ErrBig}, {strings.Repeat("?", 2001), 0, api.ErrBig}, {"order: 1;" + strings.Repeat("\n", 1992), 0, api.ErrBig}, {" color: 1" + strings.Repeat("?", 5000), 0, api.ErrBig},
		{strings.Repeat("?", 2000), 0, api.ErrSyntax}, {strings.Repeat(" ", 1999) + "?", 1999, api.ErrSyntax}, {strings.Repeat("a", 2000), 2000, api.ErrSyntax}, {"order:" + strings.Repeat("1", 1994), 6, api.ErrValue}, {strings.Repeat("a", 1998) + ":0", 0, api.ErrName},
	} {
		l, at, e := decl.Parse(x.s)
		if len(l) != 0 || at != x.at || e != x.e {
			t.Errorf("%q: %v %d %v, not %d %v", x.s[:min(len(x.s), 40)], l, at, e, x.at, x.e)
		}
	}
	if l, at, e := decl.Parse(strings.Repeat(" ", 2000)); len(l) != 0 || at != 0 || e != api.OK {
		t.Error("2,000 blanks:", l, at, e)
	}
	if l, at, e := decl.Parse(strings.Repeat("order:0;", 250)); len(l) != 250 || at != 0 || e != api.OK {
		t.Error("250 declarations:", len(l), at, e)
	}
}

func TestParseAtEachByte(t *testing.T) {
	const s = " order : -12 ; width:1.5px;color:5% "
	for at := range len(s) + 1 {
		holdsParse(t, s[:at])
		for c := range 256 {
			holdsParse(t, s[:at]+string([]byte{byte(c)})+s[at:])
			if at < len(s) {
				holdsParse(t, s[:at]+string([]byte{byte(c)})+s[at+1:])
			}
		}
	}
}

func TestParseOfAnyParts(t *testing.T) {
	r := rand.New(rand.NewSource(4))
	parts := []string{" ", "\n", "\t", ":", ":", ": ", ":", ";", "; ", ";", "?", "\r", "A", "-", "0", "9", ".", "px", "%", "color", "x"}
	for _, p := range properties() {
		parts = append(parts, p.name)
	}
	all := values()
	parts = append(parts, all...)
	for range 20000 {
		var b strings.Builder
		for range r.Intn(9) {
			b.WriteString(parts[r.Intn(len(parts))])
		}
		holdsParse(t, b.String())
	}
	for range 5000 {
		var b strings.Builder
		for range r.Intn(6) {
			prop := 1 + r.Intn(32)
			value := all[r.Intn(len(all))]
			if _, ok := wants(prop, value); !ok && r.Intn(8) > 0 {
				continue
			}
			b.WriteString(properties()[prop].name + ":" + value + ";")
		}
		holdsParse(t, b.String())
	}
}

func TestParseAnswersNewMemory(t *testing.T) {
	const s = "order: 1; order: 2; order: 3"
	first, _, _ := decl.Parse(s)
	second, _, _ := decl.Parse(s)
	for i := range first {
		first[i] = api.Decl{}
	}
	_ = append(first, api.Decl{}, api.Decl{})
	if !slices.Equal(second, []api.Decl{{Prop: 25, Word: 1}, {Prop: 25, Word: 2}, {Prop: 25, Word: 3}}) {
		t.Error(second)
	}
}

func TestText(t *testing.T) {
	tells(t, nil, "")
	tells(t, []api.Decl{}, "")
	tells(t, []api.Decl{{Prop: 2, Len: pct(5000)}}, "width: 50%")
	tells(t, []api.Decl{{Prop: 1, Word: 2}, {Prop: 2, Len: pct(5000)}, {Prop: 25, Word: 3}}, "display: flex; width: 50%; order: 3")
	tells(t, []api.Decl{{Prop: 25}, {Prop: 25}, {Prop: 25}}, "order: 0; order: 0; order: 0")
	tells(t, []api.Decl{{Prop: 25, Word: -1000}, {Prop: 23, Word: 100}}, "order: -1000; flex-grow: 100")
	tells(t, []api.Decl{{Prop: 6}, {Prop: 2}, {Prop: 28}, {Prop: 8}}, "max-width: none; width: auto; align-self: auto; margin-top: auto")
	for prop, p := range properties() {
		for k, word := range strings.Fields(p.words) {
			tells(t, []api.Decl{{Prop: prop, Word: k}}, p.name+": "+word)
		}
		if p.whole {
			for n := p.least; n <= p.most; n++ {
				tells(t, []api.Decl{{Prop: prop, Word: n}}, p.name+": "+strconv.Itoa(n))
			}
		}
		if p.auto != "" {
			tells(t, []api.Decl{{Prop: prop}}, p.name+": "+p.auto)
		}
		if p.length {
			tells(t, []api.Decl{{Prop: prop, Len: fix(96)}}, p.name+": 1.5px")
			tells(t, []api.Decl{{Prop: prop, Len: fix(0)}}, p.name+": 0")
		}
		if p.percent {
			tells(t, []api.Decl{{Prop: prop, Len: pct(1001)}}, p.name+": 10.01%")
			tells(t, []api.Decl{{Prop: prop, Len: pct(0)}}, p.name+": 0%")
		}
	}
}

func TestTextOfLengths(t *testing.T) {
	for _, x := range []struct {
		l    api.Len
		want string
	}{
		{fix(0), "0"}, {fix(1), "0.01px"}, {fix(-1), "-0.01px"}, {fix(2), "0.03px"}, {fix(3), "0.04px"}, {fix(6), "0.1px"}, {fix(-6), "-0.1px"}, {fix(8), "0.12px"}, {fix(13), "0.2px"}, {fix(32), "0.5px"}, {fix(-32), "-0.5px"},
		{fix(63), "0.98px"}, {fix(64), "1px"}, {fix(-64), "-1px"}, {fix(65), "1.01px"}, {fix(80), "1.25px"}, {fix(-80), "-1.25px"}, {fix(640), "10px"}, {fix(6400), "100px"}, {fix(64000), "1000px"},
		{fix(6399936), "99999px"}, {fix(6399999), "99999.98px"}, {fix(6400000), "99999.993px"}, {fix(-6399936), "-99999px"}, {fix(-6399999), "-99999.98px"}, {fix(-6400000), "-99999.993px"},
		{pct(0), "0%"}, {pct(1), "0.01%"}, {pct(-1), "-0.01%"}, {pct(10), "0.1%"}, {pct(99), "0.99%"}, {pct(100), "1%"}, {pct(-100), "-1%"}, {pct(101), "1.01%"}, {pct(110), "1.1%"}, {pct(1000), "10%"}, {pct(100000), "1000%"}, {pct(999999), "9999.99%"}, {pct(-999999), "-9999.99%"}, {pct(-999990), "-9999.9%"},
	} {
		tells(t, []api.Decl{{Prop: 8, Len: x.l}}, "margin-top: "+x.want)
	}
}

// shortest goes through each number of so many digits, from 0 away, for the
// first that is read as n.
func shortest(n int64) string {
	if n == 0 {
		return "0"
	}
	sign, minus := int64(1), ""
	if n < 0 {
		sign, minus = -1, "-"
	}
	for digits, step := range []int64{1000, 100, 10, 1} {
		// Half a unit is less than 8 thousandths.
		from := max(sign*n*1000/64/step-9, 0)
		for k := from; k < from+20 && k*step <= 99999999; k++ {
			if units(sign*k*step) != n {
				continue
			}
			s := strconv.FormatInt(k*step/1000, 10)
			if digits > 0 {
				s += "." + strconv.FormatInt(1000+k*step%1000, 10)[1:1+digits]
			}
			return minus + s + "px"
		}
	}
	return ""
}

func TestTextOfPixelsIsTheShortest(t *testing.T) {
	holds := func(n int64) {
		t.Helper()
		tells(t, []api.Decl{{Prop: 9, Len: fix(n)}}, "margin-right: "+shortest(n))
	}
	for n := int64(0); n <= 13000; n++ {
		for _, about := range []int64{0, 640000, 3200000, 6400000 - 13000} {
			holds(about + n)
			holds(-about - n)
		}
	}
}

func TestTextOfWhatParseCouldNotTell(t *testing.T) {
	wrong := []api.Decl{{}, {Prop: -1}, {Prop: 33}, {Prop: 0, Len: fix(1)}, {Prop: math.MaxInt}, {Prop: math.MinInt}}
	for prop, p := range properties() {
		if prop == 0 {
			continue
		}
		wrong = append(wrong,
			api.Decl{Prop: prop, Len: api.Len{N: 1}}, api.Decl{Prop: prop, Len: api.Len{N: -1}}, api.Decl{Prop: prop, Len: api.Len{Kind: 3}}, api.Decl{Prop: prop, Len: api.Len{Kind: -1}},
			api.Decl{Prop: prop, Word: math.MaxInt}, api.Decl{Prop: prop, Word: math.MinInt}, api.Decl{Prop: prop, Word: 1, Len: fix(64)}, api.Decl{Prop: prop, Word: 1, Len: pct(64)},
			api.Decl{Prop: prop, Len: fix(6400001)}, api.Decl{Prop: prop, Len: fix(-6400001)}, api.Decl{Prop: prop, Len: pct(1000000)}, api.Decl{Prop: prop, Len: pct(-1000000)},
			api.Decl{Prop: prop, Len: fix(math.MaxInt64)}, api.Decl{Prop: prop, Len: fix(math.MinInt64)}, api.Decl{Prop: prop, Len: pct(math.MaxInt64)}, api.Decl{Prop: prop, Len: pct(math.MinInt64)})
		if p.length {
			wrong = append(wrong, api.Decl{Prop: prop, Word: 1}, api.Decl{Prop: prop, Word: -1})
		} else {
			wrong = append(wrong, api.Decl{Prop: prop, Len: fix(0)}, api.Decl{Prop: prop, Len: pct(0)})
		}
		if p.words != "" {
			wrong = append(wrong, api.Decl{Prop: prop, Word: -1}, api.Decl{Prop: prop, Word: len(strings.Fields(p.words))})
		}
		if p.whole {
			wrong = append(wrong, api.Decl{Prop: prop, Word: p.least - 1}, api.Decl{Prop: prop, Word: p.most + 1})
		}
		if p.length && p.auto == "" {
			wrong = append(wrong, api.Decl{Prop: prop})
		}
		if p.length && !p.percent {
			wrong = append(wrong, api.Decl{Prop: prop, Len: pct(0)}, api.Decl{Prop: prop, Len: pct(5000)})
		}
		if !p.minus {
			wrong = append(wrong, api.Decl{Prop: prop, Len: fix(-1)}, api.Decl{Prop: prop, Len: pct(-1)})
		}
	}
	good := api.Decl{Prop: 25}
	for _, d := range wrong {
		tellsNot(t, d)
		tellsNot(t, d, good)
		tellsNot(t, good, d)
		tellsNot(t, good, d, good)
		if got := decl.Style(decl.Initial(), []api.Decl{d}); got != decl.Initial() {
			t.Errorf("Style of %v: %v", d, got)
		}
	}
}

func TestTextIsNoLongerThanParseTakes(t *testing.T) {
	long := make([]api.Decl, 300)
	for i := range long {
		long[i] = api.Decl{Prop: 25}
	}
	tells(t, long[:200], strings.Repeat("order: 0; ", 199)+"order: 0")
	long[0].Word = 12
	long[199].Word = 10
	s, ok := decl.Text(long[:200])
	if len(s) != 2000 || !ok {
		t.Error(len(s), ok)
	}
	if l, _, e := decl.Parse(s); !slices.Equal(l, long[:200]) || e != api.OK {
		t.Error(len(l), e)
	}
	long[199].Word = -10
	tellsNot(t, long[:200]...)
	tellsNot(t, long...)
	long[0].Word = 1
	if s, ok := decl.Text(long[:200]); len(s) != 2000 || !ok {
		t.Error(len(s), ok)
	}
}

func TestTextKeepsToItsOwnMemory(t *testing.T) {
	room := []api.Decl{{Prop: 25, Word: 1}, {Prop: 25, Word: 2}, {Prop: 1, Word: 3}}
	was := slices.Clone(room)
	decl.Text(room[:2])
	decl.Style(decl.Initial(), room[:2])
	if !slices.Equal(room, was) {
		t.Error(room)
	}
}

// 4.3

func TestInitial(t *testing.T) {
	l, _, e := decl.Parse("display: inline; width: auto; height: auto; min-width: 0; min-height: 0; max-width: none; max-height: none; margin-top: 0; margin-right: 0; margin-bottom: 0; margin-left: 0; " +
		"padding-top: 0; padding-right: 0; padding-bottom: 0; padding-left: 0; border-top: 0; border-right: 0; border-bottom: 0; border-left: 0; " +
		"flex-direction: row; flex-wrap: nowrap; flex-basis: auto; flex-grow: 0; flex-shrink: 1; order: 0; justify-content: start; align-items: stretch; align-self: auto; text-align: left; white-space: normal; line-height: 20px; overflow: visible")
	if len(l) != 32 || e != api.OK {
		t.Fatal(l, e)
	}
	odd := api.Style{Display: -1, Dir: -1, Wrap: -1, Justify: -1, Items: -1, Self: -1, Align: -1, White: -1, Over: -1, Width: pct(1), Height: pct(1), MinW: pct(1), MinH: pct(1), MaxW: pct(1), MaxH: pct(1), Basis: pct(1), Margin: [4]api.Len{pct(1), pct(1), pct(1), pct(1)}, Pad: [4]int64{-1, -1, -1, -1}, Border: [4]int64{-1, -1, -1, -1}, Grow: -1, Shrink: -1, Order: -1, Line: -1}
	if got := decl.Style(odd, l); got != decl.Initial() {
		t.Error(got, decl.Initial())
	}
	want := api.Style{Display: 1, Items: 3, MinW: fix(0), MinH: fix(0), Margin: [4]api.Len{fix(0), fix(0), fix(0), fix(0)}, Shrink: 1, Line: 1280}
	if got := decl.Initial(); got != want {
		t.Error(got)
	}
}

func TestStyleLaysEachPropertyOver(t *testing.T) {
	n := fix(77)
	for prop, turn := range []func(*api.Style){
		func(s *api.Style) {},
		func(s *api.Style) { s.Display = 1 },
		func(s *api.Style) { s.Width = n },
		func(s *api.Style) { s.Height = n },
		func(s *api.Style) { s.MinW = n },
		func(s *api.Style) { s.MinH = n },
		func(s *api.Style) { s.MaxW = n },
		func(s *api.Style) { s.MaxH = n },
		func(s *api.Style) { s.Margin[0] = n },
		func(s *api.Style) { s.Margin[1] = n },
		func(s *api.Style) { s.Margin[2] = n },
		func(s *api.Style) { s.Margin[3] = n },
		func(s *api.Style) { s.Pad[0] = 77 },
		func(s *api.Style) { s.Pad[1] = 77 },
		func(s *api.Style) { s.Pad[2] = 77 },
		func(s *api.Style) { s.Pad[3] = 77 },
		func(s *api.Style) { s.Border[0] = 77 },
		func(s *api.Style) { s.Border[1] = 77 },
		func(s *api.Style) { s.Border[2] = 77 },
		func(s *api.Style) { s.Border[3] = 77 },
		func(s *api.Style) { s.Dir = 1 },
		func(s *api.Style) { s.Wrap = 1 },
		func(s *api.Style) { s.Basis = n },
		func(s *api.Style) { s.Grow = 1 },
		func(s *api.Style) { s.Shrink = 1 },
		func(s *api.Style) { s.Order = 1 },
		func(s *api.Style) { s.Justify = 1 },
		func(s *api.Style) { s.Items = 1 },
		func(s *api.Style) { s.Self = 1 },
		func(s *api.Style) { s.Align = 1 },
		func(s *api.Style) { s.White = 1 },
		func(s *api.Style) { s.Line = 77 },
		func(s *api.Style) { s.Over = 1 },
	} {
		d := api.Decl{Prop: prop, Word: 1}
		if properties()[prop].length {
			d = api.Decl{Prop: prop, Len: n}
		}
		// A base is taken as it is, whatever it has.
		for _, base := range []api.Style{{}, decl.Initial(), {Display: -5, Line: -9, Width: api.Len{Kind: 9, N: 9}, Order: 9999, Pad: [4]int64{-4, -3, -2, -1}}} {
			want := base
			turn(&want)
			if got := decl.Style(base, []api.Decl{d}); got != want {
				t.Errorf("%v: %v, not %v", d, got, want)
			}
		}
	}
}

func TestStyleIsInOrder(t *testing.T) {
	base := decl.Initial()
	if got := decl.Style(base, nil); got != base {
		t.Error(got)
	}
	want := base
	want.Width, want.Order, want.Margin[2] = fix(3), 2, api.Len{}
	got := decl.Style(base, []api.Decl{{Prop: 2, Len: pct(1)}, {Prop: 25, Word: 1}, {Prop: 10, Len: pct(7)}, {Prop: 2}, {Prop: 25, Word: 2}, {Prop: 2, Len: fix(3)}, {Prop: 10}})
	if got != want {
		t.Error(got)
	}
	// What Parse does not tell says nothing; the others say what they say.
	got = decl.Style(base, []api.Decl{{Prop: 2, Len: fix(3)}, {Prop: 2, Len: fix(-3)}, {Prop: 25, Word: 2}, {Prop: 25, Word: 1001}, {}, {Prop: 33}, {Prop: 10, Word: 1}, {Prop: 10}})
	if got != want {
		t.Error(got)
	}
}

func TestStyleOfALongList(t *testing.T) {
	l := make([]api.Decl, 5000)
	for i := range l {
		l[i] = api.Decl{Prop: 25, Word: i % 1000}
	}
	if got := decl.Style(decl.Initial(), l); got.Order != 999 {
		t.Error(got.Order)
	}
}

// 4.4

func TestWhatIsToldIsReadAsItWas(t *testing.T) {
	r := rand.New(rand.NewSource(44))
	numbers := []int64{0, 1, -1, 7, 100, -100, 1000, -1000, 1001, 999999, -999999, 1000000, 6400000, -6400000, 6400001}
	good := decls()
	for range 20000 {
		var l []api.Decl
		for range r.Intn(5) {
			d := api.Decl{Prop: r.Intn(34)}
			if r.Intn(2) > 0 {
				d.Word = r.Intn(6) - 1
			} else {
				d.Len = api.Len{Kind: r.Intn(3), N: numbers[r.Intn(len(numbers))]}
			}
			if r.Intn(3) > 0 {
				d.Len.N = r.Int63n(7000000)
			}
			if r.Intn(3) > 0 {
				d = good[r.Intn(len(good))]
			}
			l = append(l, d)
		}
		s, ok := decl.Text(l)
		if again, at, e := decl.Parse(s); ok && (!slices.Equal(again, l) || at != 0 || e != api.OK) {
			t.Errorf("%q: %v %d %v, not %v", s, again, at, e, l)
		}
		if !ok && !slices.ContainsFunc(l, func(d api.Decl) bool { _, one := decl.Text([]api.Decl{d}); return !one }) {
			t.Errorf("%v isn't told", l)
		}
	}
}

// decls is what Parse reads of all names and values.
func decls() []api.Decl {
	var l []api.Decl
	for prop := 1; prop <= 32; prop++ {
		for _, value := range values() {
			if d, ok := wants(prop, value); ok {
				l = append(l, d)
			}
		}
	}
	return l
}

func TestWhatIsReadIsToldAgain(t *testing.T) {
	for prop := 1; prop <= 32; prop++ {
		for _, value := range values() {
			l, _, e := decl.Parse(properties()[prop].name + ":" + value)
			if e != api.OK {
				continue
			}
			s, ok := decl.Text(l)
			again, _, e := decl.Parse(s)
			if !ok || e != api.OK || !slices.Equal(again, l) {
				t.Errorf("%s: %v, then %q, then %v", value, l, s, again)
			}
		}
	}
}

// 4.5

func TestNoCallPanics(t *testing.T) {
	defer func() {
		if r := recover(); r != nil {
			t.Error("a call panicked:", r)
		}
	}()
	r := rand.New(rand.NewSource(45))
	b := make([]byte, 2100)
	for range 3000 {
		for i := range b {
			b[i] = byte(r.Intn(256))
		}
		decl.Parse(string(b[:r.Intn(len(b))]))
	}
	wild := []int64{0, 1, -1, 2, 3, 31, 32, 33, 6400000, 6400001, 99999999, 1 << 30, 1 << 62, math.MaxInt64, math.MinInt64, math.MinInt64 + 1}
	for prop := -2; prop < 36; prop++ {
		for _, word := range wild {
			for _, n := range wild {
				for kind := -1; kind < 4; kind++ {
					l := []api.Decl{{Prop: prop, Word: int(word), Len: api.Len{Kind: kind, N: n}}, {Prop: int(word), Word: prop, Len: api.Len{Kind: int(n), N: word}}}
					decl.Text(l)
					decl.Text(l[:1])
					decl.Style(api.Style{}, l)
				}
			}
		}
	}
	long := make([]api.Decl, 1000000)
	for i := range long {
		long[i].Prop = 25
	}
	tellsNot(t, long...)
	decl.Style(api.Style{}, long)
	decl.Parse(strings.Repeat("order:0;", 1000000))
}
