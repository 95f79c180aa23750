package decl

import (
	"slices"
	"strconv"
	"strings"

	"quoin/api"
	"quoin/unit"
)

// How many digits a number has at the most ahead of its point, and behind it.
const (
	wholeDigits   = 4
	pixelDigits   = 5
	pixelParts    = 3
	percentDigits = 4
	percentParts  = 2
)

// The greatest numbers of so many digits.
const (
	mostThousandths = 99999999
	mostHundredths  = 999999
)

// form is what values a property has.
type form interface {
	// read answers a Decl without its Prop; of false it is any.
	read(value string) (api.Decl, bool)
	// has answers whether read could answer d, but for its Prop.
	has(d api.Decl) bool
	// tell answers a value of which read answers d; the form must have d.
	tell(d api.Decl) string
}

// words is words, by the numbers that a Decl's Word has.
type words []string

func (f words) read(value string) (api.Decl, bool) {
	at := slices.Index(f, value)
	return api.Decl{Word: at}, at >= 0
}

func (f words) has(d api.Decl) bool {
	return 0 <= d.Word && d.Word < len(f) && d.Len == api.Len{}
}

func (f words) tell(d api.Decl) string {
	return f[d.Word]
}

// whole is whole numbers.
type whole struct{ least, most int }

func (f whole) read(value string) (api.Decl, bool) {
	n, ok := number(value, wholeDigits, 0)
	d := api.Decl{Word: int(n)}
	return d, ok && f.has(d)
}

func (f whole) has(d api.Decl) bool {
	return f.least <= d.Word && d.Word <= f.most && d.Len == api.Len{}
}

func (f whole) tell(d api.Decl) string {
	return strconv.Itoa(d.Word)
}

// length is lengths.
type length struct {
	auto    string // the word for none at all, if there is one
	percent bool
	minus   bool
}

func (f length) read(value string) (api.Decl, bool) {
	if f.auto != "" && value == f.auto {
		return api.Decl{}, true
	}
	n, ok := measure(value)
	d := api.Decl{Len: n}
	return d, ok && f.has(d)
}

func (f length) has(d api.Decl) bool {
	if d.Word != 0 {
		return false
	}
	switch d.Len.Kind {
	case api.LAuto:
		return f.auto != "" && d.Len.N == 0
	case api.LFix:
		return f.holds(d.Len.N, unit.Px(mostThousandths))
	case api.LPct:
		return f.percent && f.holds(d.Len.N, mostHundredths)
	}
	return false
}

func (f length) holds(n, most int64) bool {
	if f.minus {
		return -most <= n && n <= most
	}
	return 0 <= n && n <= most
}

func (f length) tell(d api.Decl) string {
	switch d.Len.Kind {
	case api.LFix:
		return pixels(d.Len.N)
	case api.LPct:
		return decimal(d.Len.N, percentParts) + "%"
	}
	return f.auto
}

// measure reads pixels or a percentage, whether a property has it or not.
func measure(value string) (api.Len, bool) {
	if value == "0" {
		return api.Len{Kind: api.LFix}, true
	}
	if digits, ok := strings.CutSuffix(value, "px"); ok {
		n, ok := number(digits, pixelDigits, pixelParts)
		return api.Len{Kind: api.LFix, N: unit.Px(n)}, ok
	}
	if digits, ok := strings.CutSuffix(value, "%"); ok {
		n, ok := number(digits, percentDigits, percentParts)
		return api.Len{Kind: api.LPct, N: n}, ok
	}
	return api.Len{}, false
}
