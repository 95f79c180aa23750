package gaug_test

import (
	"math"
	"strings"
	"testing"

	"quoin/api"
	"quoin/gaug"
)

const mostAdv = 65536

// same is metrics by which each byte leads so far.
func same(adv int64) api.Metrics {
	var m api.Metrics
	for b := range m.Adv {
		m.Adv[b] = adv
	}
	return m
}

// varied is metrics by which no byte leads as far as another one.
func varied() api.Metrics {
	var m api.Metrics
	for b := range m.Adv {
		m.Adv[b] = int64(b*b) + 1
	}
	return m
}

// every is a text of each byte once.
func every() string {
	l := make([]byte, 256)
	for b := range l {
		l[b] = byte(b)
	}
	return string(l)
}

// texts is such as a reader by runes, by words or by C's strings would take for
// others.
func texts() []string {
	return []string{
		"", " ", "a", "hello", " a  b ", "a\nb\r\nc\td", "\x00", "a\x00b", "\x00\x00\x00",
		"\u00e9", "e\u0301", "\u65e5\u672c", "\U0001f600", "\u00a0\u2028", "\ufffd", "\ufeffa",
		"\xff", "\xff\xfe\xfd", "\x80\xbf", "a\xc3", "\xc3a", "\xe6\x97", "\xf0\x9f\x98", "\xc0\x80", "\xed\xa0\x80",
		every(), every() + every(),
	}
}

// wrong is advances that no byte may have, each with what it is held to.
func wrong() map[int64]int64 {
	return map[int64]int64{
		-1: 0, -2: 0, -mostAdv: 0, -mostAdv - 1: 0, -1 << 32: 0, 1 - 1<<32: 0, math.MinInt32: 0, math.MinInt64: 0, math.MinInt64 + 1: 0,
		mostAdv + 1: mostAdv, 2 * mostAdv: mostAdv, api.Far: mostAdv, 1 << 32: mostAdv, 1<<32 + 1: mostAdv, api.Wide: mostAdv, math.MaxInt64: mostAdv,
	}
}

// 9.1

func TestOk(t *testing.T) {
	for _, adv := range []int64{0, 1, 2, 640, mostAdv - 1, mostAdv} {
		if !gaug.Ok(same(adv)) {
			t.Errorf("all lead %d: not Ok", adv)
		}
	}
	if !gaug.Ok(varied()) {
		t.Error("varied ones: not Ok")
	}
	for b := range 256 {
		m := varied()
		for _, adv := range []int64{0, mostAdv} {
			m.Adv[b] = adv
			if !gaug.Ok(m) {
				t.Errorf("byte %d leads %d: not Ok", b, adv)
			}
		}
		for adv := range wrong() {
			m.Adv[b] = adv
			if gaug.Ok(m) {
				t.Errorf("byte %d leads %d: Ok", b, adv)
			}
		}
	}
	for adv := range wrong() {
		if gaug.Ok(same(adv)) {
			t.Errorf("all lead %d: Ok", adv)
		}
	}
}

func TestWide(t *testing.T) {
	var m api.Metrics
	m.Adv[' '], m.Adv['a'], m.Adv['b'], m.Adv['\n'], m.Adv[0], m.Adv[0xc3], m.Adv[0xa9], m.Adv[0xff] = 5, 10, 12, 3, 7, 100, 1000, mostAdv
	for _, x := range []struct {
		s    string
		want int64
	}{
		{"", 0}, {"a", 10}, {"b", 12}, {"ab", 22}, {"ba", 22}, {"aaa", 30}, {"c", 0}, {"abc", 22},
		{" a  b ", 42}, {"\n", 3}, {"a\nb", 25}, {"\x00", 7}, {"a\x00b", 29},
		{"\u00e9", 1100}, {"\xc3", 100}, {"\xa9", 1000}, {"\xa9\xc3", 1100}, {"a\u00e9\u00e9", 2210},
		{"\xff", mostAdv}, {"a\xffa", mostAdv + 20}, {"\xff\xff", 2 * mostAdv}, {"\ufffd", 0},
	} {
		if got := gaug.Wide(m, x.s); got != x.want {
			t.Errorf("Wide of %q: %d, not %d", x.s, got, x.want)
		}
	}
	for _, s := range texts() {
		if got := gaug.Wide(api.Metrics{}, s); got != 0 {
			t.Errorf("Wide of %q, where no byte leads: %d", s, got)
		}
		if got := gaug.Wide(same(1), s); got != int64(len(s)) {
			t.Errorf("Wide of %q, where each byte leads 1: %d", s, got)
		}
	}
}

func TestEachByteLeadsByItsOwn(t *testing.T) {
	m := varied()
	var sum int64
	for b := range 256 {
		sum += int64(b*b) + 1
		if got := gaug.Wide(m, string([]byte{byte(b)})); got != int64(b*b)+1 {
			t.Errorf("byte %d: %d wide", b, got)
		}
	}
	if got := gaug.Wide(m, every()); got != sum {
		t.Errorf("each byte once: %d, not %d", got, sum)
	}
}

func TestWideHoldsEachAdv(t *testing.T) {
	for adv, held := range wrong() {
		if got := gaug.Wide(same(adv), "abc"); got != 3*held {
			t.Errorf("all lead %d: %d, not %d", adv, got, 3*held)
		}
		for b := range 256 {
			m := varied()
			m.Adv[b] = adv
			other := byte(b + 1)
			s := string([]byte{other, byte(b), byte(b), other})
			// Each one is held, not the sum: what leads back takes nothing off.
			want := 2*held + 2*(int64(other)*int64(other)+1)
			if got := gaug.Wide(m, s); got != want {
				t.Errorf("byte %d leads %d: %q is %d wide, not %d", b, adv, s, got, want)
			}
			if got := gaug.Wide(m, string([]byte{other})); got != want/2-held {
				t.Errorf("byte %d leads %d: %q is %d wide", b, adv, []byte{other}, got)
			}
		}
	}
}

// A text may be longer than one of a tree, and wider than a length that is told.
func TestWideIsTheWholeSum(t *testing.T) {
	for _, n := range []int{1000, 1001, 16383, 16384, 16385, 32768, 65536, 70000, 1 << 20} {
		if got := gaug.Wide(same(mostAdv), strings.Repeat("\xff", n)); got != int64(n)*mostAdv {
			t.Errorf("%d bytes: %d, not %d", n, got, int64(n)*mostAdv)
		}
		if got := gaug.Wide(same(math.MaxInt64), strings.Repeat("a", n)); got != int64(n)*mostAdv {
			t.Errorf("%d bytes that are held: %d, not %d", n, got, int64(n)*mostAdv)
		}
	}
}

func TestUp(t *testing.T) {
	for _, x := range [][2]int64{
		{0, 0}, {1, 1}, {2, 1}, {3, 2}, {4, 2}, {5, 3}, {6, 3}, {1279, 640}, {1280, 640}, {1281, 641},
		{-1, 0}, {-2, 0}, {-3, 0}, {-1280, 0},
		{api.Far - 1, api.Far / 2}, {api.Far, api.Far / 2}, {api.Far + 1, api.Far/2 + 1}, {-api.Far, 0}, {-api.Far - 1, 0},
		{1<<32 - 1, 1 << 31}, {1 << 32, 1 << 31}, {1<<32 + 1, 1<<31 + 1}, {1<<53 + 1, 1<<52 + 1},
		{math.MaxInt64, 1 << 62}, {math.MaxInt64 - 1, 1<<62 - 1}, {math.MaxInt64 - 2, 1<<62 - 1},
		{math.MinInt64, 0}, {math.MinInt64 + 1, 0},
	} {
		if got := gaug.Up(x[0]); got != x[1] {
			t.Errorf("Up(%d): %d, not %d", x[0], got, x[1])
		}
	}
	for line := int64(0); line <= 5000; line++ {
		// What stands below the baseline is the half, rounded down.
		if up := gaug.Up(line); up+line>>1 != line {
			t.Errorf("Up(%d): %d", line, up)
		}
	}
}

// 9.2

func TestTextIsAsWideAsItsParts(t *testing.T) {
	uneven := varied()
	for b := range uneven.Adv {
		switch b % 4 {
		case 1:
			uneven.Adv[b] = -int64(b)
		case 3:
			uneven.Adv[b] += math.MaxInt64 - 100000
		}
	}
	for _, m := range []api.Metrics{{}, same(1), same(mostAdv), same(-1), same(math.MaxInt64), varied(), uneven} {
		for _, s := range texts() {
			whole := gaug.Wide(m, s)
			var bytes int64
			for i := range len(s) {
				bytes += gaug.Wide(m, s[i:i+1])
			}
			if bytes != whole {
				t.Errorf("%q: %d wide, but its bytes %d", s, whole, bytes)
			}
			for i := range len(s) + 1 {
				if parts := gaug.Wide(m, s[:i]) + gaug.Wide(m, s[i:]); parts != whole {
					t.Errorf("%q: %d wide, but %d cut at %d", s, whole, parts, i)
				}
			}
		}
	}
	// Parts that are as wide as a length may be told, and a whole that is more.
	m, half := same(mostAdv), strings.Repeat("ab", 8192)
	if got := gaug.Wide(m, half); got != api.Far {
		t.Errorf("the half: %d wide", got)
	}
	if got := gaug.Wide(m, half+half); got != 2*api.Far {
		t.Errorf("the whole: %d wide", got)
	}
}

// 9.3

func TestNoCallPanics(t *testing.T) {
	defer func() {
		if r := recover(); r != nil {
			t.Error("a call panicked:", r)
		}
	}()
	all := []api.Metrics{{}, varied()}
	for adv := range wrong() {
		all = append(all, same(adv))
		gaug.Up(adv)
	}
	for _, m := range all {
		gaug.Ok(m)
		for _, s := range texts() {
			gaug.Wide(m, s)
		}
	}
}
