package decl

import (
	"sort"
	"strconv"
	"strings"

	"quoin/unit"
)

// number reads perhaps a minus, 1 to most digits, and perhaps a point and 1 to
// parts digits; it counts in the last ones, so that 1.5 of three is 1500.
func number(s string, most, parts int) (int64, bool) {
	s, minus := strings.CutPrefix(s, "-")
	ahead, behind, point := strings.Cut(s, ".")
	if !digits(ahead, most) || point && !digits(behind, parts) {
		return 0, false
	}
	n, err := strconv.ParseInt(ahead+behind+strings.Repeat("0", parts-len(behind)), 10, 64)
	if minus {
		n = -n
	}
	return n, err == nil
}

func digits(s string, most int) bool {
	if len(s) < 1 || len(s) > most {
		return false
	}
	for i := range len(s) {
		if !isDigit(s[i]) {
			return false
		}
	}
	return true
}

// decimal tells n, which counts in the last of so many parts, without noughts
// at its end.
func decimal(n int64, parts int) string {
	s := strconv.FormatInt(max(n, -n), 10)
	s = strings.Repeat("0", max(parts+1-len(s), 0)) + s
	ahead, behind := s[:len(s)-parts], strings.TrimRight(s[len(s)-parts:], "0")
	if behind != "" {
		ahead += "." + behind
	}
	if n < 0 {
		return "-" + ahead
	}
	return ahead
}

// pixels tells n units with as few digits as are read as n.
func pixels(n int64) string {
	if n == 0 {
		return "0"
	}
	step := int64(1000)
	thousandths, ok := readAs(n, step)
	// A thousandth is less than a unit: with steps of 1 each n is come to.
	for !ok && step > 1 {
		step /= 10
		thousandths, ok = readAs(n, step)
	}
	return decimal(thousandths, pixelParts) + "px"
}

// readAs answers, of the multiples of step that are read as n units, the one
// that is nearest to 0; n isn't 0.
func readAs(n, step int64) (int64, bool) {
	away := step
	if n < 0 {
		away = -step
	}
	// What is farther from 0 is never read as nearer to it.
	k := sort.Search(int(mostThousandths/step), func(k int) bool {
		read := unit.Px(int64(k) * away)
		if n < 0 {
			return read <= n
		}
		return read >= n
	})
	thousandths := int64(k) * away
	return thousandths, unit.Px(thousandths) == n
}
