// Package lines is layer 1: what a line is; numbers and texts in one form; see shared/doc/01-lines.md.
package lines

import (
	"slices"
	"strconv"
	"strings"

	"scrim/api"
)

// greatest is the greatest N, and the greatest Rev, that a line may have.
const greatest = 1 << 62

// Check says whether a line may be.
func Check(l api.Line) api.Errno {
	if !Text(l.Text) || l.N < 1 || l.N > greatest || l.Rev < 0 || l.Rev > greatest {
		return api.ErrLine
	}
	return api.OK
}

// Text says whether a text may be a line's.
func Text(s string) bool {
	return len(s) <= api.MaxText && !strings.Contains(s, "\n")
}

// Name says whether a text is a name.
func Name(s string) bool {
	return s != "" && len(s) <= api.MaxName && !strings.ContainsFunc(s, foreign)
}

// foreign says whether a rune has no place in a name.
func foreign(r rune) bool {
	return (r < 'a' || r > 'z') && (r < '0' || r > '9') && r != '-' && r != '_'
}

// Number is a number's form.
func Number(n int) string { return strconv.Itoa(n) }

// Read reads a number.
func Read(s string) (int, api.Errno) {
	n, rest, e := Take(s)
	if e != api.OK || rest != "" {
		return 0, api.ErrForm
	}
	return n, api.OK
}

// Take reads the number with which a text begins.
func Take(s string) (n int, rest string, e api.Errno) {
	unsigned, negative := strings.CutPrefix(s, "-")
	n, rest = digits(unsigned)
	if negative {
		n = -n
	}
	// A number has one form alone. So no digits, noughts ahead and -0 are told by their being no form of n; and so are digits of a number past an int's bounds, since n, wrapped round, is another one.
	if s[:len(s)-len(rest)] != Number(n) {
		return 0, "", api.ErrForm
	}
	return n, rest, api.OK
}

// digits is the number of the digits with which a text begins (0 of none), and what stands behind them. A number that is too great wraps round.
func digits(s string) (n int, rest string) {
	for i, r := range s {
		if r < '0' || r > '9' {
			return n, s[i:]
		}
		n = n*10 + int(r-'0')
	}
	return n, ""
}

// Show is a counted text.
func Show(s string) string { return Number(len(s)) + ":" + s }

// Shown reads the counted text with which a text begins.
func Shown(s string) (text, rest string, e api.Errno) {
	n, behind, e := Take(s)
	behind, colon := strings.CutPrefix(behind, ":")
	if e != api.OK || !colon || n < 0 || n > len(behind) {
		return "", "", api.ErrForm
	}
	return behind[:n], behind[n:], api.OK
}

// Cut are the texts of a text.
func Cut(s string) ([]string, api.Errno) {
	if s == "" {
		return nil, api.OK
	}
	body, whole := strings.CutSuffix(s, "\n")
	if !whole {
		return nil, api.ErrForm
	}
	return strings.Split(body, "\n"), api.OK
}

// Joined is a text of texts.
func Joined(l []string) string {
	size := len(l)
	for _, s := range l {
		size += len(s)
	}
	var b strings.Builder
	b.Grow(size)
	for _, s := range l {
		b.WriteString(s)
		b.WriteByte('\n')
	}
	return b.String()
}

// Same says whether two lists of lines are the same.
func Same(a, b []api.Line) bool {
	return slices.EqualFunc(a, b, func(x, y api.Line) bool {
		return x.Label == y.Label && x.N == y.N && x.Rev == y.Rev && x.Text == y.Text
	})
}

// Texts are lines' texts.
func Texts(l []api.Line) []string {
	texts := make([]string, len(l))
	for i, x := range l {
		texts[i] = x.Text
	}
	return texts
}
