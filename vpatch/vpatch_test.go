package vpatch

import (
	"fmt"
	"math"
	"math/rand"
	"regexp"
	"slices"
	"strconv"
	"strings"
	"testing"

	"scrim/api"
)

// letters are the text's bytes, a text each.
func letters(s string) []string {
	l := make([]string, len(s))
	for i := range l {
		l[i] = s[i : i+1]
	}
	return l
}

// of is a hunk of texts of a letter each.
func of(at int, old, new string) api.Hunk {
	return api.Hunk{At: at, Old: letters(old), New: letters(new)}
}

// long is a text of as many bytes.
func long(n int) string { return strings.Repeat("x", n) }

// text is each line with 0A behind it.
func text(l ...string) string {
	var s string
	for _, line := range l {
		s += line + "\n"
	}
	return s
}

// odd are texts that may be a line's, and such as may not.
func odd() []string {
	return []string{"", "a", "b", "ab", "a ", " a", "-", "+", "-a", "+a", "@ 0 1 0", "patch 1", "\x00", "\r", "\xff\xfe", "é", long(256), long(257), "\n", "a\n", "\na", "a\nb", long(256) + "\n", long(255) + "\n", strings.Repeat("é", 128), strings.Repeat("é", 129)}
}

// same tells whether two patches are the same.
func same(p, q []api.Hunk) bool {
	if len(p) != len(q) {
		return false
	}
	for i := range p {
		if p[i].At != q[i].At || !slices.Equal(p[i].Old, q[i].Old) || !slices.Equal(p[i].New, q[i].New) {
			return false
		}
	}
	return true
}

// clone is the same patch in memory of its own.
func clone(p []api.Hunk) []api.Hunk {
	var q []api.Hunk
	for _, h := range p {
		q = append(q, api.Hunk{At: h.At, Old: slices.Clone(h.Old), New: slices.Clone(h.New)})
	}
	return q
}

// may tells by the document's words whether hunks may be a patch.
func may(p []api.Hunk) bool {
	for i, h := range p {
		if len(h.Old) == 0 && len(h.New) == 0 || h.At < 0 || h.At > 2147483647 {
			return false
		}
		for _, s := range slices.Concat(h.Old, h.New) {
			if len(s) > 256 || strings.IndexByte(s, 10) >= 0 {
				return false
			}
		}
		if i > 0 && h.At <= p[i-1].At+len(p[i-1].Old) {
			return false
		}
	}
	return true
}

// printed is by the chapter's words what Print tells.
func printed(p []api.Hunk) (string, int, api.Errno) {
	for i := range p {
		if !may(p[:i+1]) {
			return "", i, 90 - 10
		}
	}
	s := fmt.Sprintf("patch %d\n", len(p))
	for _, h := range p {
		s += fmt.Sprintf("@ %d %d %d\n", h.At, len(h.Old), len(h.New))
		for _, x := range h.Old {
			s += fmt.Sprintf("-%s\n", x)
		}
		for _, x := range h.New {
			s += fmt.Sprintf("+%s\n", x)
		}
	}
	return s, 0, 0
}

// What lines may be: a patch's text, the beginning of one that goes on, or neither.
const (
	whole = iota
	more
	neither
)

var (
	countLine = regexp.MustCompile(`^patch (0|[1-9][0-9]*)$`)
	hunkLine  = regexp.MustCompile(`^@ (0|[1-9][0-9]*) (0|[1-9][0-9]*) (0|[1-9][0-9]*)$`)
)

// known are by the chapter's words what lines are, and the patch whose text they are.
func known(l []string) ([]api.Hunk, int) {
	if len(l) == 0 {
		return nil, more
	}
	m := countLine.FindStringSubmatch(l[0])
	if m == nil {
		return nil, neither
	}
	n, err := strconv.Atoi(m[1])
	if err != nil {
		return nil, neither
	}
	return knownHunks(l[1:], n, 0)
}

// knownHunks are the same of lines of so many hunks, the first one at least at a place.
func knownHunks(l []string, n, least int) ([]api.Hunk, int) {
	switch {
	case n == 0 && len(l) == 0:
		return nil, whole
	case n == 0:
		return nil, neither
	case len(l) == 0:
		return nil, more
	}
	m := hunkLine.FindStringSubmatch(l[0])
	if m == nil {
		return nil, neither
	}
	at, err := strconv.ParseUint(m[1], 10, 31)
	old, err2 := strconv.Atoi(m[2])
	new, err3 := strconv.Atoi(m[3])
	if err != nil || err2 != nil || err3 != nil || int(at) < least || m[2] == "0" && m[3] == "0" {
		return nil, neither
	}
	h := api.Hunk{At: int(at)}
	var what int
	if h.Old, l, what = knownTexts(l[1:], old, '-'); what != whole {
		return nil, what
	}
	if h.New, l, what = knownTexts(l, new, '+'); what != whole {
		return nil, what
	}
	p, what := knownHunks(l, n-1, h.At+old+1)
	return append([]api.Hunk{h}, p...), what
}

// knownTexts are so many texts with a mark ahead of each, and the lines behind them.
func knownTexts(l []string, n int, mark byte) (texts, behind []string, what int) {
	for _, line := range l[:min(n, len(l))] {
		if line == "" || line[0] != mark || len(line) > 257 {
			return nil, nil, neither
		}
		texts = append(texts, line[1:])
	}
	if len(l) < n {
		return nil, nil, more
	}
	return texts, l[n:], whole
}

// parsed is by the chapter's words what Parse tells: each beginning of the lines is asked of.
func parsed(s string) ([]api.Hunk, int, api.Errno) {
	if len(s) > 16777216 {
		return nil, 0, 90
	}
	l := strings.Split(s, "\n")
	n := len(l) - 1
	for i := range n {
		if _, what := known(l[:i+1]); what == neither {
			return nil, i, 90
		}
	}
	p, what := known(l[:n])
	if l[n] != "" || what == more {
		return nil, n, 90
	}
	return p, 0, 0
}

// check holds Parse of a text against the chapter's words.
func check(t *testing.T, s string) {
	t.Helper()
	p, at, e := Parse(s)
	q, want, wantE := parsed(s)
	if !same(p, q) || at != want || e != wantE {
		t.Errorf("Parse(%.200q): %v, %d, %d, not %v, %d, %d", s, p, at, e, q, want, wantE)
	}
}

// made is a patch that may be.
func made(dice *rand.Rand) []api.Hunk {
	texts := odd()
	texts = slices.DeleteFunc(texts, func(s string) bool { return len(s) > 256 || strings.Contains(s, "\n") })
	some := func() []string {
		var l []string
		for range dice.Intn(4) {
			l = append(l, texts[dice.Intn(len(texts))])
		}
		return l
	}
	var p []api.Hunk
	at := dice.Intn(3) * dice.Intn(100)
	for range dice.Intn(6) {
		h := api.Hunk{At: at, Old: some(), New: some()}
		if len(h.Old)+len(h.New) > 0 {
			p = append(p, h)
		}
		at += len(h.Old) + 1 + dice.Intn(3)*dice.Intn(1000)
	}
	return p
}

// spoil makes one thing of a patch another one, and tells the patch.
func spoil(dice *rand.Rand, p []api.Hunk) []api.Hunk {
	p = clone(p)
	if len(p) == 0 {
		return []api.Hunk{of(dice.Intn(9)-4, "", "a")}
	}
	h := &p[dice.Intn(len(p))]
	switch dice.Intn(5) {
	case 0:
		h.At += dice.Intn(5) - 2
	case 1:
		h.Old = append(h.Old, odd()[dice.Intn(len(odd()))])
	case 2:
		h.New = append(h.New, odd()[dice.Intn(len(odd()))])
	case 3:
		h.At = []int{math.MinInt, -1, 1<<31 - 1, 1 << 31, 1 << 32, math.MaxInt}[dice.Intn(6)]
	default:
		h.Old, h.New = nil, nil
	}
	return p
}

// P9.1

func TestPrintOfExamples(t *testing.T) {
	for _, x := range []struct {
		p    []api.Hunk
		text string
		at   int
		want api.Errno
	}{
		{nil, "patch 0\n", 0, api.OK},
		{[]api.Hunk{of(1, "b", "xy")}, "patch 1\n@ 1 1 2\n-b\n+x\n+y\n", 0, api.OK},
		{[]api.Hunk{of(0, "", "p"), of(2, "cd", "")}, "patch 2\n@ 0 0 1\n+p\n@ 2 2 0\n-c\n-d\n", 0, api.OK},
		{[]api.Hunk{{At: 1<<31 - 1, Old: []string{"", " "}, New: []string{"-", "@ 1"}}}, "patch 1\n@ 2147483647 2 2\n-\n- \n+-\n+@ 1\n", 0, api.OK},
		{[]api.Hunk{{At: 10, New: []string{long(256)}}}, "patch 1\n@ 10 0 1\n+" + long(256) + "\n", 0, api.OK},
		{[]api.Hunk{{At: 0, Old: []string{"\r", "\x00", "\xff"}}}, "patch 1\n@ 0 3 0\n-\r\n-\x00\n-\xff\n", 0, api.OK},
		{[]api.Hunk{of(0, "", "")}, "", 0, api.ErrHunks},
		{[]api.Hunk{of(0, "", "a"), of(0, "", "b")}, "", 1, api.ErrHunks},
		{[]api.Hunk{of(0, "a", ""), of(1, "b", "")}, "", 1, api.ErrHunks},
		{[]api.Hunk{of(0, "a", ""), of(2, "b", ""), of(2, "c", ""), of(-1, "", "")}, "", 2, api.ErrHunks},
		{[]api.Hunk{of(-1, "a", "")}, "", 0, api.ErrHunks},
		{[]api.Hunk{of(1<<31, "a", "")}, "", 0, api.ErrHunks},
		{[]api.Hunk{{At: 0, New: []string{long(257)}}}, "", 0, api.ErrHunks},
		{[]api.Hunk{of(0, "a", "b"), {At: 5, Old: []string{"a", "b\n"}}}, "", 1, api.ErrHunks},
	} {
		s, at, e := Print(x.p)
		if s != x.text || at != x.at || e != x.want {
			t.Errorf("%v: %.200q, %d, %d, not %.200q, %d, %d", x.p, s, at, e, x.text, x.at, x.want)
		}
	}
}

func TestPrint(t *testing.T) {
	dice := rand.New(rand.NewSource(1))
	for range 5000 {
		p := made(dice)
		for range 3 {
			s, at, e := Print(p)
			want, wantAt, wantE := printed(p)
			if s != want || at != wantAt || e != wantE {
				t.Errorf("%v: %.200q, %d, %d, not %.200q, %d, %d", p, s, at, e, want, wantAt, wantE)
			}
			p = spoil(dice, p)
		}
	}
}

// Each text is asked of, wherever it stands.
func TestPrintOfEachText(t *testing.T) {
	good := []api.Hunk{of(0, "ab", "cde"), of(3, "", "fg"), of(14, "h", "")}
	for i, h := range good {
		for k := range len(h.Old) + len(h.New) {
			for _, s := range odd() {
				p := clone(good)
				if k < len(h.Old) {
					p[i].Old[k] = s
				} else {
					p[i].New[k-len(h.Old)] = s
				}
				x, at, e := Print(p)
				want, wantAt, wantE := printed(p)
				if x != want || at != wantAt || e != wantE {
					t.Errorf("%v: %.200q, %d, %d, not %.200q, %d, %d", p, x, at, e, want, wantAt, wantE)
				}
			}
		}
	}
}

// A patch whose text is longer than what may be parsed is printed all the same.
func TestPrintOfALongPatch(t *testing.T) {
	p := []api.Hunk{{At: 0, New: slices.Repeat([]string{long(256)}, 70000)}}
	want := "patch 1\n@ 0 0 70000\n" + strings.Repeat("+"+long(256)+"\n", 70000)
	if s, at, e := Print(p); s != want || at != 0 || e != api.OK {
		t.Error(len(s), at, e)
	}
	if p, at, e := Parse(want); len(p) != 0 || at != 0 || e != api.ErrSyntax {
		t.Error(len(p), at, e)
	}
}

// P9.2

func TestParseOfExamples(t *testing.T) {
	for _, x := range []struct {
		s string
		p []api.Hunk
	}{
		{"patch 0\n", nil},
		{"patch 1\n@ 1 1 2\n-b\n+x\n+y\n", []api.Hunk{of(1, "b", "xy")}},
		{"patch 2\n@ 0 1 0\n-a\n@ 2 1 0\n-b\n", []api.Hunk{of(0, "a", ""), of(2, "b", "")}},
		{"patch 2\n@ 0 0 1\n+a\n@ 1 0 1\n+b\n", []api.Hunk{of(0, "", "a"), of(1, "", "b")}},
		{"patch 1\n@ 2147483647 1 1\n-\n+@ 1 1 1\n", []api.Hunk{{At: 1<<31 - 1, Old: []string{""}, New: []string{"@ 1 1 1"}}}},
		{"patch 1\n@ 0 1 1\n--\n++\n", []api.Hunk{of(0, "-", "+")}},
		{"patch 1\n@ 0 0 1\n+" + long(256) + "\n", []api.Hunk{{New: []string{long(256)}}}},
		{"patch 1\n@ 0 3 0\n-\r\n-\x00\n-\xff\n", []api.Hunk{of(0, "\r\x00\xff", "")}},
	} {
		p, at, e := Parse(x.s)
		if !same(p, x.p) || at != 0 || e != api.OK {
			t.Errorf("%.200q: %v, %d, %d, not %v", x.s, p, at, e, x.p)
		}
	}
}

func TestParseOfWhatIsRefused(t *testing.T) {
	for _, x := range []struct {
		s  string
		at int
	}{
		{"", 0},
		{"patch 1\n", 1},
		{"patch 0\nx", 1},
		{"patch 0\nx\n", 1},
		{"patch 0\n\n", 1},
		{"patch 0\npatch 0\n", 1},
		{"patch 01\n", 0},
		{"patch 0", 0},
		{"patch 1\n@ 0 0 0\n", 1},
		{"patch 1\n@ 0 1 0\n+a\n", 2},
		{"patch 2\n@ 0 1 0\n-a\n@ 1 1 0\n-b\n", 3},
		{"patch 2\n@ 0 1 0\n-a\n@ 0 1 0\n-b\n", 3},
		{"patch 2\n@ 0 1 0\n-a\n", 3},
		{"patch 2\n@ 0 1 0\n-a\n@ 2 1 0\n", 4},
		{"patch 1\n@ 0 1 0\n-a\n@ 2 1 0\n-b\n", 3},
		{"patch 1\n@ 0 1 1\n-a\n", 3},
		{"patch 1\n@ 0 1 1\n-a\n+b", 3},
		{"patch 1\n@ 0 1 1\n-a\n-b\n", 3},
		{"patch 1\n@ 0 1 1\n+a\n-b\n", 2},
		{"patch 1\n@ 0 2 1\n-a\n+b\n+c\n", 3},
		{"patch 1\n@ 0 1 0\na\n", 2},
		{"patch 1\n@ 0 1 0\n\n", 2},
		{"patch 1\n@ 0 1 0\n -a\n", 2},
		{"patch 1\n@ 0 0 1\n-a\n", 2},
		{"patch 1\n@ 0 0 1\n+" + long(257) + "\n", 2},
		{"patch 1\n@ 0 2 0\n-a\n-" + long(257) + "\n", 3},
		// No line is of another patch, the one that is read being finished or not.
		{"\n", 0},
		{"\npatch 0\n", 0},
		{" ", 0},
		{"x", 0},
		{"patch", 0},
		{"patch\n", 0},
		{"patch \n", 0},
		{"patch0\n", 0},
		{"Patch 0\n", 0},
		{" patch 0\n", 0},
		{"patch 0 \n", 0},
		{"patch  0\n", 0},
		{"patch 0\r\n", 0},
		{"patch 0 0\n", 0},
		{"patch -0\n", 0},
		{"patch -1\n", 0},
		{"patch +1\n", 0},
		{"patch 1x\n", 0},
		{"patch 0x0\n", 0},
		{"patch \xd9\xa1\n", 0},
		{"@ 0 1 0\n-a\n", 0},
		{"\xef\xbb\xbfpatch 0\n", 0},
	} {
		p, at, e := Parse(x.s)
		if len(p) != 0 || at != x.at || e != api.ErrSyntax {
			t.Errorf("%.200q: %v, %d, %d, not %d", x.s, p, at, e, x.at)
		}
	}
}

// Each line of a set is put behind each other one: so each fault stands in each place where it may.
func TestParseOfAllLines(t *testing.T) {
	set := []string{"patch 0", "patch 1", "patch 2", "@ 0 1 0", "@ 0 0 1", "@ 1 0 1", "@ 1 1 1", "@ 2 1 0", "@ 2 0 0", "@ 3 0 2", "-a", "+a", "-", "x", ""}
	var all func(s string, n int)
	all = func(s string, n int) {
		check(t, s)
		check(t, s+"-a")
		if _, at, e := parsed(s); n == 0 || e != 0 && at < strings.Count(s, "\n")-1 {
			// What is refused so far ahead is refused from there on: see P9.5.
			return
		}
		for _, line := range set {
			all(s+line+"\n", n-1)
		}
	}
	all("", 8)
}

// Each line of a text is made another one, and each byte, and bytes and lines come and go.
func TestParseOfSpoiltTexts(t *testing.T) {
	bytes := []string{"", "\n", " ", "-", "+", "@", "0", "1", "9", "x", "\x00", "\xff"}
	for _, s := range []string{
		"patch 0\n",
		"patch 1\n@ 1 1 2\n-b\n+x\n+y\n",
		"patch 2\n@ 0 1 0\n-a\n@ 2 1 0\n-b\n",
		"patch 3\n@ 10 2 2\n-a\n-b\n+a\n+\n@ 13 0 1\n+10\n@ 100 1 0\n--\n",
	} {
		for i := range len(s) + 1 {
			for _, b := range bytes {
				check(t, s[:i]+b+s[i:])
				check(t, s[:i]+b)
				if i < len(s) {
					check(t, s[:i]+b+s[i+1:])
				}
			}
		}
		lines := strings.SplitAfter(s, "\n")
		for i := range lines {
			for _, line := range append([]string{"", "\n", "-x\n", "+x\n", "@ 0 1 0\n", "@ 1000 1 1\n", "@ 3 1\n", "@ 3 1 1 1\n", "patch 1\n"}, lines...) {
				check(t, strings.Join(slices.Concat(lines[:i], []string{line}, lines[i:]), ""))
				check(t, strings.Join(slices.Concat(lines[:i], []string{line}, lines[min(i+1, len(lines)):]), ""))
			}
		}
	}
}

// Each number of a hunk's line is asked of, whatever the others are.
func TestParseOfNumbers(t *testing.T) {
	numbers := []string{"0", "1", "2", "10", "00", "01", "-0", "-1", "+1", "", " 1", "1 ", "0x1", "1e1", "1.", "a", "١", "2147483646", "2147483647", "2147483648", "4294967296", "4611686018427387904", "9223372036854775807", "9223372036854775808", "18446744073709551616", "18446744073709551617", "-9223372036854775808", "99999999999999999999999999", long(300), strings.Repeat("9", 300)}
	for _, a := range numbers {
		for _, behind := range []string{"", "@ 0 1 0\n", "@ 0 1 0\n-a\n", "\n", "x"} {
			check(t, "patch "+a+"\n"+behind)
		}
		for _, b := range numbers {
			for _, c := range numbers {
				line := "@ " + a + " " + b + " " + c + "\n"
				check(t, "patch 1\n"+line)
				check(t, "patch 1\n"+line+"-a\n")
				check(t, "patch 1\n"+line+"+a\n")
				check(t, "patch 2\n"+line+"-a\n+b\n")
				check(t, "patch 2\n@ 9 1 0\n-a\n"+line+"-a\n+b\n")
			}
		}
	}
}

func TestParseOfNumbersThatRunOut(t *testing.T) {
	for _, x := range []struct {
		s  string
		at int
	}{
		{"patch 9223372036854775807\n", 1},
		{"patch 9223372036854775808\n", 0},
		{"patch 2147483649\n@ 0 0 1\n", 2},
		{"patch 1\n@ 2147483648 1 0\n", 1},
		{"patch 2\n@ 2147483647 1 0\n", 2},
		{"patch 2\n@ 2147483647 0 1\n+a\n", 3},
		{"patch 2\n@ 2147483647 0 1\n+a\n@ 2147483648 0 1\n+a\n", 3},
		{"patch 3\n@ 2147483646 0 1\n+a\n@ 2147483647 0 1\n+a\n", 5},
		{"patch 2\n@ 2147483646 1 0\n-a\n@ 2147483647 0 1\n", 3},
		{"patch 2\n@ 0 9223372036854775807 9223372036854775807\n", 2},
		{"patch 2\n@ 1 9223372036854775807 1\n-a\n-b\n", 4},
		{"patch 2\n@ 2147483647 9223372036854775807 0\n-a\n@ 0 0 1\n", 3},
		{"patch 1\n@ 0 9223372036854775808 0\n", 1},
		{"patch 1\n@ 0 0 9223372036854775807\n+a\n", 3},
	} {
		p, at, e := Parse(x.s)
		if len(p) != 0 || at != x.at || e != api.ErrSyntax {
			t.Errorf("%q: %v, %d, %d, not %d", x.s, p, at, e, x.at)
		}
		check(t, x.s)
	}
}

// longest is a patch whose text has as many bytes as a text may have, and as many more; and that text.
func longest(more int) ([]api.Hunk, string) {
	const n = 65279
	ahead := fmt.Sprintf("patch 1\n@ 0 %d 2\n", n) + strings.Repeat("-"+long(255)+"\n", n)
	rest := 1<<24 + more - len(ahead) - len("+\n+\n")
	a, b := long(rest/2), long(rest-rest/2)
	p := []api.Hunk{{Old: slices.Repeat([]string{long(255)}, n), New: []string{a, b}}}
	return p, ahead + "+" + a + "\n+" + b + "\n"
}

func TestParseOfLongTexts(t *testing.T) {
	for _, less := range []int{0, -1, -10} {
		p, s := longest(less)
		q, at, e := Parse(s)
		if len(s) != 1<<24+less || !same(p, q) || at != 0 || e != api.OK {
			t.Error(len(s), len(q), at, e)
		}
	}
	_, most := longest(0)
	_, past := longest(1)
	for _, s := range []string{past, most + "\n", most + "x", long(1<<24 + 1), "patch 1\n@ 0 0 0\n" + long(1<<24)} {
		if p, at, e := Parse(s); len(p) != 0 || at != 0 || e != api.ErrSyntax {
			t.Error(len(s), len(p), at, e)
		}
	}
	// What is no longer than it may be is asked of by its lines.
	_, s := longest(-1)
	if p, at, e := Parse(s + "\n"); len(p) != 0 || at != strings.Count(s, "\n") || e != api.ErrSyntax {
		t.Error(len(p), at, e)
	}
}

// P9.3

func TestBack(t *testing.T) {
	dice := rand.New(rand.NewSource(3))
	for range 20000 {
		p := made(dice)
		s, _, e := Print(p)
		if e != api.OK {
			t.Fatal(p, e)
		}
		q, at, e := Parse(s)
		if !same(p, q) || at != 0 || e != api.OK {
			t.Errorf("%v: %.200q: %v, %d, %d", p, s, q, at, e)
		}
		if again, _, e := Print(q); again != s || e != api.OK {
			t.Errorf("%.200q: %.200q, %d", s, again, e)
		}
	}
}

// What Parse takes is the text that Print tells, whatever it was spoilt from.
func TestBackOfSpoiltTexts(t *testing.T) {
	dice := rand.New(rand.NewSource(4))
	taken := 0
	for range 60000 {
		s, _, _ := Print(made(dice))
		b := []byte(s)
		for range 1 + dice.Intn(2) {
			b[dice.Intn(len(b))] = "\n -+@0123456789ax"[dice.Intn(17)]
		}
		p, _, e := Parse(string(b))
		if e != api.OK {
			continue
		}
		taken++
		if again, _, e := Print(p); again != string(b) || e != api.OK {
			t.Errorf("%.200q: %v, %.200q, %d", b, p, again, e)
		}
	}
	if taken < 1000 {
		t.Error(taken)
	}
}

// P9.4

func TestWhole(t *testing.T) {
	dice := rand.New(rand.NewSource(5))
	for range 300 {
		p := made(dice)
		s, _, _ := Print(p)
		for i := range s {
			q, at, e := Parse(s[:i])
			if len(q) != 0 || at != strings.Count(s[:i], "\n") || e != api.ErrSyntax {
				t.Errorf("%.200q: %v, %d, %d", s[:i], q, at, e)
			}
		}
		more, _, _ := Print(made(dice))
		for _, behind := range []string{"\n", "x", "-", "+a\n", "@ 5000 0 1\n+a\n", "\x00", " ", "patch", more} {
			q, at, e := Parse(s + behind)
			if len(q) != 0 || at != strings.Count(s, "\n") || e != api.ErrSyntax {
				t.Errorf("%.200q with %q: %v, %d, %d", s, behind, q, at, e)
			}
		}
	}
}

// P9.5

func TestFromWhichLineOn(t *testing.T) {
	dice := rand.New(rand.NewSource(6))
	behind := []string{"", "x", "\n", "-a\n", "+a\n+b\n", "@ 5000 1 0\n-a\n", "patch 0\n", long(300), "\x00\n", strings.Repeat("-a\n", 50)}
	refused := 0
	for range 20000 {
		s, _, _ := Print(made(dice))
		l := strings.SplitAfter(s, "\n")
		l[dice.Intn(len(l))] = []string{"", "\n", "-x\n", "+x\n", "@ 7 1 0\n", "@ 7 0 1\n", "patch 1\n", "patch 3\n"}[dice.Intn(8)]
		s = strings.Join(l, "")
		_, n, e := Parse(s)
		l = strings.SplitAfter(s, "\n")
		if e == api.OK || n >= len(l)-1 {
			// Where the text ends before its patch, there is no line that is refused.
			continue
		}
		refused++
		for _, more := range behind {
			p, at, e := Parse(strings.Join(l[:n+1], "") + more)
			if len(p) != 0 || at != n || e != api.ErrSyntax {
				t.Errorf("%.200q with %.200q behind the line %d: %v, %d, %d", s, more, n, p, at, e)
			}
		}
	}
	if refused < 5000 {
		t.Error(refused)
	}
}

// The rules that hold everywhere

func TestNilIsAsEmpty(t *testing.T) {
	for _, p := range [][]api.Hunk{nil, {}} {
		if s, at, e := Print(p); s != "patch 0\n" || at != 0 || e != api.OK {
			t.Error(p, s, at, e)
		}
	}
	for _, l := range [][]string{nil, {}} {
		if s, _, e := Print([]api.Hunk{{At: 1, Old: l, New: []string{"a"}}}); s != "patch 1\n@ 1 0 1\n+a\n" || e != api.OK {
			t.Error(s, e)
		}
		if s, _, e := Print([]api.Hunk{{At: 1, Old: []string{"a"}, New: l}}); s != "patch 1\n@ 1 1 0\n-a\n" || e != api.OK {
			t.Error(s, e)
		}
		if s, at, e := Print([]api.Hunk{{At: 1, Old: l, New: l}}); s != "" || at != 0 || e != api.ErrHunks {
			t.Error(s, at, e)
		}
	}
}

func TestWhatIsHandedInIsNotChangedAndNotKept(t *testing.T) {
	row := append(letters("abcdefgh"), "no\nline", long(300))
	hunks := []api.Hunk{{At: 1, Old: row[:2], New: row[2:3]}, {At: 9, Old: row[4:4], New: row[4:7]}, of(0, "", "")}
	before, beforeRow := clone(hunks), slices.Clone(row)
	s, _, e := Print(hunks[:2])
	if s != "patch 2\n@ 1 2 1\n-a\n-b\n+c\n@ 9 0 3\n+e\n+f\n+g\n" || e != api.OK {
		t.Error(s, e)
	}
	if !same(hunks, before) || !slices.Equal(row, beforeRow) {
		t.Error(hunks, row)
	}
	for i := range row {
		row[i] = "z"
	}
	if again, _, _ := Print(before[:2]); again != s {
		t.Error(again)
	}
}

// spoilt writes a thing all over a list, its spare room too.
func spoilt[T any](l []T, with T) {
	l = l[:cap(l)]
	for i := range l {
		l[i] = with
	}
}

func TestWhatIsHandedOutIsNew(t *testing.T) {
	dice := rand.New(rand.NewSource(7))
	for range 3000 {
		want := made(dice)
		s, _, _ := Print(want)
		p, _, _ := Parse(s)
		q, _, _ := Parse(s)
		// No list shares memory with another one of the answer, or of another answer: only what was written over is another text.
		for i := range p {
			spoilt(p[i].Old, "old")
			spoilt(p[i].New, "new")
			for k := range p {
				old, new := want[k].Old, want[k].New
				if k <= i {
					old, new = slices.Repeat([]string{"old"}, len(old)), slices.Repeat([]string{"new"}, len(new))
				}
				if !slices.Equal(p[k].Old, old) || !slices.Equal(p[k].New, new) {
					t.Fatalf("%v: %v", want, p)
				}
			}
		}
		spoilt(p, of(-5, "s", "s"))
		if r, _, _ := Parse(s); !same(q, want) || !same(r, want) {
			t.Fatalf("%v: %v, %v", want, q, r)
		}
	}
}

func TestZerosBesideErrors(t *testing.T) {
	for _, p := range [][]api.Hunk{{of(0, "", "")}, {of(1, "a", "b"), of(1, "a", "b")}} {
		if s, at, e := Print(p); s != "" || at != len(p)-1 || e != api.ErrHunks {
			t.Error(s, at, e)
		}
	}
	for _, s := range []string{"patch 2\n@ 0 1 0\n-a\n@ 1 1 0\n-b\n", "patch 1\n@ 0 1 1\n-a\n", "patch 1\n@ 0 1 0\n-a\nx"} {
		if p, at, e := Parse(s); p != nil || at != 3 || e != api.ErrSyntax {
			t.Error(p, at, e)
		}
	}
}

// Texts as long as they may be, of whatever bytes, are told of in a while, and in no more room than they ask for.
func TestLongTextsEnd(t *testing.T) {
	const most = api.MaxPatch
	for _, x := range []struct {
		s  string
		at int
	}{
		{strings.Repeat("9", most), 0},
		{"patch " + strings.Repeat("9", most-7) + "\n", 0},
		{"patch 1\n@" + strings.Repeat(" 1", most/2-5) + "\n", 1},
		{"patch 1\n@" + strings.Repeat(" ", most-10) + "\n", 1},
		{"patch 1\n@ 0 0 1\n+" + strings.Repeat("x", most-18) + "\n", 2},
		{strings.Repeat("\n", most), 0},
		{"patch 0\n" + strings.Repeat("\n", most-8), 1},
		{"patch 1\n@ 0 9223372036854775807 0\n" + strings.Repeat("-\n", most/2-20), most/2 - 18},
		{"patch 1\n@ 0 1 9223372036854775807\n-\n" + strings.Repeat("+\n", most/2-20), most/2 - 17},
		{"patch 9223372036854775807\n" + strings.Repeat("@ 0 0 1\n+\n", 1600000), 3},
	} {
		p, at, e := Parse(x.s)
		if len(x.s) > most || len(p) != 0 || at != x.at || e != api.ErrSyntax {
			t.Errorf("%.40q, %d bytes: %d, %d, %d, not %d", x.s, len(x.s), len(p), at, e, x.at)
		}
	}
	var b strings.Builder
	b.WriteString("patch 1000000\n")
	for i := range 1000000 {
		fmt.Fprintf(&b, "@ %d 0 1\n+\n", i)
	}
	p, at, e := Parse(b.String())
	if len(p) != 1000000 || at != 0 || e != api.OK {
		t.Fatal(len(p), at, e)
	}
	if s, _, e := Print(p); s != b.String() || e != api.OK {
		t.Error(len(s), e)
	}
}
