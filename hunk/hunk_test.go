package hunk

import (
	"math"
	"math/rand"
	"slices"
	"strconv"
	"strings"
	"testing"

	"scrim/api"
)

// letters are the text's bytes, a text each.
func letters(s string) []string {
	l := make([]string, len(s))
	for i := range l {
		l[i] = s[i : i+1]
	}
	return l
}

// of is a hunk of texts of a letter each.
func of(at int, old, new string) api.Hunk {
	return api.Hunk{At: at, Old: letters(old), New: letters(new)}
}

// rows are as many texts, each with the word ahead of its place.
func rows(word string, n int) []string {
	l := make([]string, n)
	for i := range l {
		l[i] = word + strconv.Itoa(i)
	}
	return l
}

// some are as many texts, each one of a few.
func some(dice *rand.Rand, n, few int) []string {
	l := make([]string, n)
	for i := range l {
		l[i] = strconv.Itoa(dice.Intn(few))
	}
	return l
}

// same tells whether two patches are the same.
func same(p, q []api.Hunk) bool {
	if len(p) != len(q) {
		return false
	}
	for i := range p {
		if p[i].At != q[i].At || !slices.Equal(p[i].Old, q[i].Old) || !slices.Equal(p[i].New, q[i].New) {
			return false
		}
	}
	return true
}

// clone is the same patch in memory of its own.
func clone(p []api.Hunk) []api.Hunk {
	var q []api.Hunk
	for _, h := range p {
		q = append(q, api.Hunk{At: h.At, Old: slices.Clone(h.Old), New: slices.Clone(h.New)})
	}
	return q
}

// may tells by the document's words whether hunks may be a patch.
func may(p []api.Hunk) bool {
	for i, h := range p {
		if len(h.Old) == 0 && len(h.New) == 0 || h.At < 0 || h.At > 2147483647 {
			return false
		}
		for _, s := range slices.Concat(h.Old, h.New) {
			if len(s) > 256 || strings.IndexByte(s, 10) >= 0 {
				return false
			}
		}
		if i > 0 && h.At <= p[i-1].At+len(p[i-1].Old) {
			return false
		}
	}
	return true
}

// checked is by the chapter's words what Check tells.
func checked(p []api.Hunk) (int, api.Errno) {
	for i := range p {
		if !may(p[:i+1]) {
			return i, 80
		}
	}
	return 0, 0
}

// fitted is by the chapter's words what Fits tells.
func fitted(p []api.Hunk, texts []string) (int, api.Errno) {
	if i, e := checked(p); e != 0 {
		return i, e
	}
	for i, h := range p {
		for k, s := range h.Old {
			if h.At+len(h.Old) <= len(texts) && texts[h.At+k] != s {
				return i, 82
			}
		}
		if h.At+len(h.Old) > len(texts) {
			return i, 81
		}
	}
	return 0, 0
}

// applied is a patch applied, from its last hunk to its first.
func applied(texts []string, p []api.Hunk) ([]string, api.Errno) {
	if _, e := fitted(p, texts); e != 0 {
		return nil, e
	}
	l := slices.Clone(texts)
	for i := len(p) - 1; i >= 0; i-- {
		l = slices.Replace(l, p[i].At, p[i].At+len(p[i].Old), p[i].New...)
	}
	return l, 0
}

// inverted is by the chapter's words what Invert tells.
func inverted(p []api.Hunk) ([]api.Hunk, api.Errno) {
	var back []api.Hunk
	for i, h := range p {
		at := h.At
		for _, ahead := range p[:i] {
			at += len(ahead.New) - len(ahead.Old)
		}
		back = append(back, api.Hunk{At: at, Old: h.New, New: h.Old})
	}
	if !may(p) || !may(back) {
		return nil, 80
	}
	return back, 0
}

// sized is by the chapter's words what Sizes tells.
func sized(p []api.Hunk) (removed, added int, e api.Errno) {
	if !may(p) {
		return 0, 0, 80
	}
	for _, h := range p {
		for range h.Old {
			removed++
		}
		for range h.New {
			added++
		}
	}
	return removed, added, 0
}

// touched is by the chapter's words what Touched tells.
func touched(p []api.Hunk, n int) ([]bool, api.Errno) {
	if !may(p) || n < 0 || n > 1048576 {
		return nil, 80
	}
	for _, h := range p {
		if h.At+len(h.Old) > n {
			return nil, 81
		}
	}
	l := make([]bool, n)
	for i := range l {
		l[i] = slices.ContainsFunc(p, func(h api.Hunk) bool { return h.At <= i && i < h.At+len(h.Old) })
	}
	return l, 0
}

// long is a text of as many bytes.
func long(n int) string { return strings.Repeat("x", n) }

// odd are texts that may be a line's, and such as may not.
func odd() []string {
	return []string{"", "a", "b", "ab", "a ", "A", "\x00", "\r", "\xff\xfe", "é", long(256), long(257), "\n", "a\n", "\na", "a\nb", long(256) + "\n", long(255) + "\n", strings.Repeat("é", 128), strings.Repeat("é", 129)}
}

// hunks are each hunk of a place and few letters, with such as may not be.
func hunks() []api.Hunk {
	var l []api.Hunk
	for _, at := range []int{-1, 0, 1, 2, 3, 4} {
		for _, old := range []string{"", "a", "b", "ab"} {
			for _, new := range []string{"", "a", "xy"} {
				l = append(l, of(at, old, new))
			}
		}
	}
	for _, at := range []int{math.MinInt, math.MinInt + 1, -1 << 31, 1<<31 - 1, 1 << 31, 1 << 32, 1<<62 + 1, math.MaxInt} {
		l = append(l, of(at, "a", ""), of(at, "", "xyz"))
	}
	for _, s := range odd() {
		l = append(l, api.Hunk{At: 1, Old: []string{s}}, api.Hunk{At: 2, New: []string{"a", s}})
	}
	return l
}

// made is a patch for texts, that fits where it may be at all.
func made(dice *rand.Rand, texts []string, few int) []api.Hunk {
	var p []api.Hunk
	for at := dice.Intn(3); at <= len(texts); {
		n := min(dice.Intn(3), len(texts)-at)
		h := api.Hunk{At: at, Old: slices.Clone(texts[at : at+n]), New: some(dice, dice.Intn(3), few)}
		if len(h.Old)+len(h.New) > 0 {
			p = append(p, h)
		}
		at += n + 1 + dice.Intn(4)
	}
	return p
}

// spoil makes one thing of a patch another one, and tells the patch.
func spoil(dice *rand.Rand, p []api.Hunk) []api.Hunk {
	p = clone(p)
	if len(p) == 0 {
		return []api.Hunk{of(dice.Intn(9)-2, "", "a")}
	}
	h := &p[dice.Intn(len(p))]
	switch dice.Intn(5) {
	case 0:
		h.At += dice.Intn(5) - 2
	case 1:
		h.Old = append(h.Old, "0")
	case 2:
		h.New = append(h.New, odd()[dice.Intn(len(odd()))])
	case 3:
		h.Old, h.New = h.New, h.Old
	default:
		h.Old, h.New = nil, nil
	}
	return p
}

// patches calls with many patches, and texts which some of them fit.
func patches(do func(texts []string, p []api.Hunk)) {
	few := hunks()
	for _, texts := range [][]string{nil, letters("a"), letters("ab"), letters("aabab"), {"", "a"}, {"\n", "a\n", long(257)}} {
		do(texts, nil)
		for _, h := range few {
			do(texts, []api.Hunk{h})
			for _, g := range few {
				do(texts, []api.Hunk{h, g})
			}
		}
	}
	dice := rand.New(rand.NewSource(8))
	for i := range 6000 {
		texts := some(dice, i%23, 1+i%7)
		p := made(dice, texts, 1+i%7)
		do(texts, p)
		p = spoil(dice, p)
		do(texts, p)
		do(texts, spoil(dice, p))
	}
}

// P8.1

func TestCheckOfExamples(t *testing.T) {
	for _, x := range []struct {
		p    []api.Hunk
		at   int
		want api.Errno
	}{
		{nil, 0, api.OK},
		{[]api.Hunk{of(1, "b", "xy")}, 0, api.OK},
		{[]api.Hunk{of(0, "", "p"), of(2, "cd", "")}, 0, api.OK},
		{[]api.Hunk{of(1, "b", "c"), of(2, "", "x")}, 1, api.ErrHunks},
		{[]api.Hunk{of(1, "b", "c"), of(3, "", "x")}, 0, api.OK},
		{[]api.Hunk{of(0, "", "")}, 0, api.ErrHunks},
		{[]api.Hunk{of(-1, "a", "")}, 0, api.ErrHunks},
		{[]api.Hunk{{At: 0, Old: []string{"a\nb"}}}, 0, api.ErrHunks},
		{[]api.Hunk{{At: 0, New: []string{"a", "\n"}}}, 0, api.ErrHunks},
		{[]api.Hunk{{At: 0, New: []string{long(256)}}}, 0, api.OK},
		{[]api.Hunk{{At: 0, New: []string{long(257)}}}, 0, api.ErrHunks},
		{[]api.Hunk{{At: 0, Old: []string{long(257)}, New: letters("a")}}, 0, api.ErrHunks},
		{[]api.Hunk{of(1<<31-1, "abc", "")}, 0, api.OK},
		{[]api.Hunk{of(1<<31, "", "a")}, 0, api.ErrHunks},
		{[]api.Hunk{of(0, "", "a"), of(0, "", "b")}, 1, api.ErrHunks},
		{[]api.Hunk{of(0, "", "a"), of(1, "", "b")}, 0, api.OK},
		{[]api.Hunk{of(5, "", "a"), of(1, "", "b")}, 1, api.ErrHunks},
		{[]api.Hunk{of(0, "ab", "a"), of(2, "c", "b"), of(9, "", "")}, 1, api.ErrHunks},
		{[]api.Hunk{of(0, "ab", "a"), of(3, "c", "b"), of(9, "", "")}, 2, api.ErrHunks},
		{[]api.Hunk{of(0, "ab", "a"), of(3, "", ""), of(9, "", ""), of(-1, "a", "")}, 1, api.ErrHunks},
		{[]api.Hunk{of(1<<31-3, "a", ""), of(1<<31-1, "a", "")}, 0, api.OK},
		{[]api.Hunk{of(1<<31-1, "a", ""), of(1<<31+1, "a", "")}, 1, api.ErrHunks},
		{[]api.Hunk{of(math.MaxInt, "a", ""), of(math.MinInt, "a", "")}, 0, api.ErrHunks},
		// What is added does not stand between two hunks: it is no line of the view.
		{[]api.Hunk{of(0, "a", ""), of(1, "b", "")}, 1, api.ErrHunks},
		{[]api.Hunk{of(0, "a", "xyzuv"), of(2, "b", "")}, 0, api.OK},
	} {
		if at, e := Check(x.p); at != x.at || e != x.want {
			t.Errorf("%v: %d, %d, not %d, %d", x.p, at, e, x.at, x.want)
		}
	}
}

func TestCheck(t *testing.T) {
	patches(func(_ []string, p []api.Hunk) {
		at, want := checked(p)
		if x, e := Check(p); x != at || e != want {
			t.Errorf("%v: %d, %d, not %d, %d", p, x, e, at, want)
		}
	})
}

// Each text is asked of, wherever it stands.
func TestCheckOfEachText(t *testing.T) {
	good := []api.Hunk{of(0, "ab", "cde"), of(3, "", "fg"), of(4, "h", "")}
	for i, h := range good {
		for k := range len(h.Old) + len(h.New) {
			for _, s := range odd() {
				p := clone(good)
				if k < len(h.Old) {
					p[i].Old[k] = s
				} else {
					p[i].New[k-len(h.Old)] = s
				}
				at, want := checked(p)
				if x, e := Check(p); x != at || e != want {
					t.Errorf("%v: %d, %d, not %d, %d", p, x, e, at, want)
				}
			}
		}
	}
}

func TestFitsOfExamples(t *testing.T) {
	texts := letters("abcd")
	for _, x := range []struct {
		p    []api.Hunk
		at   int
		want api.Errno
	}{
		{nil, 0, api.OK},
		{[]api.Hunk{of(1, "b", "xy")}, 0, api.OK},
		{[]api.Hunk{of(3, "dc", "")}, 0, api.ErrRange},
		{[]api.Hunk{of(1, "c", "")}, 0, api.ErrText},
		{[]api.Hunk{of(4, "", "e")}, 0, api.OK},
		{[]api.Hunk{of(5, "", "e")}, 0, api.ErrRange},
		{[]api.Hunk{of(3, "xy", "")}, 0, api.ErrRange},
		{[]api.Hunk{of(0, "abcd", "")}, 0, api.OK},
		{[]api.Hunk{of(0, "abcx", "")}, 0, api.ErrText},
		{[]api.Hunk{of(0, "abcde", "")}, 0, api.ErrRange},
		{[]api.Hunk{of(0, "", "x"), of(2, "c", "")}, 0, api.OK},
		// The first hunk that does not fit tells, whatever is wrong with the next one.
		{[]api.Hunk{of(0, "a", "x"), of(2, "x", ""), of(9, "", "x")}, 1, api.ErrText},
		{[]api.Hunk{of(0, "a", "x"), of(2, "c", ""), of(9, "", "x")}, 2, api.ErrRange},
		{[]api.Hunk{of(0, "a", "x"), of(9, "", "x"), of(11, "x", "")}, 1, api.ErrRange},
		// But where the hunks are no patch, that is told first, with its place.
		{[]api.Hunk{of(0, "x", ""), of(9, "", "x"), of(9, "", "x")}, 2, api.ErrHunks},
		{[]api.Hunk{of(0, "x", ""), of(1, "b", ""), of(9, "", "x")}, 1, api.ErrHunks},
		{[]api.Hunk{of(1<<31-1, "", "x")}, 0, api.ErrRange},
		{[]api.Hunk{of(1, "b", ""), of(1<<31-1, "a", "")}, 1, api.ErrRange},
		{[]api.Hunk{of(math.MaxInt, "b", "")}, 0, api.ErrHunks},
	} {
		if at, e := Fits(x.p, texts); at != x.at || e != x.want {
			t.Errorf("%v: %d, %d, not %d, %d", x.p, at, e, x.at, x.want)
		}
	}
}

func TestFits(t *testing.T) {
	var fit int
	patches(func(texts []string, p []api.Hunk) {
		at, want := fitted(p, texts)
		if x, e := Fits(p, texts); x != at || e != want {
			t.Errorf("%v, %q: %d, %d, not %d, %d", p, texts, x, e, at, want)
		}
		if want == api.OK && len(p) > 2 {
			fit++
		}
	})
	if fit < 3000 {
		t.Errorf("only %d of these patches fit", fit)
	}
}

// Nothing is asked of the texts that the patch does not name.
func TestFitsOfTextsThatMayBeNoLines(t *testing.T) {
	texts := []string{"a\nb", "b", long(1000)}
	p := []api.Hunk{of(1, "b", "x")}
	if at, e := Fits(p, texts); at != 0 || e != api.OK {
		t.Errorf("%d, %d", at, e)
	}
	if l, e := Apply(texts, p); e != api.OK || !slices.Equal(l, []string{"a\nb", "x", long(1000)}) {
		t.Errorf("%q, %d", l, e)
	}
}

// P8.2

func TestApplyAndInvertOfExamples(t *testing.T) {
	texts := letters("abcd")
	for _, x := range []struct {
		p    []api.Hunk
		want string
		back []api.Hunk
	}{
		{nil, "abcd", nil},
		{[]api.Hunk{of(1, "b", "xy")}, "axycd", []api.Hunk{of(1, "xy", "b")}},
		{[]api.Hunk{of(0, "", "p"), of(2, "cd", "")}, "pab", []api.Hunk{of(0, "p", ""), of(3, "", "cd")}},
		{[]api.Hunk{of(0, "abcd", "")}, "", []api.Hunk{of(0, "", "abcd")}},
		{[]api.Hunk{of(4, "", "ef")}, "abcdef", []api.Hunk{of(4, "ef", "")}},
		{[]api.Hunk{of(0, "a", ""), of(2, "c", ""), of(4, "", "e")}, "bde", []api.Hunk{of(0, "", "a"), of(1, "", "c"), of(2, "e", "")}},
		{[]api.Hunk{of(0, "ab", "a"), of(3, "d", "uvw")}, "acuvw", []api.Hunk{of(0, "a", "ab"), of(2, "uvw", "d")}},
		{[]api.Hunk{of(1, "b", "b")}, "abcd", []api.Hunk{of(1, "b", "b")}},
	} {
		if l, e := Apply(texts, x.p); e != api.OK || !slices.Equal(l, letters(x.want)) {
			t.Errorf("%v: %q, %d", x.p, l, e)
		}
		if back, e := Invert(x.p); e != api.OK || !same(back, x.back) {
			t.Errorf("%v: %v, %d", x.p, back, e)
		}
		if l, e := Undo(letters(x.want), x.p); e != api.OK || !slices.Equal(l, texts) {
			t.Errorf("%v: %q, %d", x.p, l, e)
		}
	}
}

func TestApply(t *testing.T) {
	patches(func(texts []string, p []api.Hunk) {
		want, e := applied(texts, p)
		if l, got := Apply(texts, p); got != e || !slices.Equal(l, want) {
			t.Errorf("%v, %q: %q, %d, not %q, %d", p, texts, l, got, want, e)
		}
	})
}

func TestInvert(t *testing.T) {
	patches(func(_ []string, p []api.Hunk) {
		want, e := inverted(p)
		if back, got := Invert(p); got != e || !same(back, want) {
			t.Errorf("%v: %v, %d, not %v, %d", p, back, got, want, e)
		}
	})
}

func TestUndo(t *testing.T) {
	patches(func(texts []string, p []api.Hunk) {
		back, e := inverted(p)
		var want []string
		if e == 0 {
			want, e = applied(texts, back)
		}
		if l, got := Undo(texts, p); got != e || !slices.Equal(l, want) {
			t.Errorf("%v, %q: %q, %d, not %q, %d", p, texts, l, got, want, e)
		}
	})
}

// A patch may be, and what would undo it not.
func TestInvertOfPlacesPastTheGreatest(t *testing.T) {
	for _, x := range []struct {
		p    []api.Hunk
		want api.Errno
	}{
		{[]api.Hunk{of(0, "", "a"), of(1<<31-1, "", "b")}, api.ErrHunks},
		{[]api.Hunk{of(0, "", "a"), of(1<<31-2, "", "b")}, api.OK},
		{[]api.Hunk{of(0, "a", "b"), of(1<<31-1, "", "b")}, api.OK},
		{[]api.Hunk{of(0, "ab", "c"), of(1<<31-1, "", "b")}, api.OK},
		{[]api.Hunk{of(0, "", "ab"), of(3, "c", ""), of(1<<31-1, "", "b")}, api.ErrHunks},
		{[]api.Hunk{of(0, "", "a"), of(3, "c", ""), of(1<<31-1, "", "b")}, api.OK},
		{[]api.Hunk{of(1<<31-3, "", "ab"), of(1<<31-2, "", "b")}, api.ErrHunks},
		{[]api.Hunk{of(1<<31-1, "abc", "")}, api.OK},
	} {
		if _, e := Check(x.p); e != api.OK {
			t.Errorf("%v: %d", x.p, e)
		}
		back, e := Invert(x.p)
		if e != x.want || e != api.OK && len(back) > 0 {
			t.Errorf("%v: %v, %d, not %d", x.p, back, e, x.want)
		}
		want := api.ErrHunks
		if x.want == api.OK {
			_, want = Fits(back, nil)
		}
		if l, e := Undo(nil, x.p); e != want || len(l) > 0 {
			t.Errorf("%v: %q, %d, not %d", x.p, l, e, want)
		}
	}
}

// P8.3

func TestSizesOfExamples(t *testing.T) {
	for _, x := range []struct {
		p              []api.Hunk
		removed, added int
		want           api.Errno
	}{
		{[]api.Hunk{of(0, "", "p"), of(2, "cd", "")}, 2, 1, api.OK},
		{nil, 0, 0, api.OK},
		{[]api.Hunk{of(1, "b", "xy")}, 1, 2, api.OK},
		{[]api.Hunk{of(1, "b", "b")}, 1, 1, api.OK},
		{[]api.Hunk{of(1, "b", "xy"), of(2, "", "x")}, 0, 0, api.ErrHunks},
	} {
		if removed, added, e := Sizes(x.p); removed != x.removed || added != x.added || e != x.want {
			t.Errorf("%v: %d, %d, %d", x.p, removed, added, e)
		}
	}
}

func TestSizes(t *testing.T) {
	patches(func(_ []string, p []api.Hunk) {
		removed, added, want := sized(p)
		if x, y, e := Sizes(p); x != removed || y != added || e != want {
			t.Errorf("%v: %d, %d, %d, not %d, %d, %d", p, x, y, e, removed, added, want)
		}
	})
}

func TestTouchOfAnyHunk(t *testing.T) {
	for _, x := range []struct {
		h                       api.Hunk
		changed, removed, added int
	}{
		{of(0, "ab", "x"), 1, 1, 0},
		{of(0, "a", "xyz"), 1, 0, 2},
		{of(0, "ab", "ab"), 2, 0, 0},
		{of(0, "abc", ""), 0, 3, 0},
		{of(0, "", "abc"), 0, 0, 3},
		{of(0, "", ""), 0, 0, 0},
		{api.Hunk{}, 0, 0, 0},
		{of(-1, "a", ""), 0, 1, 0},
		{of(math.MinInt, "ab", "c"), 1, 1, 0},
		{of(math.MaxInt, "a", "bc"), 1, 0, 1},
		{api.Hunk{Old: []string{"\n", long(1000)}, New: []string{"a\nb"}}, 1, 1, 0},
	} {
		if changed, removed, added := Touch(x.h); changed != x.changed || removed != x.removed || added != x.added {
			t.Errorf("%v: %d, %d, %d", x.h, changed, removed, added)
		}
	}
}

func TestTouchedOfExamples(t *testing.T) {
	for _, x := range []struct {
		p    []api.Hunk
		n    int
		set  string
		want api.Errno
	}{
		{nil, 0, "", api.OK},
		{nil, 3, "...", api.OK},
		{[]api.Hunk{of(1, "b", "xy")}, 4, ".x..", api.OK},
		{[]api.Hunk{of(0, "", "p"), of(2, "cd", "")}, 4, "..xx", api.OK},
		{[]api.Hunk{of(0, "", "p"), of(2, "cd", "")}, 3, "", api.ErrRange},
		{[]api.Hunk{of(0, "ab", "")}, 2, "xx", api.OK},
		{[]api.Hunk{of(0, "ab", "")}, 1, "", api.ErrRange},
		{[]api.Hunk{of(2, "", "x")}, 2, "..", api.OK},
		{[]api.Hunk{of(3, "", "x")}, 2, "", api.ErrRange},
		{[]api.Hunk{of(0, "", "x")}, 0, "", api.OK},
		{[]api.Hunk{of(0, "a", "")}, 0, "", api.ErrRange},
		{[]api.Hunk{of(0, "a", ""), of(2, "a", "bcd"), of(4, "", "x")}, 5, "x.x..", api.OK},
		{[]api.Hunk{of(1<<31-1, "a", "")}, 5, "", api.ErrRange},
		{[]api.Hunk{of(0, "", "")}, 5, "", api.ErrHunks},
		{[]api.Hunk{of(9, "a", ""), of(3, "", "x")}, 5, "", api.ErrHunks},
		{nil, -1, "", api.ErrHunks},
		{nil, math.MinInt, "", api.ErrHunks},
		{nil, 1<<20 + 1, "", api.ErrHunks},
		{nil, math.MaxInt, "", api.ErrHunks},
		{[]api.Hunk{of(9, "a", "")}, -1, "", api.ErrHunks},
		{[]api.Hunk{of(1<<31-1, "a", "")}, 1<<20 + 1, "", api.ErrHunks},
	} {
		l, e := Touched(x.p, x.n)
		if e != x.want || len(l) != len(x.set) {
			t.Errorf("%v, %d: %v, %d", x.p, x.n, l, e)
			continue
		}
		for i := range l {
			if l[i] != (x.set[i] == 'x') {
				t.Errorf("%v, %d: %v", x.p, x.n, l)
			}
		}
	}
}

func TestTouched(t *testing.T) {
	patches(func(texts []string, p []api.Hunk) {
		for n := len(texts) - 1; n <= len(texts)+1; n++ {
			want, e := touched(p, n)
			if l, got := Touched(p, n); got != e || !slices.Equal(l, want) {
				t.Errorf("%v, %d: %v, %d, not %v, %d", p, n, l, got, want, e)
			}
		}
	})
}

func TestTouchedOfMostLines(t *testing.T) {
	l, e := Touched([]api.Hunk{of(0, "a", ""), of(1<<20-1, "b", "")}, 1<<20)
	if e != api.OK || len(l) != 1048576 || !l[0] || !l[1<<20-1] || slices.Contains(l[1:1<<20-1], true) {
		t.Errorf("%d, %d", len(l), e)
	}
	if l, e := Touched([]api.Hunk{of(0, "a", ""), of(1<<20, "b", "")}, 1<<20); e != api.ErrRange || len(l) != 0 {
		t.Errorf("%d, %d", len(l), e)
	}
}

func TestSame(t *testing.T) {
	few := slices.Concat(hunks(), []api.Hunk{{}, {At: 1, Old: []string{}}, {At: 1, New: []string{}}, of(1, "a", "b"), of(1, "ab", ""), of(1, "", "ab"), {At: 1, Old: []string{"ab"}}, {At: 1, Old: []string{"", "ab"}}, {At: 1, Old: []string{"ab", ""}}})
	for _, h := range few {
		for _, g := range few {
			for _, x := range []struct{ a, b []api.Hunk }{
				{[]api.Hunk{h}, []api.Hunk{g}},
				{[]api.Hunk{h, g}, []api.Hunk{g, h}},
				{[]api.Hunk{h, g}, []api.Hunk{h, h}},
				{[]api.Hunk{h, g}, []api.Hunk{h}},
				{[]api.Hunk{h}, []api.Hunk{h, g}},
				{nil, []api.Hunk{g}},
				{[]api.Hunk{h}, nil},
			} {
				want := same(x.a, x.b)
				if got, again := Same(x.a, x.b), Same(clone(x.a), clone(x.b)); got != want || again != want {
					t.Errorf("%v, %v: %t, %t", x.a, x.b, got, again)
				}
			}
		}
	}
	if !Same(nil, nil) || !Same(nil, []api.Hunk{}) || !Same([]api.Hunk{}, nil) {
		t.Error("no hunks")
	}
	if Same([]api.Hunk{{}}, nil) || !Same([]api.Hunk{{}}, []api.Hunk{{Old: []string{}, New: []string{}}}) {
		t.Error("a hunk of nothing")
	}
}

// P8.4

func TestUndone(t *testing.T) {
	patches(func(texts []string, p []api.Hunk) {
		if _, e := Fits(p, texts); e != api.OK {
			return
		}
		l, e := Apply(texts, p)
		back, f := Invert(p)
		if e != api.OK || f != api.OK {
			t.Fatalf("%v, %q: %d, %d", p, texts, e, f)
		}
		if at, e := Fits(back, l); at != 0 || e != api.OK {
			t.Errorf("%v, %q: %d, %d", p, texts, at, e)
		}
		if was, e := Apply(l, back); e != api.OK || !slices.Equal(was, texts) {
			t.Errorf("%v, %q: %q, %d", p, texts, was, e)
		}
		if was, e := Undo(l, p); e != api.OK || !slices.Equal(was, texts) {
			t.Errorf("%v, %q: %q, %d", p, texts, was, e)
		}
	})
}

func TestTwiceInverted(t *testing.T) {
	patches(func(_ []string, p []api.Hunk) {
		back, e := Invert(p)
		if e != api.OK {
			return
		}
		if again, e := Invert(back); e != api.OK || !Same(again, p) {
			t.Errorf("%v: %v, %d", p, again, e)
		}
	})
}

func TestWithoutHunks(t *testing.T) {
	for _, p := range [][]api.Hunk{nil, {}} {
		for _, texts := range [][]string{nil, {}, letters("a"), letters("abab"), {"\n", long(1000)}, rows("r", 5000)} {
			if at, e := Fits(p, texts); at != 0 || e != api.OK {
				t.Errorf("%d, %d", at, e)
			}
			if l, e := Apply(texts, p); e != api.OK || !slices.Equal(l, texts) {
				t.Errorf("%q, not %q, %d", l, texts, e)
			}
			if l, e := Undo(texts, p); e != api.OK || !slices.Equal(l, texts) {
				t.Errorf("%q, not %q, %d", l, texts, e)
			}
		}
		if back, e := Invert(p); e != api.OK || len(back) != 0 {
			t.Errorf("%v, %d", back, e)
		}
	}
}

// P8.5

// untouched are the texts that are not touched, in their order.
func untouched(texts []string, touched []bool) []string {
	var l []string
	for i, s := range texts {
		if !touched[i] {
			l = append(l, s)
		}
	}
	return l
}

func TestCounted(t *testing.T) {
	patches(func(texts []string, p []api.Hunk) {
		l, e := Apply(texts, p)
		if e != api.OK {
			return
		}
		removed, added, e := Sizes(p)
		if e != api.OK || len(l) != len(texts)-removed+added {
			t.Errorf("%v, %q: %q, %d, %d, %d", p, texts, l, removed, added, e)
		}
		back, e := Invert(p)
		gone, f := Touched(p, len(texts))
		come, g := Touched(back, len(l))
		if e != api.OK || f != api.OK || g != api.OK {
			t.Fatalf("%v, %q: %d, %d, %d", p, texts, e, f, g)
		}
		if stay := untouched(texts, gone); len(stay) != len(texts)-removed || !slices.Equal(stay, untouched(l, come)) {
			t.Errorf("%v, %q: %q in %q", p, texts, stay, l)
		}
		for _, h := range p {
			if changed, removed, added := Touch(h); changed+removed != len(h.Old) || changed+added != len(h.New) || changed < 0 || removed < 0 || added < 0 {
				t.Errorf("%v: %d, %d, %d", h, changed, removed, added)
			}
		}
	})
}

// The rules that hold everywhere

func TestNilIsAsEmpty(t *testing.T) {
	for _, none := range [][]string{nil, {}} {
		for _, p := range [][]api.Hunk{{{At: 0, Old: none, New: letters("x")}}, {{At: 0, Old: letters("x"), New: none}}} {
			if at, e := Check(p); at != 0 || e != api.OK {
				t.Errorf("%v: %d, %d", p, at, e)
			}
			if back, e := Invert(p); e != api.OK || !Same(back, []api.Hunk{{At: 0, Old: p[0].New, New: p[0].Old}}) {
				t.Errorf("%v: %v, %d", p, back, e)
			}
		}
		if l, e := Apply(none, []api.Hunk{{At: 0, Old: none, New: letters("x")}}); e != api.OK || !slices.Equal(l, letters("x")) {
			t.Errorf("%q, %d", l, e)
		}
		if at, e := Check([]api.Hunk{{At: 0, Old: none, New: none}}); at != 0 || e != api.ErrHunks {
			t.Errorf("%d, %d", at, e)
		}
		if at, e := Fits(nil, none); at != 0 || e != api.OK {
			t.Errorf("%d, %d", at, e)
		}
	}
}

// roomy is a patch whose lists have room behind their ends, with what would change the answers if it were read; and all of that room.
func roomy() (p []api.Hunk, texts []string, all [][]string) {
	first, second, new := letters("bc"), letters("dxy"), letters("uvwz")
	hunks := []api.Hunk{{At: 1, Old: first[:1], New: new[:3]}, {At: 3, Old: second[:1], New: new[3:3]}, {At: 0, Old: first}}
	room := letters("abcdef")
	return hunks[:2], room[:4], [][]string{first, second, new, room}
}

func TestWhatIsHandedInIsNotChangedAndNotKept(t *testing.T) {
	p, texts, all := roomy()
	beyond := p[:3]
	ask := func() {
		Check(p)
		Fits(p, texts)
		Sizes(p)
		Touch(p[0])
		Touched(p, len(texts))
		Same(p, clone(p))
	}
	ask()
	l, e := Apply(texts, p)
	back, f := Invert(p)
	was, g := Undo(l, p)
	if e != api.OK || f != api.OK || g != api.OK {
		t.Fatalf("%d, %d, %d", e, f, g)
	}
	untouchedP, untouchedTexts, untouchedAll := roomy()
	if !same(beyond, untouchedP[:3]) || !slices.Equal(texts, untouchedTexts) {
		t.Errorf("changed: %v, %q", beyond, texts)
	}
	for i := range all {
		if !slices.Equal(all[i], untouchedAll[i]) {
			t.Errorf("changed: %q, not %q", all[i], untouchedAll[i])
		}
		for k := range all[i] {
			all[i][k] = "seven"
		}
	}
	for i := range beyond {
		beyond[i] = api.Hunk{At: 7}
	}
	if !slices.Equal(l, letters("auvwc")) || !slices.Equal(was, letters("abcd")) || !same(back, []api.Hunk{of(1, "uvw", "b"), of(5, "", "d")}) {
		t.Errorf("kept: %q, %q, %v", l, was, back)
	}
}

// spoilt writes over a list, its spare room too, and tells what it was.
func spoilt[T any](l []T, with T) []T {
	was := slices.Clone(l)
	l = l[:cap(l)]
	for i := range l {
		l[i] = with
	}
	return was
}

func TestWhatIsHandedOutIsNew(t *testing.T) {
	p, texts, _ := roomy()
	for _, p := range [][]api.Hunk{p, nil, {of(0, "a", "a")}, {of(4, "", "x")}} {
		was, asked := clone(p), slices.Clone(texts)
		want, e := applied(texts, p)
		back, f := inverted(p)
		back = clone(back)
		marks, g := touched(p, len(texts))
		if e != 0 || f != 0 || g != 0 {
			t.Fatalf("%d, %d, %d", e, f, g)
		}
		for range 2 {
			if l, _ := Apply(texts, p); !slices.Equal(spoilt(l, "seven"), want) {
				t.Errorf("%v: %q", p, l)
			}
			if l, _ := Undo(want, p); !slices.Equal(spoilt(l, "seven"), texts) {
				t.Errorf("%v: %q", p, l)
			}
			if l, _ := Touched(p, len(texts)); !slices.Equal(spoilt(l, true), marks) {
				t.Errorf("%v: %v", p, l)
			}
			// Each list of the answer is as it was, when all ahead of it have been written over.
			got, _ := Invert(p)
			for i, h := range got {
				if old := spoilt(h.Old, "seven"); !slices.Equal(old, back[i].Old) {
					t.Errorf("%v: %q, not %q", p, old, back[i].Old)
				}
				if new := spoilt(h.New, "seven"); !slices.Equal(new, back[i].New) {
					t.Errorf("%v: %q, not %q", p, new, back[i].New)
				}
			}
			spoilt(got, api.Hunk{At: 7})
			if !same(p, was) || !slices.Equal(texts, asked) {
				t.Fatalf("%v, %q, not %v, %q", p, texts, was, asked)
			}
		}
	}
}

func TestZerosBesideErrors(t *testing.T) {
	patches(func(texts []string, p []api.Hunk) {
		if l, e := Apply(texts, p); e != api.OK && len(l) > 0 {
			t.Errorf("%v, %q: %q, %d", p, texts, l, e)
		}
		if l, e := Undo(texts, p); e != api.OK && len(l) > 0 {
			t.Errorf("%v, %q: %q, %d", p, texts, l, e)
		}
		if q, e := Invert(p); e != api.OK && len(q) > 0 {
			t.Errorf("%v: %v, %d", p, q, e)
		}
		if x, y, e := Sizes(p); e != api.OK && (x != 0 || y != 0) {
			t.Errorf("%v: %d, %d, %d", p, x, y, e)
		}
		if l, e := Touched(p, len(texts)); e != api.OK && len(l) > 0 {
			t.Errorf("%v, %q: %v, %d", p, texts, l, e)
		}
	})
}

func TestLongPatchesEnd(t *testing.T) {
	const n = 1 << 19
	texts := rows("t", 2*n)
	p := make([]api.Hunk, n)
	for i := range p {
		p[i] = api.Hunk{At: 2 * i, Old: texts[2*i : 2*i+1], New: []string{"a", "b"}}
	}
	l, e := Apply(texts, p)
	if e != api.OK || len(l) != 3*n || l[3*n-3] != "a" || l[3*n-2] != "b" || l[3*n-1] != texts[2*n-1] {
		t.Errorf("%d, %d", len(l), e)
	}
	if was, e := Undo(l, p); e != api.OK || !slices.Equal(was, texts) {
		t.Errorf("%d, %d", len(was), e)
	}
	if marks, e := Touched(p, 2*n); e != api.OK || !marks[0] || marks[1] || !marks[2*n-2] || marks[2*n-1] {
		t.Errorf("%d, %d", len(marks), e)
	}
	if removed, added, e := Sizes(p); removed != n || added != 2*n || e != api.OK {
		t.Errorf("%d, %d, %d", removed, added, e)
	}
	p[n-1].New = []string{"\n"}
	if at, e := Check(p); at != n-1 || e != api.ErrHunks {
		t.Errorf("%d, %d", at, e)
	}
	all := []api.Hunk{{At: 0, Old: texts, New: texts}}
	if l, e := Apply(texts, all); e != api.OK || !slices.Equal(l, texts) {
		t.Errorf("%d, %d", len(l), e)
	}
}
