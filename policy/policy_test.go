package policy

import (
	"cmp"
	"math"
	"regexp"
	"slices"
	"strconv"
	"strings"
	"testing"

	"scrim/api"
)

// all is the label of all 64 compartments.
const all api.Label = math.MaxUint64

// viewer is somebody with a clearance.
func viewer(name string, c api.Label) api.Viewer {
	return api.Viewer{Name: name, Clearance: c}
}

// must is the policy with these viewers.
func must(t *testing.T, l ...api.Viewer) *Policy {
	t.Helper()
	p, e := New(l)
	if p == nil || e != api.OK {
		t.Fatalf("%v: %d", l, e)
	}
	return p
}

// rising are the viewers as a policy tells them, by a way of its own.
func rising(l []api.Viewer) []api.Viewer {
	return slices.SortedFunc(slices.Values(l), func(v, w api.Viewer) int { return cmp.Compare(v.Name, w.Name) })
}

// namesOf are the names, rising, of those of whom ask says so.
func namesOf(l []api.Viewer, ask func(api.Viewer) bool) []string {
	var found []string
	for _, v := range rising(l) {
		if ask(v) {
			found = append(found, v.Name)
		}
	}
	return found
}

// numbered are n viewers with the clearances by turns.
func numbered(n int, clearances ...api.Label) []api.Viewer {
	l := make([]api.Viewer, n)
	for i := range l {
		l[i] = viewer("v"+strconv.Itoa(i), clearances[i%len(clearances)])
	}
	return l
}

// lists are viewers of all kinds, each list a policy's.
func lists() [][]api.Viewer {
	return [][]api.Viewer{
		nil,
		{viewer("ann", 0)},
		{viewer("ann", all)},
		{viewer("bob", 8), viewer("ann", 0)},
		{viewer("bob", 8), viewer("ann", 8), viewer("cy", 8)},
		{viewer("x", 1<<63), viewer("w", 1), viewer("v", 1<<62), viewer("u", 1<<63+1), viewer("t", 1)},
		numbered(16, 0, 1, 2, 3, 4, 5, 6, 7, 8, 9, 10, 11, 12, 13, 14, 15),
		numbered(api.MaxViewers, 5, 1<<63, 0, all, 10, 15, 2, all-1, 8, 5),
	}
}

// asked are labels of all kinds.
func asked() []api.Label {
	l := []api.Label{all, all - 1, all >> 1, 1 << 62, 1 << 63, 1<<63 + 1, 1<<63 + 15, 1 << 40}
	for a := range api.Label(16) {
		l = append(l, a)
	}
	return l
}

// P3.1

func TestExample(t *testing.T) {
	p := must(t, viewer("bob", 8), viewer("ann", 0))
	if l := p.Viewers(); !slices.Equal(l, []api.Viewer{viewer("ann", 0), viewer("bob", 8)}) {
		t.Errorf("Viewers: %v", l)
	}
	if l := p.Clearances(); !slices.Equal(l, []api.Label{0, 8}) {
		t.Errorf("Clearances: %x", l)
	}
	if c, e := p.Clearance("bob"); c != 8 || e != api.OK {
		t.Errorf("bob: %x, %d", c, e)
	}
	if c, e := p.Clearance("ann"); c != 0 || e != api.OK {
		t.Errorf("ann: %x, %d", c, e)
	}
	if c, e := p.Clearance("eve"); c != 0 || e != api.ErrNoViewer {
		t.Errorf("eve: %x, %d", c, e)
	}
}

func TestViewersInAnyOrderAreTheSame(t *testing.T) {
	l := []api.Viewer{viewer("ann", 3), viewer("bob", 1<<63), viewer("cy", 3), viewer("dee", 0), viewer("eve", 1)}
	var turn func(n int)
	turn = func(n int) {
		if n == 0 {
			p := must(t, l...)
			if got := p.Viewers(); !slices.Equal(got, rising(l)) {
				t.Errorf("%v: Viewers: %v", l, got)
			}
			if got := p.Clearances(); !slices.Equal(got, []api.Label{0, 1, 3, 1 << 63}) {
				t.Errorf("%v: Clearances: %x", l, got)
			}
			if s := p.Print(); s != "ann 0+1\nbob 63\ncy 0+1\ndee -\neve 0\n" {
				t.Errorf("%v: %q", l, s)
			}
		}
		for i := range n {
			l[i], l[n-1] = l[n-1], l[i]
			turn(n - 1)
			l[i], l[n-1] = l[n-1], l[i]
		}
	}
	turn(len(l))
}

func TestNamesRiseByteByByte(t *testing.T) {
	want := []string{"-", "--", "-a", "0", "00", "1", "10", "2", "9", "_", "a", "a-", "a0", "a_", "aa", "ab", "b", "z"}
	var l []api.Viewer
	for i, name := range want {
		l = append(l, viewer(name, api.Label(100-i)))
	}
	slices.Reverse(l)
	p := must(t, l...)
	if got := namesOf(p.Viewers(), func(api.Viewer) bool { return true }); !slices.Equal(got, want) {
		t.Errorf("Viewers: %q", got)
	}
	if got := p.Below(all); !slices.Equal(got, want) {
		t.Errorf("Below: %q", got)
	}
	if got := p.Above(0); !slices.Equal(got, want) {
		t.Errorf("Above: %q", got)
	}
	if s := p.Print(); !strings.HasPrefix(s, "- 2+5+6\n-- ") {
		t.Errorf("Print: %q", s)
	}
}

func TestClearance(t *testing.T) {
	for _, l := range lists() {
		p := must(t, l...)
		for _, v := range l {
			if c, e := p.Clearance(v.Name); c != v.Clearance || e != api.OK {
				t.Errorf("%s: %x, %d, want %x", v.Name, c, e, v.Clearance)
			}
		}
		for _, name := range []string{"", "nobody", "an", "annn", "Ann", " ann", "ann ", "ann\n", "ann -", "vv", "v64", "v00", "\xff", strings.Repeat("a", 1<<20)} {
			if c, e := p.Clearance(name); c != 0 || e != api.ErrNoViewer {
				t.Errorf("%.40q: %x, %d", name, c, e)
			}
		}
	}
}

func TestClearancesRiseAsNumbers(t *testing.T) {
	for _, l := range lists() {
		var want []api.Label
		for _, v := range l {
			if !slices.Contains(want, v.Clearance) {
				want = append(want, v.Clearance)
			}
		}
		slices.Sort(want)
		if got := must(t, l...).Clearances(); !slices.Equal(got, want) {
			t.Errorf("%v: %x, want %x", l, got, want)
		}
	}
}

func TestNewTakes(t *testing.T) {
	if l := must(t).Viewers(); len(l) != 0 {
		t.Errorf("of nobody: %v", l)
	}
	if p, e := New([]api.Viewer{}); p == nil || e != api.OK || len(p.Clearances()) != 0 {
		t.Errorf("of an empty list: %d", e)
	}
	const letters = "abcdefghijklmnopqrstuvwxyz0123456789-_"
	for _, name := range []string{letters[:api.MaxName], letters[len(letters)-api.MaxName:], "-", "_", "0"} {
		if got := must(t, viewer(name, all)).Viewers(); !slices.Equal(got, []api.Viewer{viewer(name, all)}) {
			t.Errorf("%s: %v", name, got)
		}
	}
	if n := len(must(t, numbered(api.MaxViewers, 7)...).Viewers()); n != 64 {
		t.Errorf("of MaxViewers: %d", n)
	}
}

func TestNewRefuses(t *testing.T) {
	ann, bob := viewer("ann", 1), viewer("bob", 2)
	refused := [][]api.Viewer{
		{ann, ann}, {ann, viewer("ann", 2)}, {viewer("ann", 2), ann}, {ann, bob, ann}, {bob, ann, viewer("ann", 0)}, {viewer("ann", 0), viewer("ann", 0)},
		numbered(api.MaxViewers+1, 7), slices.Repeat([]api.Viewer{ann}, api.MaxViewers+1), make([]api.Viewer, 1<<16),
		append(numbered(api.MaxViewers-1, 7), viewer("v0", 7)),
	}
	for _, name := range []string{
		"", "Bob", "B", "bO", " ", "b b", "b ", " b", "b\n", "\n", "b+b", "b.", "b:", "\x00", "\xff", "b\u00e9", "\u0661",
		strings.Repeat("b", api.MaxName+1), strings.Repeat("b", 1<<20),
	} {
		wrong := viewer(name, 0)
		refused = append(refused, []api.Viewer{wrong}, []api.Viewer{wrong, ann}, []api.Viewer{ann, wrong}, []api.Viewer{ann, wrong, bob})
	}
	for _, l := range refused {
		if p, e := New(l); p != nil || e != api.ErrPolicy {
			t.Errorf("%.80v: %v, %d", l, p, e)
		}
	}
}

func TestNewLeavesItsArgument(t *testing.T) {
	l := []api.Viewer{viewer("cy", 4), viewer("ann", 1), viewer("bob", 2), viewer("cy", 8)}
	was := slices.Clone(l)
	p := must(t, l[:3]...)
	if !slices.Equal(l, was) {
		t.Errorf("changed: %v", l)
	}
	for i := range l {
		l[i] = viewer("eve", all)
	}
	if got := p.Viewers(); !slices.Equal(got, []api.Viewer{was[1], was[2], was[0]}) {
		t.Errorf("kept: %v", got)
	}
}

// overwritten fills a list, its spare room too, with what is its own first.
func overwritten[T any](l []T) {
	l = l[:cap(l)]
	for i := range l {
		l[i] = l[0]
	}
}

func TestWhatIsHandedOutIsNew(t *testing.T) {
	p := must(t, viewer("ann", 1), viewer("bob", 3), viewer("cy", 7))
	for range 2 {
		viewers, clearances, below, above := p.Viewers(), p.Clearances(), p.Below(7), p.Above(1)
		overwritten(viewers)
		overwritten(clearances)
		overwritten(below)
		overwritten(above)
	}
	if l := p.Viewers(); !slices.Equal(l, []api.Viewer{viewer("ann", 1), viewer("bob", 3), viewer("cy", 7)}) {
		t.Errorf("Viewers: %v", l)
	}
	if l := p.Clearances(); !slices.Equal(l, []api.Label{1, 3, 7}) {
		t.Errorf("Clearances: %x", l)
	}
	if b, a := p.Below(7), p.Above(1); !slices.Equal(b, []string{"ann", "bob", "cy"}) || !slices.Equal(a, b) {
		t.Errorf("Below: %q, Above: %q", b, a)
	}
}

func TestOfNil(t *testing.T) {
	var p *Policy
	for _, name := range []string{"", "ann", "Ann"} {
		if c, e := p.Clearance(name); c != 0 || e != api.ErrNil {
			t.Errorf("Clearance of %q: %x, %d", name, c, e)
		}
	}
	for _, c := range asked() {
		if len(p.Below(c)) != 0 || len(p.Above(c)) != 0 || p.Erase(c) != nil {
			t.Errorf("%x: Below: %q, Above: %q, Erase: %v", c, p.Below(c), p.Above(c), p.Erase(c))
		}
	}
	if len(p.Viewers()) != 0 || len(p.Clearances()) != 0 || p.Print() != "" {
		t.Errorf("Viewers: %v, Clearances: %x, Print: %q", p.Viewers(), p.Clearances(), p.Print())
	}
}

// R1 alone is promised of a policy that none of the calls made.
func TestOfAPolicyMadeOtherwiseNonePanics(t *testing.T) {
	p := new(Policy)
	_, _ = p.Clearance("ann")
	_, _, _, _, _ = p.Viewers(), p.Clearances(), p.Below(all), p.Above(0), p.Print()
	_ = p.Erase(all).Viewers()
}

// P3.2

func TestBelowAndAboveExample(t *testing.T) {
	p := must(t, viewer("bob", 8), viewer("ann", 0))
	for _, x := range []struct {
		c            api.Label
		below, above []string
	}{
		{0, []string{"ann"}, []string{"ann", "bob"}},
		{8, []string{"ann", "bob"}, []string{"bob"}},
		{24, []string{"ann", "bob"}, nil},
		{16, []string{"ann"}, nil},
		{all, []string{"ann", "bob"}, nil},
	} {
		if l := p.Below(x.c); !slices.Equal(l, x.below) {
			t.Errorf("Below(%x): %q, want %q", x.c, l, x.below)
		}
		if l := p.Above(x.c); !slices.Equal(l, x.above) {
			t.Errorf("Above(%x): %q, want %q", x.c, l, x.above)
		}
	}
	if l := p.Erase(0).Viewers(); !slices.Equal(l, []api.Viewer{viewer("ann", 0)}) {
		t.Errorf("Erase: %v", l)
	}
}

func TestBelowAndAbove(t *testing.T) {
	for _, l := range lists() {
		p := must(t, l...)
		for _, c := range asked() {
			below := namesOf(l, func(v api.Viewer) bool { return v.Clearance&c == v.Clearance })
			if got := p.Below(c); !slices.Equal(got, below) {
				t.Errorf("%v: Below(%x): %q, want %q", l, c, got, below)
			}
			above := namesOf(l, func(v api.Viewer) bool { return v.Clearance&c == c })
			if got := p.Above(c); !slices.Equal(got, above) {
				t.Errorf("%v: Above(%x): %q, want %q", l, c, got, above)
			}
		}
	}
}

func TestEraseLeavesThePolicy(t *testing.T) {
	for _, l := range lists() {
		p := must(t, l...)
		for _, c := range asked() {
			if erased := p.Erase(c); erased == nil || erased == p {
				t.Errorf("%v by %x: no policy of its own", l, c)
			}
		}
		if got := p.Viewers(); !slices.Equal(got, rising(l)) {
			t.Errorf("%v: %v", l, got)
		}
	}
}

// P3.3

func TestPrintAndParse(t *testing.T) {
	for _, x := range []struct {
		l []api.Viewer
		s string
	}{
		{nil, ""},
		{[]api.Viewer{viewer("bob", 8), viewer("ann", 0)}, "ann -\nbob 3\n"},
		{[]api.Viewer{viewer("-", 0)}, "- -\n"},
		{[]api.Viewer{viewer("3", 0x88)}, "3 3+7\n"},
		{[]api.Viewer{viewer("a0", 1<<63), viewer("a", 1), viewer("_", 1<<63+1)}, "_ 0+63\na 0\na0 63\n"},
		{[]api.Viewer{viewer("b", 2), viewer("a", 2)}, "a 1\nb 1\n"},
		{[]api.Viewer{viewer(strings.Repeat("z", api.MaxName), 0)}, strings.Repeat("z", api.MaxName) + " -\n"},
	} {
		if s := must(t, x.l...).Print(); s != x.s {
			t.Errorf("%v: %q, want %q", x.l, s, x.s)
		}
		p, e := Parse(x.s)
		if p == nil || e != api.OK {
			t.Errorf("%q: %d", x.s, e)
			continue
		}
		if got := p.Viewers(); !slices.Equal(got, rising(x.l)) {
			t.Errorf("%q: %v, want %v", x.s, got, rising(x.l))
		}
	}
}

// textOf is the text of viewers in the order in which they stand, all with the empty clearance.
func textOf(l []api.Viewer) string {
	var b strings.Builder
	for _, v := range l {
		b.WriteString(v.Name + " -\n")
	}
	return b.String()
}

func TestParseRefuses(t *testing.T) {
	many := textOf(rising(numbered(api.MaxViewers, 0)))
	if p, e := Parse(many); p == nil || e != api.OK || len(p.Viewers()) != api.MaxViewers {
		t.Errorf("of MaxViewers: %d", e)
	}
	for _, s := range []string{
		"\n", "ann -", "ann\n", "ann \n", "ann", " -\n", " ann -\n", "ann - \n", "ann  -\n", "ann -\n\n", "\nann -\n", "ann -\n ", "ann -\nbob", "ann -\nbob -",
		"ann\t-\n", "ann -\r\n", "ann -\x00", "ann\n-\n", "- ann\n", "ann - -\n", "ann 1 2\n", "ann 1, bob 2\n",
		"bob 3\nann -\n", "ann -\nann -\n", "ann -\nann 1\n", "ann -\nbob -\nann -\n", "a0 -\na -\n", "a -\n_ -\n", "b -\na -\nc -\n", "a -\nc -\nb -\n",
		"Ann -\n", "an n -\n", "\u00e9 -\n", "\xff -\n", strings.Repeat("a", api.MaxName+1) + " -\n", strings.Repeat("a", 1<<20) + " -\n",
		"ann 7+3\n", "ann 3+3\n", "ann 03\n", "ann 64\n", "ann -1\n", "ann 3+\n", "ann +3\n", "ann {3}\n", "ann --\n", "ann -0\n", "ann 3" + strings.Repeat("+3", 1<<18) + "\n",
		"v9a -\n" + many, many + "v9a -\n", many + "\n", many + many, strings.Repeat("\n", 1<<20), strings.Repeat("ann -\n", 1<<18),
	} {
		if p, e := Parse(s); p != nil || e != api.ErrForm {
			t.Errorf("%.40q: %v, %d", s, p, e)
		}
	}
}

// P3.4

func TestParseIsBackOfPrint(t *testing.T) {
	for _, l := range lists() {
		p := must(t, l...)
		s := p.Print()
		back, e := Parse(s)
		if back == nil || e != api.OK || !slices.Equal(back.Viewers(), p.Viewers()) {
			t.Errorf("%v: Parse of Print: %v, %d", l, back.Viewers(), e)
		}
		if again := must(t, p.Viewers()...).Print(); again != s {
			t.Errorf("%v: New of Viewers: %q, want %q", l, again, s)
		}
	}
}

// lineForm is a line of a policy's text, but for the order and the bound of its numbers.
var lineForm = regexp.MustCompile(`^([a-z0-9_-]{1,32}) (-|(?:0|[1-9][0-9]?)(?:\+(?:0|[1-9][0-9]?))*)$`)

// viewersOf tells by a way of its own whether s is a policy's text, and whose.
func viewersOf(s string) ([]api.Viewer, bool) {
	var l []api.Viewer
	for s != "" {
		line, rest, ended := strings.Cut(s, "\n")
		parts := lineForm.FindStringSubmatch(line)
		if !ended || parts == nil {
			return nil, false
		}
		v, ahead := viewer(parts[1], 0), -1
		for word := range strings.SplitSeq(strings.TrimPrefix(parts[2], "-"), "+") {
			n, err := strconv.Atoi(word)
			if word != "" && (err != nil || n <= ahead || n > 63) {
				return nil, false
			}
			if word != "" {
				v.Clearance, ahead = v.Clearance+1<<n, n
			}
		}
		if len(l) > 0 && l[len(l)-1].Name >= v.Name {
			return nil, false
		}
		l, s = append(l, v), rest
	}
	return l, len(l) <= api.MaxViewers
}

func TestPrintIsBackOfParse(t *testing.T) {
	for _, pieces := range [][]string{
		{"a", "-", "0", " ", "\n", "+", "B"},
		{"a ", "b ", "-\n", "3\n", "3+7\n", "7+3\n", "3", "63\n", "64\n", " ", "\n"},
		{"a -\n", "a 1\n", "ab -\n", "a-b 0+1\n", "b 2\n", "b -", "\n", "_ 5\n"},
	} {
		wave, read := []string{""}, 0
		for range 5 {
			var next []string
			for _, s := range wave {
				for _, piece := range pieces {
					next = append(next, s+piece)
				}
			}
			for _, s := range next {
				want, is := viewersOf(s)
				p, e := Parse(s)
				switch {
				case is && (e != api.OK || p.Print() != s || !slices.Equal(p.Viewers(), want)):
					t.Errorf("%q: %v, %d, want %v", s, p.Viewers(), e, want)
				case !is && (p != nil || e != api.ErrForm):
					t.Errorf("%q: %v, %d", s, p.Viewers(), e)
				case is:
					read++
				}
			}
			wave = next
		}
		if read == 0 {
			t.Errorf("%q: no policy's text was made of them", pieces)
		}
	}
}

// P3.5

func TestErasedAreThoseBelow(t *testing.T) {
	for _, l := range lists() {
		p := must(t, l...)
		for _, c := range asked() {
			erased := p.Erase(c)
			want := slices.DeleteFunc(rising(l), func(v api.Viewer) bool { return v.Clearance&^c != 0 })
			if got := erased.Viewers(); !slices.Equal(got, want) {
				t.Errorf("%v by %x: %v, want %v", l, c, got, want)
			}
			if got := erased.Below(all); !slices.Equal(got, p.Below(c)) {
				t.Errorf("%v by %x: %q, want %q", l, c, got, p.Below(c))
			}
			for _, v := range l {
				got, e := erased.Clearance(v.Name)
				left := slices.Contains(want, v)
				if left && (got != v.Clearance || e != api.OK) || !left && (got != 0 || e != api.ErrNoViewer) {
					t.Errorf("%v by %x: %s: %x, %d", l, c, v.Name, got, e)
				}
			}
		}
	}
}

func TestErasedTwiceIsErasedByBoth(t *testing.T) {
	for _, l := range lists() {
		p := must(t, l...)
		for _, c := range asked() {
			for _, d := range asked() {
				if twice, both := p.Erase(c).Erase(d), p.Erase(c&d); twice.Print() != both.Print() {
					t.Errorf("%v by %x and %x: %q, want %q", l, c, d, twice.Print(), both.Print())
				}
			}
		}
	}
}

func TestEachViewerIsBelowAndAboveItsOwn(t *testing.T) {
	for _, l := range lists() {
		p := must(t, l...)
		for _, v := range l {
			if !slices.Contains(p.Below(v.Clearance), v.Name) || !slices.Contains(p.Above(v.Clearance), v.Name) {
				t.Errorf("%v: %s: Below: %q, Above: %q", l, v.Name, p.Below(v.Clearance), p.Above(v.Clearance))
			}
		}
	}
}

// P3.6

func TestWhoSeesWhom(t *testing.T) {
	for _, l := range lists() {
		p := must(t, l...)
		for _, c := range asked() {
			above := p.Above(c)
			for _, v := range l {
				if slices.Contains(above, v.Name) != (c&v.Clearance == c) {
					t.Errorf("%v: %s in Above(%x): %q", l, v.Name, c, above)
				}
			}
		}
	}
}

// within tells whether all of a are in b.
func within(a, b []string) bool {
	return !slices.ContainsFunc(a, func(s string) bool { return !slices.Contains(b, s) })
}

func TestTheGreaterIsSeenByFewer(t *testing.T) {
	for _, l := range lists() {
		p := must(t, l...)
		for _, lesser := range asked() {
			for _, greater := range asked() {
				if lesser&greater != lesser {
					continue
				}
				if !within(p.Above(greater), p.Above(lesser)) || !within(p.Below(lesser), p.Below(greater)) {
					t.Errorf("%v: %x and %x: Above: %q, %q; Below: %q, %q", l, lesser, greater, p.Above(lesser), p.Above(greater), p.Below(lesser), p.Below(greater))
				}
			}
		}
	}
}
