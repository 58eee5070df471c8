package doc

import (
	"iter"
	"math"
	"math/rand"
	"regexp"
	"slices"
	"strconv"
	"strings"
	"testing"

	"scrim/api"
)

// whole is the label of all 64 compartments.
const whole api.Label = math.MaxUint64

// top is the greatest N, and the greatest Rev, of a line.
const top = 1 << 62

// line is one with that identity, Rev and Text.
func line(c api.Label, n, rev int, text string) api.Line {
	return api.Line{Label: c, N: n, Rev: rev, Text: text}
}

// must is the document with the lines.
func must(t *testing.T, l ...api.Line) *Doc {
	t.Helper()
	d, e := New(l)
	if d == nil || e != api.OK {
		t.Fatalf("%v: %d", l, e)
	}
	return d
}

// told fails unless each call tells of the document that it has just these lines.
func told(t *testing.T, d *Doc, want ...api.Line) {
	t.Helper()
	if got := d.Lines(); !slices.Equal(got, want) {
		t.Fatalf("Lines: %v, not %v", got, want)
	}
	if n := d.Len(); n != len(want) {
		t.Fatalf("Len: %d, not %d", n, len(want))
	}
	counts := map[api.Label]int{0: 0, 1: 0, whole: 0}
	for i, x := range want {
		counts[x.Label]++
		if got, e := d.At(i); got != x || e != api.OK {
			t.Fatalf("At(%d): %v, %d, not %v", i, got, e, x)
		}
		if at, e := d.Find(x.Label, x.N); at != i || e != api.OK {
			t.Fatalf("Find(%x, %d): %d, %d, not %d", x.Label, x.N, at, e, i)
		}
	}
	var labels []api.Label
	for c, n := range counts {
		if got := d.Count(c); got != n {
			t.Fatalf("Count(%x): %d, not %d", c, got, n)
		}
		if n > 0 {
			labels = append(labels, c)
		}
	}
	slices.Sort(labels)
	if got := d.Labels(); !slices.Equal(got, labels) {
		t.Fatalf("Labels: %v, not %v", got, labels)
	}
	if got := gone(d.All()); !slices.Equal(got, want) {
		t.Fatalf("All: %v, not %v", got, want)
	}
	if s := d.Print(); s != printed(want) {
		t.Fatalf("Print: %q, not %q", s, printed(want))
	}
}

// gone are the lines that an iterator goes over; one whose place is not how many are ahead of it stands as an empty line.
func gone(seq iter.Seq2[int, api.Line]) []api.Line {
	var l []api.Line
	for i, x := range seq {
		if i != len(l) {
			x = api.Line{}
		}
		l = append(l, x)
	}
	return l
}

// printed is a document's text, by a way of its own.
func printed(l []api.Line) string {
	s := ""
	for _, x := range l {
		word, plus := "", ""
		for c := range 64 {
			if x.Label>>c&1 == 1 {
				word += plus + strconv.Itoa(c)
				plus = "+"
			}
		}
		if word == "" {
			word = "-"
		}
		s += word + " " + strconv.FormatInt(int64(x.N), 10) + " " + strconv.FormatInt(int64(x.Rev), 10) + " " + x.Text + "\n"
	}
	return s
}

// documents are lists of lines that may be a document.
func documents() [][]api.Line {
	long := strings.Repeat("x", api.MaxText)
	return [][]api.Line{
		nil,
		{},
		{line(0, 1, 0, "")},
		{line(1, 1, 0, "a"), line(0, 1, 2, "b")},
		{line(whole, top, top, long), line(1<<63, 1, 0, " "), line(0, top, 0, "  ")},
		{line(8, 1, 0, "a"), line(8, 2, 0, "a"), line(9, 1, 0, "a"), line(9, 2, 0, "a"), line(0, 1, 0, "a")},
		{line(1, 3, 0, "a b c"), line(1, 1, 0, " a"), line(1, 2, 0, "a "), line(2, 2, 0, "- 1 0 a"), line(2, 1, 5, "\r")},
		{line(1, 1, 0, "\x00"), line(1, 2, 0, "\xff\xfe"), line(1, 3, 0, "\u00e9\u2028"), line(1, 4, 0, strings.Repeat("\u00e9", 128))},
	}
}

// broken are lists of lines that may be no document.
func broken() [][]api.Line {
	a := line(1, 1, 0, "a")
	return [][]api.Line{
		{a, a},
		{a, line(1, 1, 1, "b")},
		{a, line(1, 2, 0, "b"), line(2, 1, 0, "c"), line(1, 1, 0, "d")},
		{line(0, 7, 0, ""), line(0, 7, 0, "")},
		{{}},
		{line(1, 0, 0, "a")},
		{line(1, -1, 0, "a")},
		{line(1, math.MinInt, 0, "a")},
		{line(1, top+1, 0, "a")},
		{line(1, math.MaxInt, 0, "a")},
		{line(1, 1, -1, "a")},
		{line(1, 1, math.MinInt, "a")},
		{line(1, 1, top+1, "a")},
		{line(1, 1, math.MaxInt, "a")},
		{line(1, 1, 0, "\n")},
		{line(1, 1, 0, "a\n")},
		{line(1, 1, 0, strings.Repeat("a", api.MaxText+1))},
		{a, line(1, 2, 0, "b"), line(1, 0, 0, "c")},
		{a, line(1, 2, 0, "b\n"), line(1, 3, 0, "c")},
		{line(1, 0, 0, "a"), line(1, 2, 0, "b")},
	}
}

// P5.1

func TestExamples(t *testing.T) {
	a, b, c := line(1, 1, 0, "a"), line(0, 1, 2, "b"), line(1, 2, 0, "c")
	d := must(t, a, b)
	told(t, d, a, b)
	if at, e := d.Find(0, 1); at != 1 || e != api.OK {
		t.Errorf("Find: %d, %d", at, e)
	}
	if at, e := d.Find(1, 2); at != 0 || e != api.ErrNone {
		t.Errorf("Find: %d, %d", at, e)
	}
	if l := d.Labels(); !slices.Equal(l, []api.Label{0, 1}) || d.Len() != 2 || d.Count(1) != 1 {
		t.Errorf("%v, %d, %d", l, d.Len(), d.Count(1))
	}
	if s := d.Print(); s != "0 1 0 a\n- 1 2 b\n" {
		t.Errorf("%q", s)
	}
	for _, x := range []struct{ got, want api.Errno }{
		{d.Put(1, c), api.OK},
		{d.Put(4, line(1, 3, 0, "d")), api.ErrArg},
		{d.Put(0, line(1, 2, 0, "d")), api.ErrDoc},
		{d.Change(0, 1, "x"), api.OK},
		{d.Change(0, 9, "x"), api.ErrNone},
		{d.Change(0, 1, "x\n"), api.ErrLine},
		{d.Remove(1, 1), api.OK},
	} {
		if x.got != x.want {
			t.Errorf("%d, not %d", x.got, x.want)
		}
	}
	told(t, d, c, line(0, 1, 3, "x"))
}

func TestNew(t *testing.T) {
	for _, l := range documents() {
		told(t, must(t, l...), l...)
	}
}

func TestNewRefuses(t *testing.T) {
	for _, l := range broken() {
		if d, e := New(l); d != nil || e != api.ErrDoc {
			t.Errorf("%v: %v, %d", l, d, e)
		}
	}
}

func TestNewOfMoreLinesThanAServiceBeginsWith(t *testing.T) {
	var l []api.Line
	for i := range 3 * api.MaxLines {
		l = append(l, line(api.Label(i%3), 1+i/3, i, strconv.Itoa(i)))
	}
	told(t, must(t, l...), l...)
}

func TestAtRefuses(t *testing.T) {
	for _, l := range documents() {
		d := must(t, l...)
		for _, i := range []int{-1, len(l), len(l) + 1, math.MinInt, math.MaxInt} {
			if x, e := d.At(i); x != (api.Line{}) || e != api.ErrArg {
				t.Errorf("%v: At(%d): %v, %d", l, i, x, e)
			}
		}
	}
	d := must(t, line(1, 1, 0, "a"), line(1, 2, 0, "b"))
	d.Remove(1, 1)
	if x, e := d.At(1); x != (api.Line{}) || e != api.ErrArg {
		t.Errorf("behind a line that went: %v, %d", x, e)
	}
}

func TestFindRefuses(t *testing.T) {
	d := must(t, line(2, 5, 3, "a"), line(6, 1, 1, "b"), line(0, 2, 0, "c"))
	for _, x := range []struct {
		c api.Label
		n int
	}{{2, 1}, {2, 4}, {2, 6}, {6, 5}, {6, 2}, {0, 1}, {0, 5}, {4, 1}, {1, 1}, {2, 0}, {2, -5}, {2, math.MinInt}, {2, math.MaxInt}, {whole, 5}, {2, 3}} {
		if at, e := d.Find(x.c, x.n); at != 0 || e != api.ErrNone {
			t.Errorf("Find(%x, %d): %d, %d", x.c, x.n, at, e)
		}
	}
}

func TestCountIsOfTheLabelItself(t *testing.T) {
	d := must(t, line(0, 1, 0, ""), line(1, 1, 0, ""), line(3, 1, 0, ""), line(3, 2, 0, ""), line(2, 9, 0, ""), line(3, 7, 0, ""), line(whole, 1, 0, ""))
	for c, want := range map[api.Label]int{0: 1, 1: 1, 2: 1, 3: 3, 4: 0, 7: 0, whole: 1, whole >> 1: 0} {
		if n := d.Count(c); n != want {
			t.Errorf("Count(%x): %d, not %d", c, n, want)
		}
	}
}

func TestLabelsRiseAsNumbers(t *testing.T) {
	d := must(t, line(1<<63, 1, 0, ""), line(7, 1, 0, ""), line(8, 2, 0, ""), line(1<<63, 2, 0, ""), line(0, 4, 0, ""), line(whole, 1, 0, ""), line(8, 1, 0, ""), line(1<<62, 1, 0, ""))
	want := []api.Label{0, 7, 8, 1 << 62, 1 << 63, whole}
	if l := d.Labels(); !slices.Equal(l, want) {
		t.Errorf("%x", l)
	}
	d.Remove(7, 1)
	d.Remove(8, 2)
	if l := d.Labels(); !slices.Equal(l, slices.Delete(want, 1, 2)) {
		t.Errorf("%x", l)
	}
}

// nothing fails unless a call on the document answers ErrNil, or zeros.
func nothing(t *testing.T, d *Doc) {
	t.Helper()
	x, e := d.At(0)
	at, f := d.Find(0, 1)
	if x != (api.Line{}) || at != 0 || e != api.ErrNil || f != api.ErrNil {
		t.Errorf("%v, %d; %d, %d", x, e, at, f)
	}
	for _, e := range []api.Errno{d.Put(0), d.Put(-1, api.Line{}), d.Change(0, 1, "\n"), d.Change(0, 1, "a"), d.Remove(0, 1)} {
		if e != api.ErrNil {
			t.Errorf("%d", e)
		}
	}
	if _, e := d.At(-1); e != api.ErrNil {
		t.Errorf("At: %d", e)
	}
	if len(d.Lines()) != 0 || d.Len() != 0 || d.Count(0) != 0 || len(d.Labels()) != 0 || d.Copy() != nil || d.Print() != "" {
		t.Error("something is told")
	}
	for i, x := range d.All() {
		t.Errorf("All: %d, %v", i, x)
	}
}

func TestNil(t *testing.T) { nothing(t, nil) }

// P5.2

func TestPut(t *testing.T) {
	a, b, c := line(1, 1, 0, "a"), line(2, 1, 4, "b"), line(1, 2, 0, "c")
	x, y, z := line(1, 9, 0, "x"), line(0, 1, 7, "y"), line(2, 3, 0, "z")
	for at := range 4 {
		for _, l := range [][]api.Line{nil, {}, {x}, {y, x}, {z, y, x}} {
			d := must(t, a, b, c)
			if e := d.Put(at, l...); e != api.OK {
				t.Errorf("Put(%d, %v): %d", at, l, e)
			}
			told(t, d, slices.Concat([]api.Line{a, b, c}[:at], l, []api.Line{a, b, c}[at:])...)
		}
	}
	d := must(t)
	for _, l := range [][]api.Line{{}, {a}, {b, c}} {
		if e := d.Put(0, l...); e != api.OK {
			t.Errorf("Put(0, %v): %d", l, e)
		}
	}
	told(t, d, b, c, a)
}

func TestPutRefuses(t *testing.T) {
	a, b := line(3, 100, 0, "a"), line(4, 100, 9, "b")
	d := must(t, a, b)
	for _, at := range []int{-1, 3, 4, math.MinInt, math.MaxInt} {
		for _, l := range [][]api.Line{nil, {line(3, 1, 0, "x")}, {a}, {{}}} {
			if e := d.Put(at, l...); e != api.ErrArg {
				t.Errorf("Put(%d, %v): %d", at, l, e)
			}
			told(t, d, a, b)
		}
	}
	refused := append(broken(),
		[]api.Line{a},
		[]api.Line{line(4, 100, 0, "x")},
		[]api.Line{line(3, 1, 0, "x"), line(3, 100, 1, "y")},
		[]api.Line{b, line(3, 1, 0, "x")},
	)
	for at := range 3 {
		for _, l := range refused {
			if e := d.Put(at, l...); e != api.ErrDoc {
				t.Errorf("Put(%d, %v): %d", at, l, e)
			}
			told(t, d, a, b)
			for _, x := range l {
				_, e := d.Find(x.Label, x.N)
				if stands := x.N == 100 && (x.Label == 3 || x.Label == 4); stands != (e == api.OK) {
					t.Errorf("Find of %v, which was refused: %d", x, e)
				}
			}
		}
	}
	if e := d.Put(1, line(1, 1, 0, "a"), line(3, 1, 0, "x")); e != api.OK {
		t.Errorf("%d", e)
	}
}

func TestChange(t *testing.T) {
	a, c := line(1, 1, 3, "a"), line(1, 3, 4, "c")
	for _, x := range []struct {
		rev, want int
		text      string
	}{
		{0, 1, "x"}, {0, 1, "b"}, {7, 8, ""}, {9, 10, strings.Repeat("x", api.MaxText)}, {1, 2, "\r\x00\xff"},
		{top - 2, top - 1, "x"}, {top - 1, top, "x"}, {top, top, "x"}, {top, top, "b"},
	} {
		d := must(t, a, line(1, 2, x.rev, "b"), c)
		if e := d.Change(1, 2, x.text); e != api.OK {
			t.Errorf("%v: %d", x, e)
		}
		told(t, d, a, line(1, 2, x.want, x.text), c)
	}
	d := must(t, a)
	for i := range 300 {
		d.Change(1, 1, strconv.Itoa(i))
		told(t, d, line(1, 1, 4+i, strconv.Itoa(i)))
	}
}

func TestChangeRefuses(t *testing.T) {
	a, b := line(1, 1, 0, "a"), line(2, 5, 9, "b")
	d := must(t, a, b)
	long := strings.Repeat("x", api.MaxText+1)
	for _, x := range []struct {
		c    api.Label
		n    int
		text string
		want api.Errno
	}{
		{1, 1, "\n", api.ErrLine}, {1, 1, "a\nb", api.ErrLine}, {1, 1, long, api.ErrLine}, {2, 5, "b\n", api.ErrLine},
		{1, 5, "x", api.ErrNone}, {2, 1, "x", api.ErrNone}, {3, 1, "x", api.ErrNone}, {0, 1, "x", api.ErrNone}, {1, 0, "x", api.ErrNone},
		{1, math.MinInt, "x", api.ErrNone}, {whole, math.MaxInt, "x", api.ErrNone},
		{1, 2, "\n", api.ErrNone}, {1, 2, long, api.ErrNone},
	} {
		if e := d.Change(x.c, x.n, x.text); e != x.want {
			t.Errorf("%v: %d", x, e)
		}
		told(t, d, a, b)
	}
}

func TestRemove(t *testing.T) {
	l := []api.Line{line(1, 1, 0, "a"), line(2, 1, 1, "b"), line(1, 2, 2, "c"), line(0, 9, 3, "d")}
	for i, x := range l {
		d := must(t, l...)
		if e := d.Remove(x.Label, x.N); e != api.OK {
			t.Errorf("%v: %d", x, e)
		}
		rest := slices.Delete(slices.Clone(l), i, i+1)
		told(t, d, rest...)
		if e := d.Remove(x.Label, x.N); e != api.ErrNone {
			t.Errorf("%v once more: %d", x, e)
		}
		if e := d.Change(x.Label, x.N, "x"); e != api.ErrNone {
			t.Errorf("Change of %v: %d", x, e)
		}
		if at, e := d.Find(x.Label, x.N); at != 0 || e != api.ErrNone {
			t.Errorf("Find of %v: %d, %d", x, at, e)
		}
		told(t, d, rest...)
		// What went may come again, and stand elsewhere.
		if e := d.Put(3-i, x); e != api.OK {
			t.Errorf("Put of %v: %d", x, e)
		}
		told(t, d, slices.Insert(rest, 3-i, x)...)
	}
}

func TestRemoveRefuses(t *testing.T) {
	a, b := line(1, 1, 0, "a"), line(2, 5, 9, "b")
	d := must(t, a, b)
	for _, x := range []struct {
		c api.Label
		n int
	}{{1, 5}, {2, 1}, {3, 1}, {0, 1}, {1, 0}, {1, -1}, {1, math.MinInt}, {whole, math.MaxInt}} {
		if e := d.Remove(x.c, x.n); e != api.ErrNone {
			t.Errorf("%v: %d", x, e)
		}
		told(t, d, a, b)
	}
	if e := must(t).Remove(0, 1); e != api.ErrNone {
		t.Errorf("of no lines: %d", e)
	}
}

func TestCopyGoesItsOwnWay(t *testing.T) {
	a, b, c, d := line(1, 1, 0, "a"), line(2, 1, 0, "b"), line(3, 1, 0, "c"), line(4, 1, 0, "d")
	x := must(t, a, b, c)
	y := x.Copy()
	told(t, y, a, b, c)
	x.Put(3, d)
	x.Remove(1, 1)
	x.Change(2, 1, "B")
	told(t, x, line(2, 1, 1, "B"), c, d)
	told(t, y, a, b, c)
	z := y.Copy()
	y.Remove(3, 1)
	y.Put(0, d)
	told(t, x, line(2, 1, 1, "B"), c, d)
	told(t, y, d, a, b)
	told(t, z, a, b, c)
	told(t, must(t).Copy())
	w := must(t, a)
	w.Remove(1, 1)
	v := w.Copy()
	v.Put(0, b)
	w.Put(0, c)
	told(t, v, b)
	told(t, w, c)
}

// P5.3

func TestAllMayBeLeftAndGoneOverAgain(t *testing.T) {
	l := []api.Line{line(1, 1, 0, "a"), line(2, 1, 0, "b"), line(3, 1, 0, "c")}
	seq := must(t, l...).All()
	for stop := range 4 {
		n := 0
		for range seq {
			if n == stop {
				break
			}
			n++
		}
		if n != min(stop, 3) {
			t.Errorf("left at %d: %d", stop, n)
		}
	}
	for i, x := range seq {
		if got := gone(seq); !slices.Equal(got, l) || l[i] != x {
			t.Errorf("within a round: %v; %d, %v", got, i, x)
		}
	}
}

func TestAllTellsWhatWasThere(t *testing.T) {
	a, b, c := line(1, 1, 0, "a"), line(2, 1, 0, "b"), line(3, 1, 0, "c")
	d := must(t, a, b)
	seq := d.All()
	d.Change(1, 1, "x")
	d.Put(0, c)
	d.Remove(2, 1)
	if got := gone(seq); !slices.Equal(got, []api.Line{a, b}) {
		t.Errorf("%v", got)
	}
	told(t, d, c, line(1, 1, 1, "x"))
	var got []api.Line
	for _, x := range d.All() {
		got = append(got, x)
		d.Remove(x.Label, x.N)
		d.Put(d.Len(), line(9, len(got), 0, ""))
	}
	if !slices.Equal(got, []api.Line{c, line(1, 1, 1, "x")}) {
		t.Errorf("%v", got)
	}
	told(t, d, line(9, 1, 0, ""), line(9, 2, 0, ""))
}

func TestPrint(t *testing.T) {
	for _, x := range []struct {
		want string
		l    []api.Line
	}{
		{"", nil},
		{"- 1 0 \n", []api.Line{line(0, 1, 0, "")}},
		{"3+7 12 4 a b\n", []api.Line{line(1<<3+1<<7, 12, 4, "a b")}},
		{"63 4611686018427387904 4611686018427387904  \n0 1 0 - 1 0 \n", []api.Line{line(1<<63, top, top, " "), line(1, 1, 0, "- 1 0 ")}},
	} {
		if s := must(t, x.l...).Print(); s != x.want {
			t.Errorf("%q, not %q", s, x.want)
		}
	}
}

func TestParse(t *testing.T) {
	for _, x := range []struct {
		s    string
		want []api.Line
	}{
		{"", nil},
		{"- 1 0 \n", []api.Line{line(0, 1, 0, "")}},
		{"- 1 0  \n", []api.Line{line(0, 1, 0, " ")}},
		{"0 1 0 a\n- 1 2 b\n", []api.Line{line(1, 1, 0, "a"), line(0, 1, 2, "b")}},
		{"3+7 12 4 a b  c \n", []api.Line{line(1<<3+1<<7, 12, 4, "a b  c ")}},
		{"- 2 0 - 2 0 \n- 1 0 \r\n", []api.Line{line(0, 2, 0, "- 2 0 "), line(0, 1, 0, "\r")}},
		{"63 4611686018427387904 4611686018427387904 \xff\x00\n", []api.Line{line(1<<63, top, top, "\xff\x00")}},
		{"- 1 0 " + strings.Repeat("x", api.MaxText) + "\n", []api.Line{line(0, 1, 0, strings.Repeat("x", api.MaxText))}},
	} {
		d, e := Parse(x.s)
		if e != api.OK {
			t.Fatalf("%q: %d", x.s, e)
		}
		told(t, d, x.want...)
	}
}

func TestParseRefuses(t *testing.T) {
	for _, s := range []string{
		"\n", " \n", "0 1 0 a", "0 01 0 a\n", "0 1 a\n", "0 1 00 a\n", "0 1 0\n", "0 1\n", "0\n", "a\n", "0 1 0a\n", "- 1 0 a\n\n", "\n- 1 0 a\n",
		"- 1 0 a\n- 1 0 a\n", "- 1 0 a\n- 2 0 a\n- 1 5 b\n", "- 1 0 a\n0 1 0 b", "- 0 0 a\n", "- -1 0 a\n", "- 1 -1 a\n", "- +1 0 a\n", "- 1 +0 a\n", "- 1 -0 a\n",
		"- 4611686018427387905 0 a\n", "- 1 4611686018427387905 a\n", "- 9223372036854775808 0 a\n", "- 18446744073709551617 0 a\n", "- 1 18446744073709551616 a\n",
		" - 1 0 a\n", "-  1 0 a\n", "- 1  0 a\n", "-\t1 0 a\n", " 1 0 a\n", "1 0 a\n", "-- 1 0 a\n", "7+3 1 0 a\n", "3+3 1 0 a\n", "3+ 1 0 a\n", "03 1 0 a\n", "64 1 0 a\n", "-1 1 0 a\n", "+ 1 0 a\n",
		"-#1 0 a\n", "- 1\x00 0 a\n", "- \u0661 0 a\n", "- 1 0 " + strings.Repeat("x", api.MaxText+1) + "\n", "- 1 0 a\n" + strings.Repeat("x", 1000),
	} {
		if d, e := Parse(s); d != nil || e != api.ErrForm {
			t.Errorf("%q: %v, %d", s, d, e)
		}
	}
}

// P5.4

// form is what a line's text must look like, but for the order of the compartments and all bounds.
var form = regexp.MustCompile(`(?s)^(-|(?:0|[1-9][0-9]*)(?:\+(?:0|[1-9][0-9]*))*) ([1-9][0-9]*) (0|[1-9][0-9]*) (.*)$`)

// readable tells by a way of its own whether a text is a document's.
func readable(s string) bool {
	texts := strings.Split(s, "\n")
	if texts[len(texts)-1] != "" {
		return false
	}
	ahead := map[string]bool{}
	for _, text := range texts[:len(texts)-1] {
		m := form.FindStringSubmatch(text)
		if m == nil || !rising(m[1]) || !bounded(m[2]) || !bounded(m[3]) || len(m[4]) > 256 || ahead[m[1]+" "+m[2]] {
			return false
		}
		ahead[m[1]+" "+m[2]] = true
	}
	return true
}

// rising tells whether the compartments of a word that looks like a label's text are one another's betters, and none is above 63.
func rising(word string) bool {
	ahead := -1
	for _, digits := range strings.Split(strings.TrimPrefix(word, "-"), "+") {
		c, err := strconv.Atoi(digits)
		if word != "-" && (err != nil || c <= ahead || c > 63) {
			return false
		}
		ahead = c
	}
	return true
}

// bounded tells whether digits are a number of at most 2^62.
func bounded(digits string) bool {
	n, err := strconv.ParseUint(digits, 10, 64)
	return err == nil && n <= top
}

// judged fails unless Parse reads the text just if it is a document's, and Print writes it again then; it tells whether it is.
func judged(t *testing.T, s string) bool {
	t.Helper()
	d, e := Parse(s)
	switch want := readable(s); {
	case want && (e != api.OK || d.Print() != s):
		t.Fatalf("%q: %v, %d", s, d.Lines(), e)
	case !want && (e != api.ErrForm || d != nil):
		t.Fatalf("%q: %v, %d", s, d, e)
	}
	return e == api.OK
}

func TestParseOfEachShortText(t *testing.T) {
	const signs = "- 01+a\n"
	read := 0
	var grow func(s string)
	grow = func(s string) {
		if judged(t, s) {
			read++
		}
		if len(s) == 7 {
			return
		}
		for _, c := range []byte(signs) {
			grow(s + string(c))
		}
	}
	grow("")
	// None, and one line without text, of the labels - and 0 and 1, with the N 1 and the Rev 0 or 1.
	if read != 7 {
		t.Errorf("%d texts were read", read)
	}
}

func TestParseOfEachTextNearADocuments(t *testing.T) {
	read := 0
	for _, l := range documents() {
		s := printed(l)
		if !judged(t, s) {
			t.Fatalf("%q is not read", s)
		}
		for i := range len(s) + 1 {
			for _, c := range []string{"", " ", "\n", "-", "+", "0", "1", "9", "a", "\x00", "\xff"} {
				for _, behind := range []string{s[i:], s[min(i+1, len(s)):]} {
					if judged(t, s[:i]+c+behind) {
						read++
					}
				}
			}
		}
	}
	if read < 1000 {
		t.Errorf("%d texts were read", read)
	}
}

func TestParseOfPrint(t *testing.T) {
	dice := rand.New(rand.NewSource(5))
	for range 500 {
		d := must(t)
		var l []api.Line
		for range dice.Intn(20) {
			text := make([]byte, dice.Intn(api.MaxText+1))
			dice.Read(text)
			x := line(api.Label(dice.Uint64()>>dice.Intn(64)), 1+dice.Int()>>(1+dice.Intn(62)), dice.Int()>>(1+dice.Intn(62)), strings.ReplaceAll(string(text), "\n", " "))
			if d.Put(d.Len(), x) == api.OK {
				l = append(l, x)
			}
		}
		again, e := Parse(d.Print())
		if e != api.OK {
			t.Fatalf("%q: %d", d.Print(), e)
		}
		told(t, again, l...)
	}
}

func TestWhatIsPutAndRemovedAgain(t *testing.T) {
	was := []api.Line{line(1, 1, 0, "a"), line(2, 1, 3, "b"), line(1, 7, 0, "c")}
	d := must(t, was...)
	l := []api.Line{line(1, 2, 0, "x"), line(0, 1, 0, "y"), line(2, 9, 5, "z")}
	for at := range 4 {
		for turn := range l {
			d.Put(at, l...)
			for i := range l {
				x := l[(turn+i)%len(l)]
				if e := d.Remove(x.Label, x.N); e != api.OK {
					t.Fatalf("%v: %d", x, e)
				}
			}
			told(t, d, was...)
		}
	}
}

// P5.5, P5.6

// plain is a document by a way of its own: a list that is searched.
type plain []api.Line

func (p plain) find(c api.Label, n int) int {
	return slices.IndexFunc(p, func(x api.Line) bool { return x.Label == c && x.N == n })
}

func (p *plain) put(at int, l []api.Line) api.Errno {
	if at < 0 || at > len(*p) {
		return api.ErrArg
	}
	with := plain(slices.Concat((*p)[:at], l, (*p)[at:]))
	for i, x := range with {
		if with.find(x.Label, x.N) != i || x.N < 1 || x.N > top || x.Rev < 0 || x.Rev > top || len(x.Text) > 256 || strings.Contains(x.Text, "\n") {
			return api.ErrDoc
		}
	}
	*p = with
	return api.OK
}

func (p plain) change(c api.Label, n int, text string) api.Errno {
	at := p.find(c, n)
	if at < 0 {
		return api.ErrNone
	}
	if len(text) > 256 || strings.Contains(text, "\n") {
		return api.ErrLine
	}
	p[at].Text = text
	if p[at].Rev != top {
		p[at].Rev++
	}
	return api.OK
}

func (p *plain) remove(c api.Label, n int) api.Errno {
	at := p.find(c, n)
	if at < 0 {
		return api.ErrNone
	}
	*p = slices.Concat((*p)[:at], (*p)[at+1:])
	return api.OK
}

// some is a line of few identities; now and then one that may not be.
func some(dice *rand.Rand) api.Line {
	x := line([]api.Label{0, 1, 2, 3, 1 << 63}[dice.Intn(5)], 1+dice.Intn(8), dice.Intn(3), strconv.Itoa(dice.Intn(100)))
	switch dice.Intn(40) {
	case 0:
		x.N = []int{0, -1, top, top + 1}[dice.Intn(4)]
	case 1:
		x.Rev = []int{-1, top - 1, top, top + 1}[dice.Intn(4)]
	case 2:
		x.Text = []string{"\n", strings.Repeat("x", 256), strings.Repeat("x", 257), ""}[dice.Intn(4)]
	}
	return x
}

// step does the same with both, and fails unless both answer the same.
func step(t *testing.T, dice *rand.Rand, d *Doc, p *plain) {
	t.Helper()
	x := some(dice)
	var got, want api.Errno
	switch dice.Intn(5) {
	case 0, 1:
		at := dice.Intn(len(*p)+3) - 1
		l := make([]api.Line, dice.Intn(4))
		for i := range l {
			l[i] = some(dice)
		}
		got, want = d.Put(at, l...), p.put(at, l)
	case 2, 3:
		got, want = d.Change(x.Label, x.N, x.Text), p.change(x.Label, x.N, x.Text)
	case 4:
		got, want = d.Remove(x.Label, x.N), p.remove(x.Label, x.N)
	}
	if got != want {
		t.Fatalf("%d, not %d", got, want)
	}
}

func TestStepsAsOfAPlainList(t *testing.T) {
	for seed := range int64(60) {
		dice := rand.New(rand.NewSource(seed))
		d, p := must(t), plain{}
		for range 200 {
			step(t, dice, d, &p)
			told(t, d, p...)
			sum := 0
			for _, c := range d.Labels() {
				sum += d.Count(c)
			}
			if sum != d.Len() {
				t.Fatalf("%d lines of labels, %d in all", sum, d.Len())
			}
			for _, c := range []api.Label{0, 1, 2, 3, 4, 1 << 63} {
				for n := range 10 {
					if at, e := d.Find(c, n); (e == api.OK) != (p.find(c, n) >= 0) || e != api.OK && (at != 0 || e != api.ErrNone) {
						t.Fatalf("Find(%x, %d): %d, %d", c, n, at, e)
					}
				}
			}
		}
	}
}

func TestCopiesGoTheirOwnWays(t *testing.T) {
	dice := rand.New(rand.NewSource(55))
	docs, plains := []*Doc{must(t)}, []plain{{}}
	for range 3000 {
		i := dice.Intn(len(docs))
		step(t, dice, docs[i], &plains[i])
		if len(docs) < 8 && dice.Intn(30) == 0 {
			docs, plains = append(docs, docs[i].Copy()), append(plains, slices.Clone(plains[i]))
		}
		for j := range docs {
			if !slices.Equal(docs[j].Lines(), plains[j]) {
				t.Fatalf("the copy %d: %v, not %v", j, docs[j].Lines(), plains[j])
			}
		}
	}
	for i := range docs {
		told(t, docs[i], plains[i]...)
	}
}

func TestDocumentsDoNotSeeOneAnother(t *testing.T) {
	a, b := line(1, 1, 0, "a"), line(1, 1, 0, "b")
	x, y := must(t, a), must(t, b)
	x.Change(1, 1, "x")
	y.Remove(1, 1)
	told(t, x, line(1, 1, 1, "x"))
	told(t, y)
}

// The rules that hold everywhere

func TestWhatIsHandedInIsNotChangedAndNotKept(t *testing.T) {
	room := []api.Line{line(1, 1, 0, "a"), line(1, 2, 0, "b"), line(1, 3, 0, "c"), line(1, 1, 0, "d")}
	was := slices.Clone(room)
	d := must(t, room[:2]...)
	if e := d.Put(1, room[2:3]...); e != api.OK {
		t.Fatal(e)
	}
	d.Put(3, line(2, 1, 0, "z"))
	d.Change(1, 2, "B")
	d.Remove(1, 1)
	if !slices.Equal(room, was) {
		t.Errorf("changed: %v", room)
	}
	for i := range room {
		room[i] = line(7, 7, 7, "seven")
	}
	told(t, d, was[2], line(1, 2, 1, "B"), line(2, 1, 0, "z"))
}

func TestWhatIsHandedOutIsNew(t *testing.T) {
	l := []api.Line{line(1, 1, 0, "a"), line(2, 2, 0, "b"), line(1, 3, 0, "c")}
	d := must(t, l...)
	d.Put(3, line(5, 5, 0, "e"))
	d.Remove(5, 5)
	for range 2 {
		got := d.Lines()
		got = got[:cap(got)]
		for i := range got {
			got[i] = line(7, 7, 7, "seven")
		}
		labels := d.Labels()
		labels = labels[:cap(labels)]
		for i := range labels {
			labels[i] = 7
		}
		told(t, d, l...)
	}
	d.Put(3, line(5, 5, 0, "e"))
	told(t, d, append(l, line(5, 5, 0, "e"))...)
}

// madeOtherwise calls everything on a document of which nothing is promised but that no call panics.
func madeOtherwise(d *Doc) {
	numbers := []int{math.MinInt, -1, 0, 1, 2, 3, 4, math.MaxInt}
	for _, n := range numbers {
		d.At(n)
		d.Find(1, n)
		d.Change(1, n, "x")
	}
	for _, n := range numbers {
		d.Remove(1, n)
		d.Put(n, line(2, 1, 0, "a"), line(2, 2, 0, "a"))
		d.Put(n, line(2, n, 0, "a"))
	}
	d.Lines()
	d.Len()
	d.Count(0)
	d.Labels()
	gone(d.All())
	d.Print()
	d.Copy().Put(0, line(3, 1, 0, "a"))
}

func TestDocumentsMadeOtherwise(t *testing.T) {
	madeOtherwise(new(Doc))
	new(Doc).Copy().Copy().Print()
	var zero Doc
	if e := zero.Remove(0, 1); e != api.ErrNone {
		t.Errorf("%d", e)
	}
	l := []api.Line{line(1, 1, 0, "a"), line(1, 2, 0, "b"), line(1, 3, 0, "c"), line(1, 4, 0, "d")}
	// A document whose struct was copied shares memory with the other one.
	longer := must(t, l...)
	shorter := *longer
	longer.Put(0, line(4, 1, 0, "a"), line(4, 2, 0, "b"), line(4, 3, 0, "c"))
	madeOtherwise(&shorter)
	madeOtherwise(longer)
	shorter = *must(t, l...)
	other := shorter
	shorter.Remove(1, 1)
	madeOtherwise(&shorter)
	madeOtherwise(&other)
}

func TestLongThingsEnd(t *testing.T) {
	for _, s := range []string{
		strings.Repeat("\n", 1<<22),
		strings.Repeat(" ", 1<<22),
		strings.Repeat("- 1 0 \n", 1<<18),
		strings.Repeat("3+", 1<<20) + " 1 0 a\n",
		"- " + strings.Repeat("1", 1<<22) + " 0 a\n",
		"- 1 0 " + strings.Repeat("a", 1<<22) + "\n",
	} {
		if d, e := Parse(s); d != nil || e != api.ErrForm {
			t.Errorf("%.9q: %d", s, e)
		}
	}
	if e := must(t, line(1, 1, 0, "a")).Change(1, 1, strings.Repeat("a", 1<<22)); e != api.ErrLine {
		t.Errorf("%d", e)
	}
}
