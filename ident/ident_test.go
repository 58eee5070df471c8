package ident

import (
	"math"
	"math/rand"
	"regexp"
	"slices"
	"strconv"
	"strings"
	"testing"

	"scrim/api"
)

// all is the label of all 64 compartments.
const all api.Label = math.MaxUint64

// top is the greatest N of a line.
const top = 1 << 62

// line has that identity.
func line(a api.Label, n int) api.Line { return api.Line{Label: a, N: n} }

// told has that identity, and more.
func told(a api.Label, n, rev int, text string) api.Line {
	return api.Line{Label: a, N: n, Rev: rev, Text: text}
}

// must are counters that begin with the lines.
func must(t *testing.T, l ...api.Line) *Ids {
	t.Helper()
	x, e := New(l)
	if x == nil || e != api.OK {
		t.Fatalf("%v: %d", l, e)
	}
	return x
}

// next asks the counters for the label's next number.
func next(t *testing.T, x *Ids, a api.Label, want int) {
	t.Helper()
	if n, e := x.Next(a); n != want || e != api.OK {
		t.Fatalf("Next(%x): %d, %d, not %d", a, n, e, want)
	}
	if n := x.Last(a); n != want {
		t.Fatalf("Last(%x): %d, not %d", a, n, want)
	}
}

// orders calls with the lines in each order in which they may stand.
func orders(l []api.Line, do func([]api.Line)) {
	if len(l) < 2 {
		do(l)
		return
	}
	for i := range l {
		rest := slices.Delete(slices.Clone(l), i, i+1)
		orders(rest, func(r []api.Line) { do(append([]api.Line{l[i]}, r...)) })
	}
}

// lists are lines of all kinds, whether or not a document's.
func lists() [][]api.Line {
	return [][]api.Line{
		nil,
		{},
		{line(0, 1)},
		{line(8, 1), line(8, 1)},
		{line(8, 1), line(8, 4), line(0, 2)},
		{line(1, 1), line(1, 2), line(1, 1)},
		{line(1, 1), line(2, 1), line(3, 1), line(all, 1), line(2, 1), line(1, 1)},
		{line(all, top), line(1<<63, top), line(0, top)},
		{line(0, math.MinInt), line(0, -1), line(0, 0), line(0, math.MaxInt), line(0, math.MinInt)},
		{told(5, 3, 7, "c"), told(5, 1, 0, "c"), told(5, 3, 7, "c"), told(5, 3, 8, "d"), told(4, 3, 7, "c")},
		{told(5, 3, -1, strings.Repeat("x", 300)), told(5, 2, math.MinInt, "a\nb"), told(6, 3, 0, "\x00\xff")},
	}
}

// P4.1

func TestExample(t *testing.T) {
	x := must(t, line(8, 1), line(8, 4), line(0, 2))
	next(t, x, 8, 5)
	next(t, x, 8, 6)
	next(t, x, 0, 3)
	next(t, x, 1<<9, 1)
	if n := x.Last(8); n != 6 {
		t.Errorf("Last: %d", n)
	}
}

func TestNewBeginsWithTheGreatest(t *testing.T) {
	l := []api.Line{line(8, 4), line(8, 1), line(9, 7), line(8, 3), line(0, 2)}
	orders(l, func(l []api.Line) {
		x := must(t, l...)
		for a, want := range map[api.Label]int{8: 4, 9: 7, 0: 2, 1: 0, all: 0} {
			if n := x.Last(a); n != want {
				t.Fatalf("%v: Last(%x): %d, not %d", l, a, n, want)
			}
		}
	})
}

func TestNewOfNoLines(t *testing.T) {
	for _, l := range [][]api.Line{nil, {}} {
		x := must(t, l...)
		for _, a := range []api.Label{0, 1, 1 << 63, all} {
			if n := x.Last(a); n != 0 {
				t.Errorf("Last(%x): %d", a, n)
			}
			next(t, x, a, 1)
			next(t, x, a, 2)
		}
	}
}

func TestNewLooksNotAtTextsAndRevs(t *testing.T) {
	x := must(t, told(1, 2, -5, "a\nb"), told(1, 9, math.MaxInt, strings.Repeat("y", 1000)), told(2, 1, math.MinInt, ""))
	next(t, x, 1, 10)
	next(t, x, 2, 2)
}

func TestNewRefuses(t *testing.T) {
	for _, l := range [][]api.Line{
		{line(8, 1), line(8, 1)},
		{line(8, 0)},
		{line(8, -1)},
		{line(0, math.MinInt)},
		{line(0, top+1)},
		{line(0, math.MaxInt)},
		{line(1, 1), line(2, 1), line(3, 0)},
		{line(1, 1), line(2, 1), line(2, 2), line(1, 1)},
		{told(1, 1, 0, "a"), told(1, 1, 1, "b")},
		{line(1, 0), line(1, 0)},
		{line(1, 1), line(1, top+1)},
	} {
		if x, e := New(l); x != nil || e != api.ErrDoc {
			t.Errorf("%v: %v, %d", l, x, e)
		}
	}
}

func TestNewTakesTheGreatestN(t *testing.T) {
	x := must(t, line(8, top), line(8, 1), line(9, top-1))
	next(t, x, 9, top)
	for range 3 {
		for _, a := range []api.Label{8, 9} {
			if n, e := x.Next(a); n != 0 || e != api.ErrFull {
				t.Errorf("Next(%d): %d, %d", a, n, e)
			}
			if n := x.Last(a); n != top {
				t.Errorf("Last(%d): %d", a, n)
			}
		}
	}
	next(t, x, 10, 1)
}

func TestNextAndLastOfMany(t *testing.T) {
	x, want := must(t), map[api.Label]int{}
	dice := rand.New(rand.NewSource(4))
	for range 20000 {
		a := api.Label(dice.Intn(40)) << (dice.Intn(3) * 29)
		if n := x.Last(a); n != want[a] {
			t.Fatalf("Last(%x): %d, not %d", a, n, want[a])
		}
		want[a]++
		next(t, x, a, want[a])
	}
}

func TestNilCounters(t *testing.T) {
	var x *Ids
	if n, e := x.Next(3); n != 0 || e != api.ErrNil {
		t.Errorf("Next: %d, %d", n, e)
	}
	if n := x.Last(3); n != 0 {
		t.Errorf("Last: %d", n)
	}
	if y := x.Copy(); y != nil {
		t.Errorf("Copy: %v", y)
	}
}

func TestCountersMadeOtherwise(t *testing.T) {
	var x Ids
	x.Last(1)
	x.Copy().Next(1)
	x.Next(1)
	x.Last(1)
	new(Ids).Copy().Copy()
}

func TestCopyGoesItsOwnWay(t *testing.T) {
	x := must(t, line(1, 5), line(2, 7), line(4, top))
	next(t, x, 2, 8)
	y := x.Copy()
	for a, want := range map[api.Label]int{1: 5, 2: 8, 4: top, 0: 0} {
		if n := y.Last(a); n != want {
			t.Errorf("Last(%d) of the copy: %d, not %d", a, n, want)
		}
	}
	next(t, x, 1, 6)
	next(t, x, 3, 1)
	next(t, y, 1, 6)
	next(t, y, 1, 7)
	next(t, y, 0, 1)
	z := y.Copy()
	next(t, z, 1, 8)
	for _, k := range []struct {
		x    *Ids
		want [5]int
	}{{x, [5]int{0, 6, 8, 1, top}}, {y, [5]int{1, 7, 8, 0, top}}, {z, [5]int{1, 8, 8, 0, top}}} {
		for a, want := range k.want {
			if n := k.x.Last(api.Label(a)); n != want {
				t.Errorf("Last(%d): %d, not %d", a, n, want)
			}
		}
	}
	if n, e := y.Next(4); n != 0 || e != api.ErrFull {
		t.Errorf("Next of a copy that is full: %d, %d", n, e)
	}
}

func TestCopyOfManyLabels(t *testing.T) {
	x := must(t)
	for a := range api.Label(3000) {
		x.Next(a * a)
	}
	y := x.Copy()
	for a := range api.Label(3000) {
		if y.Last(a*a) != x.Last(a*a) {
			t.Fatalf("Last(%d): %d, not %d", a*a, y.Last(a*a), x.Last(a*a))
		}
	}
}

func TestNewLeavesItsArgument(t *testing.T) {
	room := []api.Line{line(1, 5), line(2, 7), line(3, 3), line(1, 5)}
	was := slices.Clone(room)
	x := must(t, room[:2]...)
	next(t, x, 1, 6)
	if !slices.Equal(room, was) {
		t.Errorf("changed: %v", room)
	}
	for i := range room {
		room[i] = line(2, 100+i)
	}
	next(t, x, 1, 7)
	next(t, x, 2, 8)
	next(t, x, 3, 1)
}

// P4.2

func TestSame(t *testing.T) {
	for _, k := range []struct {
		a, b api.Line
		want bool
	}{
		{line(1, 1), line(1, 1), true},
		{line(1, 1), line(1, 2), false},
		{line(1, 1), line(2, 1), false},
		{line(1, 2), line(2, 1), false},
		{told(1, 1, 3, "a"), told(1, 1, 4, "b"), true},
		{told(1, 1, 3, "a"), told(2, 1, 3, "a"), false},
		{told(1, 1, 3, "a"), told(1, 3, 3, "a"), false},
		{line(all, top), line(all, top), true},
		{line(all, top), line(all>>1, top), false},
		{line(0, 0), line(0, 0), true},
		{line(0, -1), line(0, 1), false},
		{line(0, math.MinInt), line(0, math.MinInt), true},
	} {
		if Same(k.a, k.b) != k.want || Same(k.b, k.a) != k.want {
			t.Errorf("%v, %v: not %t", k.a, k.b, k.want)
		}
	}
}

func TestLess(t *testing.T) {
	for _, k := range []struct {
		a, b       api.Line
		less, more bool
	}{
		{line(2, 9), line(4, 1), true, false},
		{line(1, 1), line(1, 2), true, false},
		{line(1, 1), line(1, 1), false, false},
		{line(0, 5), line(1, 1), true, false},
		{line(all>>1, 9), line(1<<63, 1), true, false}, // labels are numbers without a sign
		{line(1<<63, 9), line(all, 1), true, false},
		{line(1, -1), line(1, 0), true, false},
		{line(1, math.MinInt), line(1, math.MaxInt), true, false}, // their difference is no int
		{line(1, top), line(1, top+1), true, false},
		{told(1, 1, 9, "z"), told(1, 1, 0, "a"), false, false},
		{told(1, 1, 9, "z"), told(1, 2, 0, "a"), true, false},
		{told(6, 1, 0, "a"), told(8, 1, 0, "a"), true, false}, // more compartments, and less as a number
	} {
		if Less(k.a, k.b) != k.less || Less(k.b, k.a) != k.more {
			t.Errorf("%v, %v: %t, %t", k.a, k.b, Less(k.a, k.b), Less(k.b, k.a))
		}
	}
}

// laid puts the lines in order by a way of its own: each goes behind those that are not above it.
func laid(l []api.Line) []api.Line {
	var sorted []api.Line
	for _, x := range l {
		at := len(sorted)
		for at > 0 {
			y := sorted[at-1]
			if y.Label < x.Label || y.Label == x.Label && y.N <= x.N {
				break
			}
			at--
		}
		sorted = slices.Insert(sorted, at, x)
	}
	return sorted
}

func TestSorted(t *testing.T) {
	for _, l := range lists() {
		if got, want := Sorted(l), laid(l); !slices.Equal(got, want) {
			t.Errorf("%v: %v, not %v", l, got, want)
		}
	}
	dice := rand.New(rand.NewSource(42))
	for n := range 200 {
		var l []api.Line
		for range n * 2 {
			l = append(l, told(api.Label(dice.Intn(4))<<62, dice.Intn(6)-2, dice.Intn(1000), "x"))
		}
		if got, want := Sorted(l), laid(l); !slices.Equal(got, want) {
			t.Fatalf("%v: %v, not %v", l, got, want)
		}
	}
}

func TestSortedLeavesOneIdentityAsItStood(t *testing.T) {
	var l []api.Line
	for i := range 600 {
		l = append(l, told(api.Label(i%3), 1+i%2, 600-i, strconv.Itoa(i)))
	}
	sorted := Sorted(l)
	for i := range sorted[1:] {
		a, b := sorted[i], sorted[i+1]
		if Less(b, a) || Same(a, b) && a.Rev <= b.Rev {
			t.Fatalf("%v ahead of %v", a, b)
		}
	}
	if len(sorted) != len(l) {
		t.Errorf("%d lines of %d", len(sorted), len(l))
	}
}

func TestSortedLeavesItsArgumentAndHandsOutNew(t *testing.T) {
	for _, n := range []int{0, 1, 2, 3, 20} {
		room := make([]api.Line, n+3)
		for i := range room {
			room[i] = line(1, 100-i)
		}
		was := slices.Clone(room)
		got := Sorted(room[:n])
		for _, sorted := range [][]api.Line{got, Sorted(room[:n])} {
			if !slices.Equal(sorted, laid(was[:n])) {
				t.Errorf("%v", sorted)
			}
			sorted = sorted[:cap(sorted)]
			for i := range sorted {
				sorted[i] = line(9, -9)
			}
		}
		if !slices.Equal(room, was) {
			t.Errorf("changed: %v", room)
		}
	}
}

// again is Twice by a way of its own: each line is held against each ahead of it.
func again(l []api.Line) (int, bool) {
	for i := range l {
		for j := range i {
			if l[i].Label == l[j].Label && l[i].N == l[j].N {
				return i, true
			}
		}
	}
	return 0, false
}

func TestTwice(t *testing.T) {
	for _, k := range []struct {
		l     []api.Line
		at    int
		twice bool
	}{
		{[]api.Line{line(3, 1), line(3, 2), line(3, 1)}, 2, true},
		{[]api.Line{line(3, 1), line(3, 2), line(3, 3)}, 0, false},
		{[]api.Line{line(3, 1), line(3, 1), line(3, 1)}, 1, true},
		{[]api.Line{line(3, 1), line(4, 1), line(5, 1)}, 0, false},
		{[]api.Line{line(1, 2), line(2, 1)}, 0, false},
		{[]api.Line{line(1, 1), line(2, 2), line(3, 3), line(2, 2), line(1, 1)}, 3, true},
		{[]api.Line{told(1, 1, 1, "a"), told(1, 1, 2, "b")}, 1, true},
		{[]api.Line{line(0, 0), line(0, 0)}, 1, true},
	} {
		if at, twice := Twice(k.l); at != k.at || twice != k.twice {
			t.Errorf("%v: %d, %t", k.l, at, twice)
		}
	}
	for _, l := range lists() {
		at, twice := Twice(l)
		wantAt, want := again(l)
		if at != wantAt || twice != want {
			t.Errorf("%v: %d, %t, not %d, %t", l, at, twice, wantAt, want)
		}
	}
	dice := rand.New(rand.NewSource(7))
	for range 2000 {
		l := make([]api.Line, dice.Intn(12))
		for i := range l {
			l[i] = told(api.Label(dice.Intn(5)), dice.Intn(5), i, "t")
		}
		at, twice := Twice(l)
		wantAt, want := again(l)
		if at != wantAt || twice != want {
			t.Fatalf("%v: %d, %t, not %d, %t", l, at, twice, wantAt, want)
		}
	}
}

func TestTwiceReadsNotBeyondItsArgument(t *testing.T) {
	room := []api.Line{line(1, 1), line(1, 2), line(1, 1)}
	if at, twice := Twice(room[:2]); at != 0 || twice {
		t.Errorf("%d, %t", at, twice)
	}
	if !slices.Equal(room, []api.Line{line(1, 1), line(1, 2), line(1, 1)}) {
		t.Errorf("changed: %v", room)
	}
}

// P4.3

func TestText(t *testing.T) {
	for _, k := range []struct {
		a    api.Label
		n    int
		want string
	}{
		{1<<3 + 1<<7, 12, "3+7#12"},
		{0, 1, "-#1"},
		{0, 0, "-#0"},
		{0, -7, "-#-7"},
		{1, math.MinInt, "0#-9223372036854775808"},
		{1 << 63, math.MaxInt, "63#9223372036854775807"},
		{3, top, "0+1#4611686018427387904"},
		{1 << 10, 10, "10#10"},
	} {
		if s := Text(told(k.a, k.n, 5, "#9")); s != k.want {
			t.Errorf("%x %d: %q", k.a, k.n, s)
		}
	}
}

func TestParse(t *testing.T) {
	for _, k := range []struct {
		s string
		a api.Label
		n int
	}{
		{"3+7#12", 1<<3 + 1<<7, 12},
		{"-#1", 0, 1},
		{"0#1", 1, 1},
		{"63#4611686018427387904", 1 << 63, top},
		{"63#4611686018427387905", 1 << 63, top + 1},
		{"-#9223372036854775807", 0, math.MaxInt},
		{"0+63#100", 1<<63 + 1, 100},
	} {
		if a, n, e := Parse(k.s); a != k.a || n != k.n || e != api.OK {
			t.Errorf("%q: %x, %d, %d", k.s, a, n, e)
		}
	}
}

func TestParseRefuses(t *testing.T) {
	for _, s := range []string{
		"", "#", "-", "-#", "#1", "3", "3#", "-#0", "-#-1", "3#-9223372036854775808", "3#01", "3#00", "3#+1", "3#-0", "3#1 ", "3# 1", " 3#1", "3 #1",
		"3##1", "3#1#", "3#1#1", "3#1#2", "#3#1", "--#1", "-+3#1", "3+#1", "+3#1", "7+3#1", "3+3#1", "03#1", "64#1", "-1#1", "3,7#1", "3#1\n", "\n3#1",
		"3#9223372036854775808", "3#18446744073709551617", "3#99999999999999999999999", "3#1_0", "3#0x1", "3#1e1", "3#1.0", "3#a", "a#1", "3\x00#1", "3#\x001",
		"-#1-", "#-1", "3:1", "3#٣", "٣#1",
	} {
		if a, n, e := Parse(s); a != 0 || n != 0 || e != api.ErrForm {
			t.Errorf("%q: %x, %d, %d", s, a, n, e)
		}
	}
}

// form is what an identity's text must look like, but for the order of the compartments and their bound.
var form = regexp.MustCompile(`^(-|(0|[1-9][0-9]*)(\+(0|[1-9][0-9]*))*)#([1-9][0-9]*)$`)

// readable tells by a way of its own whether a short text is an identity's.
func readable(s string) bool {
	if !form.MatchString(s) {
		return false
	}
	word, _, _ := strings.Cut(s, "#")
	if word == "-" {
		return true
	}
	ahead := -1
	for _, digits := range strings.Split(word, "+") {
		c, err := strconv.Atoi(digits)
		if err != nil || c <= ahead || c > 63 {
			return false
		}
		ahead = c
	}
	return true
}

func TestParseOfEachShortText(t *testing.T) {
	const signs = "#-+0136 \n"
	read := 0
	var grow func(s string)
	grow = func(s string) {
		a, n, e := Parse(s)
		if (e == api.OK) != readable(s) {
			t.Fatalf("%q: %x, %d, %d", s, a, n, e)
		}
		if e == api.OK {
			read++
			if Text(line(a, n)) != s {
				t.Fatalf("%q: %x, %d", s, a, n)
			}
		} else if a != 0 || n != 0 || e != api.ErrForm {
			t.Fatalf("%q: %x, %d, %d", s, a, n, e)
		}
		if len(s) == 6 {
			return
		}
		for _, c := range []byte(signs) {
			grow(s + string(c))
		}
	}
	grow("")
	if read < 1000 {
		t.Errorf("%d texts were read", read)
	}
}

// P4.4

func TestNextHangsOnItsLabelAlone(t *testing.T) {
	dice := rand.New(rand.NewSource(44))
	labels := []api.Label{0, 1, 2, 3, 1 << 63, all}
	for range 300 {
		var l []api.Line
		for range dice.Intn(20) {
			x := line(labels[dice.Intn(len(labels))], 1+dice.Intn(30))
			if !slices.Contains(l, x) {
				l = append(l, x)
			}
		}
		a := labels[dice.Intn(len(labels))]
		var own []api.Line
		for _, x := range l {
			if x.Label == a {
				own = append(own, x)
			}
		}
		whole, alone := must(t, l...), must(t, own...)
		ahead := whole.Last(a)
		for range 40 {
			b := labels[dice.Intn(len(labels))]
			n, e := whole.Next(b)
			if b != a {
				continue
			}
			m, f := alone.Next(a)
			if n != m || e != f || n != ahead+1 || slices.Contains(l, line(a, n)) {
				t.Fatalf("%v: Next(%x): %d, %d; alone %d, %d; behind %d", l, a, n, e, m, f, ahead)
			}
			ahead = n
		}
	}
}

func TestCountersDoNotSeeOneAnother(t *testing.T) {
	x, y := must(t, line(1, 3)), must(t)
	next(t, x, 1, 4)
	next(t, y, 1, 1)
	next(t, x, 1, 5)
	next(t, y, 1, 2)
}

// P4.5

func TestLessIsAnOrder(t *testing.T) {
	var l []api.Line
	for _, a := range []api.Label{0, 1, 2, 3, 1 << 62, 1 << 63, all} {
		for _, n := range []int{math.MinInt, -1, 0, 1, 2, 3, top, math.MaxInt} {
			l = append(l, told(a, n, 1, "a"), told(a, n, 2, "b"))
		}
	}
	for _, a := range l {
		if Less(a, a) {
			t.Errorf("%v is less than itself", a)
		}
		for _, b := range l {
			if ways := [3]bool{Less(a, b), Less(b, a), Same(a, b)}; ways != [3]bool{true} && ways != [3]bool{1: true} && ways != [3]bool{2: true} {
				t.Errorf("%v, %v: %v", a, b, ways)
			}
			for _, c := range l {
				if Less(a, b) && Less(b, c) && !Less(a, c) {
					t.Errorf("%v, %v, %v", a, b, c)
				}
			}
		}
	}
}

func TestSortedOfLinesInAnyOrder(t *testing.T) {
	l := []api.Line{told(0, 2, 1, "a"), told(1, 1, 0, "b"), told(1, 3, 9, "c"), told(2, 1, 0, "d"), told(1<<63, 1, 0, "e"), told(all, 1, 0, "f")}
	orders(l, func(turned []api.Line) {
		if got := Sorted(turned); !slices.Equal(got, l) {
			t.Fatalf("%v: %v", turned, got)
		}
	})
}

func TestParseOfText(t *testing.T) {
	dice := rand.New(rand.NewSource(45))
	for range 20000 {
		a := api.Label(dice.Uint64() >> dice.Intn(64) & dice.Uint64())
		n := 1 + int(dice.Uint64()>>(1+dice.Intn(63)))
		if n < 1 {
			n = math.MaxInt
		}
		b, m, e := Parse(Text(line(a, n)))
		if b != a || m != n || e != api.OK {
			t.Fatalf("%q: %x, %d, %d", Text(line(a, n)), b, m, e)
		}
	}
	for _, n := range []int{0, -1, math.MinInt} {
		if _, _, e := Parse(Text(line(1, n))); e != api.ErrForm {
			t.Errorf("%d: %d", n, e)
		}
	}
}

func TestLongTextsEnd(t *testing.T) {
	for _, s := range []string{
		strings.Repeat("1", 1<<22),
		"3#" + strings.Repeat("1", 1<<22),
		strings.Repeat("3+", 1<<20) + "#1",
		strings.Repeat("#", 1<<22),
		strings.Repeat("-", 1<<22) + "#1",
	} {
		if a, n, e := Parse(s); a != 0 || n != 0 || e != api.ErrForm {
			t.Errorf("%.9q: %x, %d, %d", s, a, n, e)
		}
	}
}
