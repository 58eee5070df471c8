package label

import (
	"maps"
	"math"
	"regexp"
	"slices"
	"strconv"
	"strings"
	"testing"

	"scrim/api"
)

// all is the label of all 64 compartments.
var all api.Label = math.MaxUint64

// set is a label by a way of its own: whether each compartment is in it.
type set [64]bool

// setOf takes a label for a set.
func setOf(a api.Label) set {
	var s set
	for i := range s {
		s[i] = a>>i%2 == 1
	}
	return s
}

// subsets are all labels of the compartments, rising as numbers if these do.
func subsets(compartments ...int) []api.Label {
	l := []api.Label{0}
	for _, c := range compartments {
		for _, a := range l {
			l = append(l, a+1<<c)
		}
	}
	return l
}

// lists are all lists of at most n of the labels.
func lists(labels []api.Label, n int) [][]api.Label {
	found := [][]api.Label{nil}
	for from := 0; n > 0; n-- {
		to := len(found)
		for _, l := range found[from:to] {
			for _, a := range labels {
				found = append(found, append(slices.Clone(l), a))
			}
		}
		from = to
	}
	return found
}

// many are labels of all kinds: of few compartments, of nearly all, and of some that lie as they come.
func many() []api.Label {
	l := []api.Label{0, all}
	for i := range 64 {
		for j := range i + 1 {
			a := api.Label(1)<<i | 1<<j
			l = append(l, a, all-a, 1<<i-1<<j)
		}
	}
	mixed := api.Label(1)
	for range 2000 {
		mixed = mixed*6364136223846793005 + 1442695040888963407
		l = append(l, mixed, mixed&(mixed>>17), mixed|mixed<<13)
	}
	return l
}

// must is the label of the compartments.
func must(t *testing.T, compartments ...int) api.Label {
	t.Helper()
	a, e := Of(compartments...)
	if e != api.OK {
		t.Fatalf("Of(%v): %d", compartments, e)
	}
	return a
}

// collected are the labels that Between goes over.
func collected(t *testing.T, a, b api.Label) []api.Label {
	t.Helper()
	seq, e := Between(a, b)
	if e != api.OK || seq == nil {
		t.Fatalf("Between(%x, %x): %d", a, b, e)
	}
	return slices.Collect(seq)
}

// P2.1

func TestOf(t *testing.T) {
	for _, x := range []struct {
		l    []int
		want api.Label
	}{
		{nil, 0}, {[]int{}, 0}, {[]int{0}, 1}, {[]int{63}, 1 << 63}, {[]int{3, 7, 3}, 0x88}, {[]int{7, 3}, 0x88},
		{[]int{0, 0, 0}, 1}, {[]int{63, 0, 63}, 1<<63 + 1}, {[]int{31, 32}, 3 << 31},
	} {
		if a, e := Of(x.l...); a != x.want || e != api.OK {
			t.Errorf("%v: %x, %d, want %x", x.l, a, e, x.want)
		}
	}
	var every []int
	for i := range 64 {
		if a, e := Of(i); a != api.Label(math.Pow(2, float64(i))) || e != api.OK {
			t.Errorf("%d: %x, %d", i, a, e)
		}
		every = append(every, 63-i, 63-i)
	}
	if a := must(t, every...); a != all {
		t.Errorf("all: %x", a)
	}
	if a := must(t, slices.Repeat([]int{5}, 1000)...); a != 32 {
		t.Errorf("5 a thousand times: %x", a)
	}
}

func TestOfRefuses(t *testing.T) {
	for _, wrong := range []int{-1, 64, 65, -63, -64, 127, 128, 256, 1 << 32, -1 << 32, math.MaxInt, math.MinInt} {
		for _, l := range [][]int{{wrong}, {wrong, 1}, {1, wrong}, {0, wrong, 63}, {wrong, wrong}} {
			if a, e := Of(l...); a != 0 || e != api.ErrArg {
				t.Errorf("%v: %x, %d", l, a, e)
			}
		}
	}
}

func TestOfLeavesItsArgument(t *testing.T) {
	l := []int{9, 3, 9, 64}
	if a := must(t, l[:3]...); a != 1<<9+1<<3 || !slices.Equal(l, []int{9, 3, 9, 64}) {
		t.Errorf("%x; %v", a, l)
	}
}

func TestListAndCount(t *testing.T) {
	if len(List(0)) != 0 || Count(0) != 0 {
		t.Error("the empty one has compartments")
	}
	if l := List(0x88); !slices.Equal(l, []int{3, 7}) {
		t.Errorf("%v", l)
	}
	for _, a := range many() {
		var want []int
		for i, in := range setOf(a) {
			if in {
				want = append(want, i)
			}
		}
		if l := List(a); !slices.Equal(l, want) {
			t.Errorf("%x: %v, want %v", a, l, want)
		}
		if n := Count(a); n != len(want) {
			t.Errorf("%x: %d, want %d", a, n, len(want))
		}
	}
	l := List(0x88)
	_ = append(l[:0], 60, 61, 62)
	if !slices.Equal(List(0x88), []int{3, 7}) {
		t.Error("what is handed out is not new")
	}
}

func TestTwo(t *testing.T) {
	labels := append(subsets(0, 1, 31, 32, 62, 63), all, all-1, all>>1, all<<32)
	for _, a := range labels {
		for _, b := range labels {
			x, y := setOf(a), setOf(b)
			below := true
			var join, meet, less set
			for i := range x {
				below = below && (!x[i] || y[i])
				join[i], meet[i], less[i] = x[i] || y[i], x[i] && y[i], x[i] && !y[i]
			}
			if Below(a, b) != below {
				t.Errorf("Below(%x, %x): %v", a, b, !below)
			}
			if setOf(Join(a, b)) != join || setOf(Meet(a, b)) != meet || setOf(Less(a, b)) != less {
				t.Errorf("of %x, %x: Join %x, Meet %x, Less %x", a, b, Join(a, b), Meet(a, b), Less(a, b))
			}
		}
	}
}

func TestBelow(t *testing.T) {
	one, two := must(t, 3), must(t, 3, 7)
	if !Below(one, two) || Below(two, one) || !Below(0, must(t, 0)) || Below(must(t, 63), all>>1) {
		t.Error("Below")
	}
	if a := Less(two, must(t, 7, 9)); a != one {
		t.Errorf("Less: %x", a)
	}
}

// P2.2

func TestHighest(t *testing.T) {
	for _, x := range []struct{ l, want []api.Label }{
		{nil, nil}, {[]api.Label{}, nil}, {[]api.Label{0}, []api.Label{0}}, {[]api.Label{0, 0}, []api.Label{0}},
		{[]api.Label{2, 6, 8, 6}, []api.Label{6, 8}},
		{[]api.Label{8, 6, 2, 6}, []api.Label{8, 6}},
		{[]api.Label{6, 8, 2}, []api.Label{6, 8}},
		{[]api.Label{0, 1}, []api.Label{1}}, {[]api.Label{1, 0}, []api.Label{1}},
		{[]api.Label{1, 2, 3}, []api.Label{3}}, {[]api.Label{3, 2, 1}, []api.Label{3}},
		{[]api.Label{4, 1, 2, 3, 4}, []api.Label{4, 3}},
		{[]api.Label{1, 4, 3}, []api.Label{4, 3}},
		{[]api.Label{2, 1, 2}, []api.Label{2, 1}},
		{[]api.Label{1 << 63, 1, 1 << 63}, []api.Label{1 << 63, 1}},
		{[]api.Label{5, 9, all, 3}, []api.Label{all}},
	} {
		if got := Highest(x.l); !slices.Equal(got, x.want) {
			t.Errorf("%x: %x, want %x", x.l, got, x.want)
		}
	}
}

// highestByWord says it as the document does: first each that no other one of the list stands above, and of these each once.
func highestByWord(l []api.Label) []api.Label {
	var high []api.Label
	for i, a := range l {
		other := func(b api.Label) bool { return b != a && a&b == a }
		if !slices.ContainsFunc(l, other) && !slices.Contains(l[:i], a) {
			high = append(high, a)
		}
	}
	return high
}

func TestHighestOfAllShortLists(t *testing.T) {
	for _, l := range lists(subsets(2, 40, 63), 5) {
		if got, want := Highest(l), highestByWord(l); !slices.Equal(got, want) {
			t.Errorf("%x: %x, want %x", l, got, want)
		}
	}
	l := many()[:3000]
	if got, want := Highest(l[2:]), highestByWord(l[2:]); !slices.Equal(got, want) {
		t.Errorf("of many: %d, want %d", len(got), len(want))
	}
}

func TestHighestLeavesItsArgument(t *testing.T) {
	l := []api.Label{1, 4, 3, 3, 8, all, 16}
	was := slices.Clone(l)
	got := Highest(l[:5])
	if !slices.Equal(got, []api.Label{4, 3, 8}) || !slices.Equal(l, was) {
		t.Fatalf("%x; %x", got, l)
	}
	got = got[:cap(got)]
	for i := range got {
		got[i] = 0
	}
	if !slices.Equal(l, was) || !slices.Equal(Highest(l[:5]), []api.Label{4, 3, 8}) {
		t.Error("what is handed out is not new")
	}
}

func TestText(t *testing.T) {
	for _, x := range []struct {
		a    api.Label
		want string
	}{
		{0, "-"}, {1, "0"}, {0x88, "3+7"}, {1 << 63, "63"}, {1<<63 + 1, "0+63"}, {0x403, "0+1+10"}, {1<<9 + 1<<10 + 1<<11, "9+10+11"},
	} {
		if s := Text(x.a); s != x.want {
			t.Errorf("%x: %q, want %q", x.a, s, x.want)
		}
		if a, e := Parse(x.want); a != x.a || e != api.OK {
			t.Errorf("%q: %x, %d", x.want, a, e)
		}
	}
	if s := Text(all); !strings.HasPrefix(s, "0+1+2+") || !strings.HasSuffix(s, "+62+63") || strings.Count(s, "+") != 63 {
		t.Errorf("all: %q", s)
	}
}

func TestParseRefuses(t *testing.T) {
	for _, s := range []string{
		"", "+", "++", "--", "-+", "+-", "-+3", "3+-", "- ", " -", "-0", "-1", "-3+7", "3+-7",
		"7+3", "3+3", "3+7+7", "3+7+3", "03", "00", "3+07", "003+7", "3+", "+3", "3++7", "+3+7", "3+7+",
		"64", "100", "3+64", "64+65", "256", "259", "4294967299", "18446744073709551616", "18446744073709551619", "-18446744073709551613",
		"3 +7", "3+ 7", " 3", "3 ", "3\n", "\n", "3,7", "3 7", "3-7", "{3}", "0x3", "3_0", "1e1", "3.0", "a", "3+a",
		"\u0663", "\uff13", "\u2212", "\x00", "3\x00", "\xff", "3+\xff",
		strings.Repeat("3", 1<<20), strings.Repeat("0", 1<<20), strings.Repeat("+", 1<<20), strings.Repeat("3+", 1<<20) + "3", "0" + strings.Repeat("+63", 1<<20), Text(all) + "+0",
	} {
		if a, e := Parse(s); a != 0 || e != api.ErrForm {
			t.Errorf("%.40q: %x, %d", s, a, e)
		}
	}
}

// P2.3

func TestBetween(t *testing.T) {
	one, two := must(t, 1), must(t, 2)
	if l := collected(t, one, must(t, 1, 2, 5)); !slices.Equal(l, []api.Label{0x2, 0x6, 0x22, 0x26}) {
		t.Errorf("%x", l)
	}
	for _, x := range [][2]api.Label{{one, two}, {one, 0}, {all, 0}, {all, all - 1}, {1 << 63, 1<<63 - 1<<47}, {3, 5}} {
		if l := collected(t, x[0], x[1]); len(l) != 0 {
			t.Errorf("%x, %x: %x", x[0], x[1], l)
		}
	}
	for _, a := range []api.Label{0, one, 1 << 63, all} {
		if l := collected(t, a, a); !slices.Equal(l, []api.Label{a}) {
			t.Errorf("%x and itself: %x", a, l)
		}
	}
}

func TestBetweenRefusesMoreThanMaxBetween(t *testing.T) {
	if MaxBetween != 16 {
		t.Error(MaxBetween)
	}
	for _, x := range [][2]api.Label{
		{0, all}, {0, 1<<17 - 1}, {0, all << 47}, {1, 1<<18 - 1}, {all >> 17, all},
		{1 << 63, 1<<17 - 1}, {all << 17, all >> 1}, // and the one is not below the other one
	} {
		if seq, e := Between(x[0], x[1]); seq != nil || e != api.ErrArg {
			t.Errorf("%x, %x: %d", x[0], x[1], e)
		}
	}
	for _, x := range [][2]api.Label{{0, 1<<16 - 1}, {0, all << 48}, {1, 1<<17 - 1}, {all >> 16, all}, {all << 16, all}} {
		l := collected(t, x[0], x[1])
		if len(l) != 1<<16 || l[0] != x[0] || l[len(l)-1] != x[1] {
			t.Errorf("%x, %x: %d labels", x[0], x[1], len(l))
		}
	}
	for _, x := range [][2]api.Label{{1 << 63, 1<<16 - 1}, {all << 16, all >> 1}} {
		if l := collected(t, x[0], x[1]); len(l) != 0 {
			t.Errorf("%x, %x: %d labels", x[0], x[1], len(l))
		}
	}
}

func TestBetweenIsGoneOverAgain(t *testing.T) {
	a, b := must(t, 4), must(t, 1, 4, 63)
	want := []api.Label{0x10, 0x12, 1<<63 + 0x10, 1<<63 + 0x12}
	seq, _ := Between(a, b)
	for place, stop := range want {
		var got []api.Label
		for c := range seq {
			got = append(got, c)
			if c == stop {
				break
			}
		}
		if !slices.Equal(got, want[:place+1]) {
			t.Errorf("left at %x: %x", stop, got)
		}
	}
	var outer []api.Label
	for c := range seq {
		outer = append(outer, c)
		if inner := slices.Collect(seq); !slices.Equal(inner, want) {
			t.Errorf("while another round is at %x: %x", c, inner)
		}
	}
	if !slices.Equal(outer, want) {
		t.Errorf("with other rounds within: %x", outer)
	}
}

// P2.4

func TestBelowIsAnOrder(t *testing.T) {
	labels := append(subsets(0, 17, 32, 63), all, all-1)
	for _, a := range labels {
		if !Below(a, a) || !Below(0, a) || !Below(a, all) {
			t.Errorf("%x is not below itself, or the empty one not below it, or it not below all", a)
		}
		for _, b := range labels {
			if Below(a, b) && Below(b, a) != (a == b) {
				t.Errorf("%x and %x", a, b)
			}
			for _, c := range labels {
				if Below(a, b) && Below(b, c) && !Below(a, c) {
					t.Errorf("%x, %x, %x", a, b, c)
				}
			}
		}
	}
}

func TestJoinIsLeastAndMeetGreatest(t *testing.T) {
	labels := subsets(0, 17, 32, 63)
	for _, a := range labels {
		for _, b := range labels {
			join, meet := Join(a, b), Meet(a, b)
			if !Below(a, join) || !Below(b, join) || !Below(meet, a) || !Below(meet, b) {
				t.Errorf("of %x and %x: Join %x, Meet %x", a, b, join, meet)
			}
			for _, c := range labels {
				if Below(a, c) && Below(b, c) && !Below(join, c) {
					t.Errorf("%x is above %x and %x, and not above their Join", c, a, b)
				}
				if Below(c, a) && Below(c, b) && !Below(c, meet) {
					t.Errorf("%x is below %x and %x, and not below their Meet", c, a, b)
				}
				if Join(a, Meet(b, c)) != Meet(Join(a, b), Join(a, c)) || Meet(a, Join(b, c)) != Join(Meet(a, b), Meet(a, c)) {
					t.Errorf("%x over %x and %x is not shared out", a, b, c)
				}
			}
		}
	}
}

// P2.5

func TestParseIsBackOfText(t *testing.T) {
	for _, a := range many() {
		if b, e := Parse(Text(a)); b != a || e != api.OK {
			t.Errorf("%x: %q: %x, %d", a, Text(a), b, e)
		}
		if b, e := Of(List(a)...); b != a || e != api.OK {
			t.Errorf("%x: %v: %x, %d", a, List(a), b, e)
		}
	}
}

// formOf is a label's text, but for the order and the bound of its numbers.
var formOf = regexp.MustCompile(`^(0|[1-9][0-9]*)(\+(0|[1-9][0-9]*))*$`)

// isText says by a way of its own whether s is a label's text.
func isText(s string) bool {
	if s == "-" {
		return true
	}
	ahead := -1
	for word := range strings.SplitSeq(s, "+") {
		n, err := strconv.Atoi(word)
		if err != nil || n <= ahead || n > 63 {
			return false
		}
		ahead = n
	}
	return formOf.MatchString(s)
}

func TestTextIsBackOfParse(t *testing.T) {
	texts := map[string]bool{}
	for _, alphabet := range []string{"0136+-", "69+ ", "123+"} {
		wave := []string{""}
		for range 6 {
			var next []string
			for _, s := range wave {
				for i := range len(alphabet) {
					next = append(next, s+alphabet[i:i+1])
				}
			}
			for _, s := range next {
				texts[s] = true
			}
			wave = next
		}
	}
	for _, s := range slices.Sorted(maps.Keys(texts)) {
		a, e := Parse(s)
		switch is := isText(s); {
		case is && (e != api.OK || Text(a) != s):
			t.Errorf("%q: %x, %d", s, a, e)
		case !is && (e != api.ErrForm || a != 0):
			t.Errorf("%q: %x, %d", s, a, e)
		}
	}
}

func TestHighestAreAboveAll(t *testing.T) {
	for _, l := range lists(subsets(0, 33, 63), 4) {
		high := Highest(l)
		for i, a := range high {
			for j, b := range high {
				if i != j && Below(a, b) {
					t.Errorf("%x: of %x the one is below the other one", l, high)
				}
			}
			if !slices.Contains(l, a) {
				t.Errorf("%x: %x is none of them", l, a)
			}
		}
		for _, a := range l {
			if !slices.ContainsFunc(high, func(b api.Label) bool { return Below(a, b) }) {
				t.Errorf("%x: %x is below none of %x", l, a, high)
			}
		}
	}
}

// P2.6

func TestBetweenGoesOverJustThose(t *testing.T) {
	labels := subsets(0, 1, 30, 31, 32, 63)
	slices.Sort(labels)
	for _, a := range labels {
		for _, b := range labels {
			var want []api.Label
			for _, c := range labels {
				if a&c == a && c&b == c {
					want = append(want, c)
				}
			}
			got := collected(t, a, b)
			if !slices.Equal(got, want) {
				t.Errorf("%x, %x: %x, want %x", a, b, got, want)
			}
			if Below(a, b) && len(got) != 1<<Count(Less(b, a)) {
				t.Errorf("%x, %x: %d labels", a, b, len(got))
			}
			for i := 1; i < len(got); i++ {
				if got[i-1] >= got[i] || !Below(got[i-1], Join(got[i-1], got[i])) {
					t.Errorf("%x, %x: %x ahead of %x", a, b, got[i-1], got[i])
				}
			}
		}
	}
}

func TestBetweenOfManyCompartments(t *testing.T) {
	for _, x := range [][]int{{0, 1, 2, 3}, {60, 61, 62, 63}, {0, 9, 18, 27, 36, 45, 54, 63}, {1, 4, 9, 16, 25, 36, 49, 50, 51, 52, 53, 54, 55, 56, 57, 63}} {
		free := must(t, x...)
		for _, a := range []api.Label{0, all &^ free, 0x5555555555555555 &^ free} {
			want := subsets(x...)
			for i := range want {
				want[i] |= a
			}
			if got := collected(t, a, a|free); !slices.Equal(got, want) {
				t.Errorf("%x and %v: %d labels, want %d", a, x, len(got), len(want))
			}
		}
	}
}
