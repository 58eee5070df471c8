package lines

import (
	"math"
	"regexp"
	"slices"
	"strconv"
	"strings"
	"testing"

	"scrim/api"
)

// allTexts are all texts of at most n letters of an alphabet.
func allTexts(alphabet string, n int) []string {
	all := []string{""}
	for from := 0; n > 0; n-- {
		to := len(all)
		for _, s := range all[from:to] {
			for i := range len(alphabet) {
				all = append(all, s+alphabet[i:i+1])
			}
		}
		from = to
	}
	return all
}

// allLists are all lists of at most n of the texts.
func allLists(texts []string, n int) [][]string {
	all := [][]string{nil}
	for from := 0; n > 0; n-- {
		to := len(all)
		for _, l := range all[from:to] {
			for _, s := range texts {
				all = append(all, append(slices.Clone(l), s))
			}
		}
		from = to
	}
	return all
}

// P1.1

func TestCheck(t *testing.T) {
	for _, x := range []struct {
		name string
		l    api.Line
		want api.Errno
	}{
		{"ordinary", api.Line{N: 1, Text: "x"}, api.OK},
		{"any label", api.Line{Label: math.MaxUint64, N: 1, Text: "x"}, api.OK},
		{"no bytes", api.Line{N: 1}, api.OK},
		{"greatest N", api.Line{N: 1 << 62}, api.OK},
		{"greatest Rev", api.Line{N: 1, Rev: 1 << 62}, api.OK},
		{"longest text", api.Line{N: 1, Text: strings.Repeat("a", api.MaxText)}, api.OK},
		{"zero line", api.Line{}, api.ErrLine},
		{"N 0", api.Line{N: 0, Text: "x"}, api.ErrLine},
		{"N -1", api.Line{N: -1, Text: "x"}, api.ErrLine},
		{"least N", api.Line{N: math.MinInt, Text: "x"}, api.ErrLine},
		{"N too great", api.Line{N: 1<<62 + 1, Text: "x"}, api.ErrLine},
		{"N far too great", api.Line{N: math.MaxInt, Text: "x"}, api.ErrLine},
		{"Rev -1", api.Line{N: 1, Rev: -1, Text: "x"}, api.ErrLine},
		{"least Rev", api.Line{N: 1, Rev: math.MinInt, Text: "x"}, api.ErrLine},
		{"Rev too great", api.Line{N: 1, Rev: 1<<62 + 1, Text: "x"}, api.ErrLine},
		{"Rev far too great", api.Line{N: 1, Rev: math.MaxInt, Text: "x"}, api.ErrLine},
		{"text too long", api.Line{N: 1, Text: strings.Repeat("a", api.MaxText+1)}, api.ErrLine},
		{"0A", api.Line{N: 1, Text: "\n"}, api.ErrLine},
		{"0A within", api.Line{N: 1, Text: "a\nb"}, api.ErrLine},
	} {
		if e := Check(x.l); e != x.want {
			t.Errorf("%s: %d, want %d", x.name, e, x.want)
		}
	}
}

func TestText(t *testing.T) {
	for _, s := range []string{
		"", "x", " ", "\r", "\x00", "\xff\xfe", "\u2028",
		strings.Repeat("a", 256),
		strings.Repeat("\u00e9", 128),
		strings.Repeat("\xff", 256),
	} {
		if !Text(s) {
			t.Errorf("%q may not be", s)
		}
	}
	for _, s := range []string{
		"\n", "a\n", "\na", "a\nb", "\r\n", "\xff\n",
		strings.Repeat("a", 257),
		strings.Repeat("\u00e9", 128) + "a",
		strings.Repeat("a", 255) + "\n",
		strings.Repeat("a", 1<<20),
	} {
		if Text(s) {
			t.Errorf("%q may be", s)
		}
	}
}

func TestName(t *testing.T) {
	const letters = "abcdefghijklmnopqrstuvwxyz0123456789-_"
	for i := range 256 {
		s := string([]byte{byte(i)})
		want := strings.Contains(letters, s)
		for _, x := range []string{s, "a" + s, s + "a", "a" + s + "a"} {
			if Name(x) != want {
				t.Errorf("%q: %v, want %v", x, !want, want)
			}
		}
	}
	for _, s := range []string{"a-1_z", "-", "_", "0", letters[:32], letters[len(letters)-32:]} {
		if !Name(s) {
			t.Errorf("%q is no name", s)
		}
	}
	for _, s := range []string{"", "A", "\u00e9", "\u0661", "a b", "a\n", letters[:33], strings.Repeat("a", 1<<20)} {
		if Name(s) {
			t.Errorf("%q is a name", s)
		}
	}
}

func TestSame(t *testing.T) {
	x := api.Line{Label: 1, N: 2, Rev: 3, Text: "x"}
	list := func(l ...api.Line) []api.Line { return l }
	unlike := []api.Line{
		{Label: 2, N: 2, Rev: 3, Text: "x"},
		{Label: 1, N: 3, Rev: 3, Text: "x"},
		{Label: 1, N: 2, Rev: 4, Text: "x"},
		{Label: 1, N: 2, Rev: 3, Text: "y"},
	}
	for _, l := range [][]api.Line{nil, {x}, {x, x}, unlike} {
		if !Same(l, slices.Clone(l)) {
			t.Errorf("%+v is not the same as itself", l)
		}
	}
	if !Same(nil, list()) || !Same([]api.Line{}, nil) {
		t.Error("an empty list is not the same as none")
	}
	for _, y := range unlike {
		for _, l := range [][2][]api.Line{
			{list(x), list(y)},
			{list(x, x), list(x, y)},
			{list(x, x), list(y, x)},
			{list(x, y), list(y, x)},
			{list(x, y), list(x)},
			{list(y), nil},
		} {
			if Same(l[0], l[1]) || Same(l[1], l[0]) {
				t.Errorf("%+v is the same as %+v", l[0], l[1])
			}
		}
	}
	long := list(x, unlike[0])
	if !Same(long[:1], list(x)) {
		t.Error("a list is read beyond its length")
	}
}

func TestTexts(t *testing.T) {
	l := []api.Line{{N: 1, Text: "b"}, {N: 2}, {N: 3, Text: "a"}, {Text: "\n"}}
	want := []string{"b", "", "a", "\n"}
	got := Texts(l)
	if !slices.Equal(got, want) {
		t.Errorf("%q, want %q", got, want)
	}
	if len(Texts(nil)) != 0 || len(Texts([]api.Line{})) != 0 {
		t.Error("no lines have texts")
	}
	_ = append(got[:1], "z", "z", "z", "z", "z")
	if l[1].Text != "" || !slices.Equal(Texts(l), want) {
		t.Error("what is handed out is not new")
	}
}

// P1.2

func TestNumber(t *testing.T) {
	for _, x := range []struct {
		n    int
		want string
	}{
		{0, "0"}, {1, "1"}, {-1, "-1"}, {9, "9"}, {10, "10"}, {-12, "-12"}, {1000, "1000"},
		{math.MaxInt64, "9223372036854775807"},
		{math.MinInt64, "-9223372036854775808"},
	} {
		if s := Number(x.n); s != x.want {
			t.Errorf("%q, want %q", s, x.want)
		}
		if n, e := Read(x.want); n != x.n || e != api.OK {
			t.Errorf("%q: %d, %d", x.want, n, e)
		}
	}
}

func TestReadRefuses(t *testing.T) {
	for _, s := range []string{
		"", "-", "--1", "-0", "00", "01", "012", "-01", "+1", "+0", " 1", "1 ", "1\n", "1-", "1.0", "1e1", "0x1", "1_0", "a",
		"9223372036854775808", "-9223372036854775809",
		"9999999999999999999", "-9999999999999999999",
		"18446744073709551615", "18446744073709551616", "18446744073709551617", "-18446744073709551617",
		"340282366920938463463374607431768211457",
		"09223372036854775807",
		"\u0661", "1\u0661", "\uff11", "\xff", "1\xff", "\x001",
		strings.Repeat("9", 1<<20), strings.Repeat("0", 1<<20), "-" + strings.Repeat("1", 1<<20),
	} {
		if n, e := Read(s); n != 0 || e != api.ErrForm {
			t.Errorf("%.40q: %d, %d", s, n, e)
		}
	}
}

func TestTake(t *testing.T) {
	for _, x := range []struct {
		s    string
		n    int
		rest string
	}{
		{"12:ab", 12, ":ab"}, {"0x1", 0, "x1"}, {"0", 0, ""}, {"7", 7, ""}, {"-7 ", -7, " "},
		{"0-1", 0, "-1"}, {"-1-1", -1, "-1"}, {"1+1", 1, "+1"}, {"3 012", 3, " 012"}, {"5\n", 5, "\n"},
		{"1\u0661", 1, "\u0661"}, {"1\xff2", 1, "\xff2"}, {"1\x002", 1, "\x002"}, {"4\ufffd", 4, "\ufffd"},
		{"9223372036854775807.", math.MaxInt64, "."},
		{"-9223372036854775808.", math.MinInt64, "."},
	} {
		n, rest, e := Take(x.s)
		if n != x.n || rest != x.rest || e != api.OK {
			t.Errorf("%q: %d, %q, %d, want %d, %q", x.s, n, rest, e, x.n, x.rest)
		}
	}
	for _, s := range []string{
		"", "-", "-x", "--1", "00", "00x", "01", "01x", "-0", "-0x", "-00", "-01:", "+1", " 1", ":1", "x1", "\xff1", "\u0661",
		"9223372036854775808", "9223372036854775808.", "-9223372036854775809x", "18446744073709551617:", "99999999999999999999999999x",
	} {
		n, rest, e := Take(s)
		if n != 0 || rest != "" || e != api.ErrForm {
			t.Errorf("%q: %d, %q, %d", s, n, rest, e)
		}
	}
}

// P1.3

func TestShow(t *testing.T) {
	for _, x := range [][2]string{
		{"hi", "2:hi"}, {"", "0:"}, {"1:a", "3:1:a"}, {"\n", "1:\n"}, {"\u00e9", "2:\u00e9"}, {"\xff", "1:\xff"}, {"0123456789", "10:0123456789"},
	} {
		if s := Show(x[0]); s != x[1] {
			t.Errorf("%q: %q, want %q", x[0], s, x[1])
		}
	}
}

func TestShown(t *testing.T) {
	for _, x := range [][3]string{
		{"2:hi!", "hi", "!"}, {"2:hi", "hi", ""}, {"0:", "", ""}, {"0:1:a", "", "1:a"}, {"3:1:a2:bc", "1:a", "2:bc"}, {"2:\n\n\n", "\n\n", "\n"},
		{"1:\u00e9", "\xc3", "\xa9"}, {"1:::", ":", ":"}, {"10:0123456789a", "0123456789", "a"},
	} {
		text, rest, e := Shown(x[0])
		if text != x[1] || rest != x[2] || e != api.OK {
			t.Errorf("%q: %q, %q, %d", x[0], text, rest, e)
		}
	}
	for _, s := range []string{
		"", ":", ":a", "0", "2", "2hi", "2 :hi", " 2:hi", "3:hi", "1:", "-1:", "-1:a", "-0:", "00:", "02:hi", "+2:hi", "a:a", "2;hi", "x2:hi",
		"9223372036854775807:a", "-9223372036854775808:a", "9223372036854775808:a", "18446744073709551617:a", "18446744073709551616:",
	} {
		text, rest, e := Shown(s)
		if text != "" || rest != "" || e != api.ErrForm {
			t.Errorf("%q: %q, %q, %d", s, text, rest, e)
		}
	}
}

// P1.4

func TestJoined(t *testing.T) {
	for _, x := range []struct {
		l    []string
		want string
	}{
		{nil, ""}, {[]string{}, ""}, {[]string{""}, "\n"}, {[]string{"a"}, "a\n"}, {[]string{"a", "", "b"}, "a\n\nb\n"},
		{[]string{"", ""}, "\n\n"}, {[]string{"a\nb"}, "a\nb\n"}, {[]string{"\xff"}, "\xff\n"},
		{[]string{strings.Repeat("a", 1000), "b"}, strings.Repeat("a", 1000) + "\nb\n"},
	} {
		if s := Joined(x.l); s != x.want {
			t.Errorf("%q: %q, want %q", x.l, s, x.want)
		}
	}
	l := []string{"a", "b", "c"}
	if s := Joined(l[:2]); s != "a\nb\n" || !slices.Equal(l, []string{"a", "b", "c"}) {
		t.Error("a list is read beyond its length, or changed")
	}
}

func TestCut(t *testing.T) {
	for _, x := range []struct {
		s    string
		want []string
	}{
		{"", nil}, {"\n", []string{""}}, {"a\n", []string{"a"}}, {"a\n\nb\n", []string{"a", "", "b"}}, {"\n\n", []string{"", ""}},
		{"a\r\n", []string{"a\r"}}, {"\xff\x00\n", []string{"\xff\x00"}},
		{strings.Repeat("a", 1000) + "\n", []string{strings.Repeat("a", 1000)}},
	} {
		if l, e := Cut(x.s); e != api.OK || !slices.Equal(l, x.want) {
			t.Errorf("%q: %q, %d, want %q", x.s, l, e, x.want)
		}
	}
	for _, s := range []string{"a", " ", "a\nb", "\na", "a\n\nb", "a\n ", "a\r", "\x00"} {
		if l, e := Cut(s); e != api.ErrForm || len(l) != 0 {
			t.Errorf("%q: %q, %d", s, l, e)
		}
	}
	l, _ := Cut("a\nb\n")
	_ = append(l[:1], "z", "z", "z")
	if again, _ := Cut("a\nb\n"); !slices.Equal(again, []string{"a", "b"}) {
		t.Error("what is handed out is not new")
	}
}

// P1.5

func TestReadIsBackOfNumber(t *testing.T) {
	back := func(n int) {
		if m, e := Read(Number(n)); m != n || e != api.OK {
			t.Errorf("%d: %d, %d", n, m, e)
		}
	}
	for n := range 3000 {
		back(n)
		back(-n)
		back(math.MaxInt - n)
		back(math.MinInt + n)
	}
	for bit := range 64 {
		for d := -2; d <= 2; d++ {
			back(1<<bit + d)
			back(-1<<bit + d)
		}
	}
	for p := 1; p <= math.MaxInt/10; p *= 10 {
		for d := -1; d <= 1; d++ {
			back(p + d)
			back(-p + d)
		}
	}
}

// The library judges here, since it is not what digits are read by.
func TestEveryShortTextIsReadAsItsNumber(t *testing.T) {
	sign := regexp.MustCompile("^-?[0-9]*")
	texts := allTexts("-+019:x \n\xff", 4)
	for _, edge := range []string{"922337203685477580", "-922337203685477580", "1844674407370955161", "-1844674407370955161"} {
		for _, s := range allTexts("0156789x", 2) {
			texts = append(texts, edge+s)
		}
	}
	for _, s := range texts {
		form := sign.FindString(s)
		want, err := strconv.Atoi(form)
		taken := err == nil && strconv.Itoa(want) == form
		n, rest, e := Take(s)
		switch {
		case taken && (n != want || form+rest != s || e != api.OK):
			t.Errorf("Take %q: %d, %q, %d", s, n, rest, e)
		case !taken && (n != 0 || rest != "" || e != api.ErrForm):
			t.Errorf("Take %q: %d, %q, %d", s, n, rest, e)
		}
		n, e = Read(s)
		switch read := taken && form == s; {
		case read && (n != want || e != api.OK || Number(n) != s):
			t.Errorf("Read %q: %d, %d", s, n, e)
		case !read && (n != 0 || e != api.ErrForm):
			t.Errorf("Read %q: %d, %d", s, n, e)
		}
	}
}

func TestShownIsBackOfShow(t *testing.T) {
	texts := allTexts("01:-\n\xff", 3)
	for _, long := range []int{9, 10, 11, 99, 100, 101, 256, 65536} {
		texts = append(texts, strings.Repeat("7", long), strings.Repeat("\u00e9", long))
	}
	for _, s := range texts {
		for _, behind := range []string{"", "0", ":", "-", "1:a", "\n", "\xff", s} {
			text, rest, e := Shown(Show(s) + behind)
			if text != s || rest != behind || e != api.OK {
				t.Errorf("%.40q and %.40q: %.40q, %.40q, %d", s, behind, text, rest, e)
			}
		}
	}
}

func TestShowIsBackOfShown(t *testing.T) {
	for _, s := range allTexts("0123:-a", 5) {
		counted := false
		for i := range len(s) + 1 {
			for j := i; j <= len(s); j++ {
				counted = counted || strings.HasPrefix(s, strconv.Itoa(j-i)+":"+s[i:j])
			}
		}
		text, rest, e := Shown(s)
		switch {
		case counted && (e != api.OK || Show(text)+rest != s):
			t.Errorf("%q: %q, %q, %d", s, text, rest, e)
		case !counted && (text != "" || rest != "" || e != api.ErrForm):
			t.Errorf("%q: %q, %q, %d", s, text, rest, e)
		}
	}
}

func TestCutIsBackOfJoined(t *testing.T) {
	for _, l := range allLists([]string{"", "a", "b", "ab", "\r", "\x00", "\xff"}, 4) {
		if got, e := Cut(Joined(l)); e != api.OK || !slices.Equal(got, l) {
			t.Errorf("%q: %q, %d", l, got, e)
		}
	}
}

func TestJoinedIsBackOfCut(t *testing.T) {
	for _, s := range allTexts("ab\n", 7) {
		l, e := Cut(s)
		switch whole := s == "" || strings.HasSuffix(s, "\n"); {
		case whole && (e != api.OK || Joined(l) != s || len(l) != strings.Count(s, "\n")):
			t.Errorf("%q: %q, %d", s, l, e)
		case !whole && (e != api.ErrForm || len(l) != 0):
			t.Errorf("%q: %q, %d", s, l, e)
		}
	}
}

// P1.6

func TestCountedTextsAreApart(t *testing.T) {
	told := map[string][]string{}
	for _, l := range allLists([]string{"", "0", "1", ":", "0:", "1:", "1:1", "2:0:", "-", "\n"}, 4) {
		s := ""
		for _, x := range l {
			s += Show(x)
		}
		if other, twice := told[s]; twice {
			t.Fatalf("%q comes from %q and from %q", s, other, l)
		}
		told[s] = l
		var back []string
		for s != "" {
			text, rest, e := Shown(s)
			if e != api.OK {
				t.Fatalf("%q is not told apart: %d", l, e)
			}
			back, s = append(back, text), rest
		}
		if !slices.Equal(back, l) {
			t.Errorf("%q is told as %q", l, back)
		}
	}
}
