package diff

import (
	"math"
	"math/rand"
	"slices"
	"strconv"
	"strings"
	"testing"

	"scrim/api"
)

// letters are the text's bytes, a text each.
func letters(s string) []string {
	l := make([]string, len(s))
	for i := range l {
		l[i] = s[i : i+1]
	}
	return l
}

// words are all lists of at most most of these letters.
func words(of string, most int) [][]string {
	all := [][]string{nil}
	for from := 0; len(all[from]) < most; from++ {
		for _, x := range letters(of) {
			all = append(all, append(slices.Clone(all[from]), x))
		}
	}
	return all
}

// some are as many texts, each one of a few.
func some(dice *rand.Rand, n, few int) []string {
	l := make([]string, n)
	for i := range l {
		l[i] = strconv.Itoa(dice.Intn(few))
	}
	return l
}

// rows are as many texts, each with the word ahead of its place, so that those of unlike words are unlike.
func rows(word string, n int) []string {
	l := make([]string, n)
	for i := range l {
		l[i] = word + strconv.Itoa(i)
	}
	return l
}

// lists are such of which each is held against each other one.
func lists() [][]string {
	dice := rand.New(rand.NewSource(7))
	l := append(words("ab", 4), words("xyz", 3)...)
	l = append(l, letters("abcdefgh"), letters("hgfedcba"), letters("aabbccdd"), []string{"", "", ""}, []string{"a", "", "a\nb", "\x00\xff", strings.Repeat("x", 1000)}, []string{"ab"}, []string{"a", "", "b"}, []string{"a ", "A", "a"}, []string{"a\x00", " a", "a\r", "a"})
	for _, n := range []int{9, 20, 33} {
		for _, few := range []int{2, 5, 40} {
			l = append(l, some(dice, n, few))
		}
	}
	return l
}

// all calls with each two lists, also with such as begin and end with the same texts.
func all(do func(a, b []string)) {
	l := lists()
	for i, a := range l {
		for j, b := range l {
			do(a, b)
			ahead, behind := l[(i+j)%len(l)], l[(i*j+3)%len(l)]
			do(slices.Concat(ahead, a, behind), slices.Concat(ahead, b, behind))
		}
	}
}

// edges are by the chapter's words how many texts two lists begin and end with.
func edges(a, b []string) (ahead, behind int) {
	for n := range min(len(a), len(b)) + 1 {
		if slices.Equal(a[:n], b[:n]) {
			ahead = n
		}
	}
	a, b = a[ahead:], b[ahead:]
	for n := range min(len(a), len(b)) + 1 {
		if slices.Equal(a[len(a)-n:], b[len(b)-n:]) {
			behind = n
		}
	}
	return ahead, behind
}

// longest is how many texts of two lists can stay, found from their ends on.
func longest(a, b []string) int {
	row := make([]int, len(b)+1)
	for _, x := range a {
		was := 0
		for j, y := range b {
			is := row[j+1]
			if x == y {
				row[j+1] = was + 1
			} else {
				row[j+1] = max(is, row[j])
			}
			was = is
		}
	}
	return row[len(b)]
}

// subsequences are all lists that are left when some of the texts are taken out.
func subsequences(l []string) [][]string {
	var all [][]string
	for set := range 1 << len(l) {
		var some []string
		for i, x := range l {
			if set>>i&1 == 1 {
				some = append(some, x)
			}
		}
		all = append(all, some)
	}
	return all
}

// leftOf tells whether a list is one of those that are left when some texts of the other one are taken out.
func leftOf(some, l []string) bool {
	for _, x := range l {
		if len(some) > 0 && some[0] == x {
			some = some[1:]
		}
	}
	return len(some) == 0
}

// stays is what stays, by the chapter's words.
func stays(a, b []string) [][2]int {
	ahead, behind := edges(a, b)
	m, n := len(a)-behind, len(b)-behind
	var pairs [][2]int
	for i := range ahead {
		pairs = append(pairs, [2]int{i, i})
	}
	i, j := ahead, ahead
	for (m-ahead)*(n-ahead) <= 1048576 && i < m && j < n {
		if a[i] == b[j] {
			pairs = append(pairs, [2]int{i, j})
			i, j = i+1, j+1
		} else if longest(a[i+1:m], b[j:n]) >= longest(a[i:m], b[j+1:n]) {
			i++
		} else {
			j++
		}
	}
	for k := range behind {
		pairs = append(pairs, [2]int{m + k, n + k})
	}
	return pairs
}

// same tells whether two patches are the same.
func same(p, q []api.Hunk) bool {
	return slices.EqualFunc(p, q, func(x, y api.Hunk) bool {
		return x.At == y.At && slices.Equal(x.Old, y.Old) && slices.Equal(x.New, y.New)
	})
}

// applied is a patch applied to texts, if its hunks are a patch's and it fits; else false.
func applied(texts []string, p []api.Hunk) ([]string, bool) {
	var l []string
	done := 0
	for i, h := range p {
		end := h.At + len(h.Old)
		if len(h.Old)+len(h.New) == 0 || h.At < done || i > 0 && h.At == done || end > len(texts) || !slices.Equal(texts[h.At:end], h.Old) {
			return nil, false
		}
		l = append(append(l, texts[done:h.At]...), h.New...)
		done = end
	}
	return append(l, texts[done:]...), true
}

// P7.1

func TestEdgesOfExamples(t *testing.T) {
	for _, x := range []struct {
		a, b          string
		ahead, behind int
	}{
		{"abc", "axc", 1, 1},
		{"aa", "a", 1, 0},
		{"a", "aa", 1, 0},
		{"", "a", 0, 0},
		{"a", "", 0, 0},
		{"", "", 0, 0},
		{"abc", "abc", 3, 0},
		{"aba", "aa", 1, 1},
		{"aaaa", "aaa", 3, 0},
		{"abab", "ab", 2, 0},
		{"xab", "ab", 0, 2},
		{"abcab", "abab", 2, 2},
		{"ab", "ba", 0, 0},
	} {
		if ahead, behind := Edges(letters(x.a), letters(x.b)); ahead != x.ahead || behind != x.behind {
			t.Errorf("%s, %s: %d, %d", x.a, x.b, ahead, behind)
		}
	}
}

func TestEdges(t *testing.T) {
	all(func(a, b []string) {
		ahead, behind := edges(a, b)
		if x, y := Edges(a, b); x != ahead || y != behind {
			t.Errorf("%q, %q: %d, %d, not %d, %d", a, b, x, y, ahead, behind)
		}
	})
}

func TestCommonOfExamples(t *testing.T) {
	for _, x := range []struct {
		a, b string
		want [][2]int
	}{
		{"abc", "axc", [][2]int{{0, 0}, {2, 2}}},
		{"ab", "ba", [][2]int{{1, 0}}},
		{"", "abc", nil},
		{"abc", "", nil},
		{"", "", nil},
		{"ab", "ab", [][2]int{{0, 0}, {1, 1}}},
		{"abcd", "bd", [][2]int{{1, 0}, {3, 1}}},
		{"bd", "abcd", [][2]int{{0, 1}, {1, 3}}},
		{"aa", "a", [][2]int{{0, 0}}},
		// The first list grows where both are as good, the second one where it alone is better.
		{"abx", "bay", [][2]int{{1, 0}}},
		{"abcx", "cabcy", [][2]int{{0, 1}, {1, 2}, {2, 3}}},
		// What is the same stays at once.
		{"xaby", "uabav", [][2]int{{1, 1}, {2, 2}}},
	} {
		if got := Common(letters(x.a), letters(x.b)); !slices.Equal(got, x.want) {
			t.Errorf("%s, %s: %v, not %v", x.a, x.b, got, x.want)
		}
	}
}

func TestCommon(t *testing.T) {
	all(func(a, b []string) {
		if got, want := Common(a, b), stays(a, b); !slices.Equal(got, want) {
			t.Errorf("%q, %q: %v, not %v", a, b, got, want)
		}
	})
}

func TestCommonOfAllShortLists(t *testing.T) {
	l := words("abc", 4)
	for _, a := range l {
		for _, b := range l {
			if got, want := Common(a, b), stays(a, b); !slices.Equal(got, want) {
				t.Errorf("%q, %q: %v, not %v", a, b, got, want)
			}
		}
	}
}

// middles are two lists with that many texts in their middles, one of which is in both, between the same two texts ahead and one behind.
func middles(m, n int) (a, b []string) {
	a, b = rows("a", m), rows("b", n)
	a[m/2], b[n/3] = "both", "both"
	return slices.Concat([]string{"h", "i"}, a, []string{"t"}), slices.Concat([]string{"h", "i"}, b, []string{"t"})
}

func TestMaxWork(t *testing.T) {
	if MaxWork != 1048576 {
		t.Errorf("MaxWork: %d", MaxWork)
	}
	for _, x := range []struct {
		m, n int
		stay bool
	}{
		{1024, 1024, true},
		{1024, 1025, false},
		{1025, 1024, false},
		{1025, 1023, true},
		{1023, 1025, true},
		{3, 349525, true},
		{3, 349526, false},
		{349525, 3, true},
		{349526, 3, false},
		{2048, 512, true},
		{2048, 513, false},
		{5000, 5000, false},
	} {
		a, b := middles(x.m, x.n)
		end := [2]int{len(a) - 1, len(b) - 1}
		want := [][2]int{{0, 0}, {1, 1}, {2 + x.m/2, 2 + x.n/3}, end}
		if !x.stay {
			want = [][2]int{{0, 0}, {1, 1}, end}
		}
		if got := Common(a, b); !slices.Equal(got, want) {
			t.Errorf("%d, %d: %v, not %v", x.m, x.n, got, want)
		}
		if got := Lines(a, b); len(got) != len(want)-2 {
			t.Errorf("%d, %d: %d hunks", x.m, x.n, len(got))
		}
	}
}

func TestMaxWorkOfOneAgainstMany(t *testing.T) {
	for _, x := range []struct {
		n    int
		want int
	}{{MaxWork, 1}, {MaxWork + 1, 0}} {
		many := slices.Repeat([]string{"a"}, x.n)
		many[x.n/2] = "both"
		one := []string{"both"}
		if got, back := Common(one, many), Common(many, one); len(got) != x.want || len(back) != x.want || x.want == 1 && (got[0] != [2]int{0, x.n / 2} || back[0] != [2]int{x.n / 2, 0}) {
			t.Errorf("%d: %v, %v", x.n, got, back)
		}
	}
}

// What both lists begin and end with is not of the middles: it stays, however long it is.
func TestMaxWorkIsOfTheMiddles(t *testing.T) {
	ahead, behind := rows("h", 3000), rows("t", 2000)
	a := slices.Concat(ahead, letters("xby"), behind)
	b := slices.Concat(ahead, letters("ubv"), behind)
	got := Common(a, b)
	if len(got) != 5001 || got[3000] != [2]int{3001, 3001} {
		t.Errorf("%d stay", len(got))
	}
	for i, p := range got {
		if p[0] != p[1] || i < 3000 && p[0] != i || i > 3000 && p[0] != i+2 {
			t.Errorf("%d: %v", i, p)
		}
	}
	if p := Lines(a, b); !same(p, []api.Hunk{{At: 3000, Old: []string{"x"}, New: []string{"u"}}, {At: 3002, Old: []string{"y"}, New: []string{"v"}}}) {
		t.Errorf("%v", p)
	}
}

// P7.2

func TestLinesOfExamples(t *testing.T) {
	hunk := func(at int, old, new string) api.Hunk {
		return api.Hunk{At: at, Old: letters(old), New: letters(new)}
	}
	for _, x := range []struct {
		a, b string
		want []api.Hunk
	}{
		{"abc", "axc", []api.Hunk{hunk(1, "b", "x")}},
		{"ab", "ab", nil},
		{"", "a", []api.Hunk{hunk(0, "", "a")}},
		{"a", "", []api.Hunk{hunk(0, "a", "")}},
		{"", "", nil},
		{"abcd", "bd", []api.Hunk{hunk(0, "a", ""), hunk(2, "c", "")}},
		{"ab", "ba", []api.Hunk{hunk(0, "a", ""), hunk(2, "", "a")}},
		{"ab", "abc", []api.Hunk{hunk(2, "", "c")}},
		{"ab", "cd", []api.Hunk{hunk(0, "ab", "cd")}},
		{"bd", "abcde", []api.Hunk{hunk(0, "", "a"), hunk(1, "", "c"), hunk(2, "", "e")}},
		{"aa", "a", []api.Hunk{hunk(1, "a", "")}},
	} {
		if got := Lines(letters(x.a), letters(x.b)); !same(got, x.want) {
			t.Errorf("%s, %s: %v, not %v", x.a, x.b, got, x.want)
		}
	}
	if old, new := Size(Lines(letters("ab"), letters("ba"))); old != 1 || new != 1 {
		t.Errorf("Size: %d, %d", old, new)
	}
}

// gaps are the hunks of what stands between what stays, told place by place.
func gaps(a, b []string) []api.Hunk {
	of := map[int]int{}
	for _, p := range stays(a, b) {
		of[p[0]] = p[1]
	}
	var p []api.Hunk
	h, j := api.Hunk{}, 0
	for i := range len(a) + 1 {
		at, stays := of[i]
		if i == len(a) {
			at = len(b)
		} else if !stays {
			h.Old = append(h.Old, a[i])
			continue
		}
		h.New = b[j:at]
		if len(h.Old)+len(h.New) > 0 {
			p = append(p, h)
		}
		h, j = api.Hunk{At: i + 1}, at+1
	}
	return p
}

func TestLines(t *testing.T) {
	all(func(a, b []string) {
		if got, want := Lines(a, b), gaps(a, b); !same(got, want) {
			t.Errorf("%q, %q: %v, not %v", a, b, got, want)
		}
	})
}

func TestSizeOfAnyHunks(t *testing.T) {
	for _, x := range []struct {
		l        []api.Hunk
		old, new int
	}{
		{nil, 0, 0},
		{[]api.Hunk{}, 0, 0},
		{[]api.Hunk{{}}, 0, 0},
		{[]api.Hunk{{At: 1, Old: letters("a"), New: letters("bc")}}, 1, 2},
		{[]api.Hunk{{At: -5, Old: letters("abc")}, {At: -5, New: letters("d")}, {}, {At: math.MaxInt, Old: []string{"", "\n"}, New: []string{strings.Repeat("x", 1000)}}}, 5, 2},
		{slices.Repeat([]api.Hunk{{At: math.MinInt, Old: letters("ab"), New: letters("c")}}, 1000), 2000, 1000},
	} {
		if old, new := Size(x.l); old != x.old || new != x.new {
			t.Errorf("%v: %d, %d", x.l, old, new)
		}
	}
}

// P7.3

func TestItFits(t *testing.T) {
	all(func(a, b []string) {
		p := Lines(a, b)
		if got, fits := applied(a, p); !fits || !slices.Equal(got, b) {
			t.Errorf("%q, %q: %v: %q, %t", a, b, p, got, fits)
		}
		if (len(p) == 0) != slices.Equal(a, b) {
			t.Errorf("%q, %q: %v", a, b, p)
		}
		stay := len(Common(a, b))
		if old, new := Size(p); old != len(a)-stay || new != len(b)-stay {
			t.Errorf("%q, %q: %d, %d of %v", a, b, old, new, p)
		}
	})
}

func TestItFitsWhereNoMiddleStays(t *testing.T) {
	a, b := middles(1500, 900)
	p := Lines(a, b)
	if got, fits := applied(a, p); !fits || !slices.Equal(got, b) || len(p) != 1 || p[0].At != 2 {
		t.Errorf("%d hunks", len(p))
	}
	if old, new := Size(p); old != 1500 || new != 900 {
		t.Errorf("%d, %d", old, new)
	}
}

// P7.4

func TestNoMoreThanNeeded(t *testing.T) {
	all(func(a, b []string) {
		ahead, behind := edges(a, b)
		if old, new := Size(Lines(a, b)); old > len(a)-ahead-behind || new > len(b)-ahead-behind {
			t.Errorf("%q, %q: %d, %d", a, b, old, new)
		}
		pairs := Common(a, b)
		for i, p := range pairs {
			if i > 0 && (p[0] <= pairs[i-1][0] || p[1] <= pairs[i-1][1]) || a[p[0]] != b[p[1]] {
				t.Errorf("%q, %q: %v", a, b, pairs)
			}
		}
		if back := Common(b, a); len(back) != len(pairs) || len(pairs) != longest(a, b) {
			t.Errorf("%q, %q: %v, %v", a, b, pairs, back)
		}
	})
}

func TestNoPairsAreMore(t *testing.T) {
	l := words("ab", 5)
	for _, a := range l {
		for _, b := range l {
			most := 0
			for _, some := range subsequences(a) {
				if leftOf(some, b) {
					most = max(most, len(some))
				}
			}
			if got := Common(a, b); len(got) != most {
				t.Errorf("%q, %q: %v, not %d", a, b, got, most)
			}
		}
	}
}

func TestAsManyTurnedAboutAtMaxWork(t *testing.T) {
	dice := rand.New(rand.NewSource(74))
	a := slices.Concat([]string{"a"}, some(dice, 1022, 50), []string{"a"})
	b := slices.Concat([]string{"b"}, some(dice, 1022, 50), []string{"b"})
	most := longest(a, b)
	if got, back := Common(a, b), Common(b, a); len(got) != most || len(back) != most {
		t.Errorf("%d, %d, not %d", len(got), len(back), most)
	}
}

// P7.5

func TestOtherTexts(t *testing.T) {
	all(func(a, b []string) {
		others := map[string]string{}
		other := func(l []string) []string {
			var m []string
			for _, x := range l {
				if _, known := others[x]; !known {
					// The later a text is found, the lesser and longer is its other one.
					others[x] = strings.Repeat("a", len(others))
				}
				m = append(m, others[x])
			}
			return m
		}
		c, d := other(a), other(b)
		if got, want := Common(c, d), Common(a, b); !slices.Equal(got, want) {
			t.Errorf("%q, %q: %v, of others %v", a, b, want, got)
		}
		p, q := Lines(a, b), Lines(c, d)
		for i := range p {
			p[i].Old, p[i].New = other(p[i].Old), other(p[i].New)
		}
		if !same(p, q) {
			t.Errorf("%q, %q: %v, of others %v", a, b, p, q)
		}
	})
}

// The rules that hold everywhere

func TestNilIsAsEmpty(t *testing.T) {
	for _, a := range [][]string{nil, {}} {
		for _, b := range [][]string{nil, {}} {
			if ahead, behind := Edges(a, b); ahead != 0 || behind != 0 || len(Common(a, b)) != 0 || len(Lines(a, b)) != 0 {
				t.Errorf("%#v, %#v", a, b)
			}
		}
		if p := Lines(a, letters("x")); !same(p, []api.Hunk{{New: letters("x")}}) {
			t.Errorf("%v", p)
		}
		if p := Lines(letters("x"), a); !same(p, []api.Hunk{{Old: letters("x")}}) {
			t.Errorf("%v", p)
		}
	}
}

func TestWhatIsHandedInIsNotChangedAndNotKept(t *testing.T) {
	roomA, roomB := letters("xbcyab"), letters("ubdvab")
	wasA, wasB := slices.Clone(roomA), slices.Clone(roomB)
	a, b := roomA[:4], roomB[:4]
	ahead, behind := Edges(a, b)
	pairs, p := Common(a, b), Lines(a, b)
	if !slices.Equal(roomA, wasA) || !slices.Equal(roomB, wasB) {
		t.Errorf("changed: %q, %q", roomA, roomB)
	}
	for i := range roomA {
		roomA[i], roomB[i] = "seven", "eight"
	}
	// Were the room behind read, both would end with a and b.
	if ahead != 0 || behind != 0 || !slices.Equal(pairs, [][2]int{{1, 1}}) {
		t.Errorf("%d, %d, %v", ahead, behind, pairs)
	}
	want := []api.Hunk{{At: 0, Old: letters("x"), New: letters("u")}, {At: 2, Old: letters("cy"), New: letters("dv")}}
	if !same(p, want) {
		t.Errorf("kept: %v", p)
	}
	Size(p)
	if !same(p, want) {
		t.Errorf("changed: %v", p)
	}
}

// spoilt writes over a list, its spare room too, and tells what it was.
func spoilt[T any](l []T, with T) []T {
	was := slices.Clone(l)
	l = l[:cap(l)]
	for i := range l {
		l[i] = with
	}
	return was
}

func TestWhatIsHandedOutIsNew(t *testing.T) {
	all(func(a, b []string) {
		wasA, wasB := slices.Clone(a), slices.Clone(b)
		pairs, p := stays(a, b), gaps(a, b)
		for range 2 {
			if got := spoilt(Common(a, b), [2]int{7, 7}); !slices.Equal(got, pairs) {
				t.Errorf("%q, %q: %v, not %v", a, b, got, pairs)
			}
			// Each list of the answer is as it was, when all ahead of it have been written over.
			got := Lines(a, b)
			for i, h := range got {
				if old := spoilt(h.Old, "seven"); !slices.Equal(old, p[i].Old) {
					t.Errorf("%q, %q: %q, not %q", a, b, old, p[i].Old)
				}
				if new := spoilt(h.New, "seven"); !slices.Equal(new, p[i].New) {
					t.Errorf("%q, %q: %q, not %q", a, b, new, p[i].New)
				}
			}
			spoilt(got, api.Hunk{At: 7})
			if !slices.Equal(a, wasA) || !slices.Equal(b, wasB) {
				t.Fatalf("%q, %q, not %q, %q", a, b, wasA, wasB)
			}
		}
	})
}

func TestLongListsEnd(t *testing.T) {
	many := rows("m", 1<<21)
	for _, l := range [][]string{nil, many[:1<<20], many[1<<20:]} {
		stay := len(l)
		if got, back := Common(many, l), Common(l, many); len(got) != stay || len(back) != stay {
			t.Errorf("%d: %d, %d stay", stay, len(got), len(back))
		}
		if got := Lines(many, l); len(got) != 1 || len(got[0].Old) != len(many)-stay || len(got[0].New) != 0 {
			t.Errorf("%d: %d hunks", stay, len(got))
		}
	}
	if p := Lines(many, slices.Clone(many)); len(p) != 0 {
		t.Errorf("%d hunks", len(p))
	}
}

// Texts that begin with the same bytes, however many, are held against each other as soon as short ones.
func TestLongTextsEnd(t *testing.T) {
	long := strings.Repeat("x", 1<<15)
	a, b := rows(long+"a", 1024), rows(long+"b", 1024)
	a[1], b[1022] = long+"both", long+"both"
	if got := Common(a, b); !slices.Equal(got, [][2]int{{1, 1022}}) {
		t.Errorf("%v", got)
	}
}
