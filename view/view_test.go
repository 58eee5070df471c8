package view

import (
	"iter"
	"math"
	"math/rand"
	"slices"
	"strconv"
	"strings"
	"testing"

	"scrim/api"
)

// whole is the label of all 64 compartments.
const whole api.Label = math.MaxUint64

// line is one with that identity, Rev and Text.
func line(c api.Label, n, rev int, text string) api.Line {
	return api.Line{Label: c, N: n, Rev: rev, Text: text}
}

// abcde is the chapter's document: a of no compartments, b of 1, c of 2, d of 1 and 2, e of 1.
func abcde() []api.Line {
	return []api.Line{line(0, 1, 0, "a"), line(2, 1, 0, "b"), line(4, 1, 0, "c"), line(6, 1, 0, "d"), line(2, 2, 0, "e")}
}

// labels are those of which the documents' lines, and the clearances, are.
func labels() []api.Label {
	return []api.Label{0, 1, 2, 3, 4, 6, 7, 1 << 63, 1<<63 | 1, 1 << 32, whole >> 1, whole &^ 1, whole}
}

// documents are lists of lines, some of which may be no document.
func documents() [][]api.Line {
	var each, turned []api.Line
	for i, c := range labels() {
		each = append(each, line(c, 1, i, strconv.Itoa(i)))
		turned = append(turned, line(c, 2, i, "t"), line(c, 1, 0, ""))
	}
	slices.Reverse(turned)
	dice := rand.New(rand.NewSource(6))
	return [][]api.Line{
		nil,
		{},
		{line(0, 1, 0, "")},
		{line(whole, 1, 0, "a")},
		abcde(),
		each,
		turned,
		{line(2, 1, 0, "a"), line(2, 1, 0, "a"), line(2, 1, 1, "b"), line(4, 1, 0, "a")},
		{{}, line(2, -1, -1, "a\nb"), line(4, math.MinInt, math.MaxInt, strings.Repeat("x", 1000)), line(2, math.MaxInt, 0, "\x00\xff")},
		some(dice, 40),
		some(dice, 300),
	}
}

// some are as many lines of few labels, in any order.
func some(dice *rand.Rand, n int) []api.Line {
	l := make([]api.Line, n)
	for i := range l {
		l[i] = line(labels()[dice.Intn(len(labels()))], 1+i, dice.Intn(3), strconv.Itoa(dice.Intn(10)))
	}
	return l
}

// all calls with each document and each clearance.
func all(do func(doc []api.Line, c api.Label)) {
	for _, doc := range documents() {
		for _, c := range labels() {
			do(doc, c)
		}
	}
}

// below tells by a way of its own whether each compartment of a is one of b.
func below(a, b api.Label) bool {
	for i := range 64 {
		if a>>i&1 == 1 && b>>i&1 == 0 {
			return false
		}
	}
	return true
}

// parted are what c sees of a document, where it stands, and what c does not see, by a way of its own.
func parted(doc []api.Line, c api.Label) (seen []api.Line, places []int, hidden []api.Line) {
	for i, x := range doc {
		if below(x.Label, c) {
			seen, places = append(seen, x), append(places, i)
		} else {
			hidden = append(hidden, x)
		}
	}
	return seen, places, hidden
}

// gone are the places and lines that an iterator goes over.
func gone(seq iter.Seq2[int, api.Line]) (places []int, l []api.Line) {
	for i, x := range seq {
		places, l = append(places, i), append(l, x)
	}
	return places, l
}

// P6.1

func TestExamples(t *testing.T) {
	d := abcde()
	a, b, c, e := d[0], d[1], d[2], d[4]
	for _, x := range []struct {
		got, want []api.Line
	}{
		{Of(d, 2), []api.Line{a, b, e}},
		{Of(d, 0), []api.Line{a}},
		{Of(d, 6), d},
		{Hidden(d, 2), []api.Line{c, d[3]}},
	} {
		if !slices.Equal(x.got, x.want) {
			t.Errorf("%v, not %v", x.got, x.want)
		}
	}
	if got := Places(d, 2); !slices.Equal(got, []int{0, 1, 4}) {
		t.Errorf("Places: %v", got)
	}
	if !Own(2, b) || Own(2, a) {
		t.Errorf("Own: %t, %t", Own(2, b), Own(2, a))
	}
	if l := []api.Line{a, b, e}; !Alike(d, l, 2) || Alike(d, l, 4) {
		t.Errorf("Alike: %t, %t", Alike(d, l, 2), Alike(d, l, 4))
	}
	x, y, z := line(2, 7, 0, "x"), line(0, 7, 0, "y"), line(2, 8, 0, "z")
	if got, e := Put(d, 2, []api.Line{x, y, z}); e != api.OK || !slices.Equal(got, []api.Line{x, y, c, d[3], z}) {
		t.Errorf("Put: %v, %d", got, e)
	}
	if got, e := Put(d, 2, []api.Line{x}); e != api.ErrArg || len(got) != 0 {
		t.Errorf("Put: %v, %d", got, e)
	}
	if got := Labels(d); !slices.Equal(got, []api.Label{0, 2, 4, 6}) {
		t.Errorf("Labels: %v", got)
	}
}

func TestSeenAndOwn(t *testing.T) {
	for _, c := range labels() {
		for _, a := range labels() {
			for _, l := range []api.Line{line(a, 1, 0, "a"), line(a, 0, -1, "\n"), {Label: a}} {
				if got := Seen(c, l); got != below(a, c) {
					t.Errorf("Seen(%x, %v): %t", c, l, got)
				}
				if got := Own(c, l); got != (a == c) {
					t.Errorf("Own(%x, %v): %t", c, l, got)
				}
			}
		}
	}
}

func TestWhatIsSeenAndWhatIsNot(t *testing.T) {
	all(func(doc []api.Line, c api.Label) {
		seen, places, hidden := parted(doc, c)
		if got := Of(doc, c); !slices.Equal(got, seen) {
			t.Errorf("%v: Of %x: %v, not %v", doc, c, got, seen)
		}
		if got := Hidden(doc, c); !slices.Equal(got, hidden) {
			t.Errorf("%v: Hidden %x: %v, not %v", doc, c, got, hidden)
		}
		if got := Places(doc, c); !slices.Equal(got, places) {
			t.Errorf("%v: Places %x: %v, not %v", doc, c, got, places)
		}
		if at, l := gone(Each(doc, c)); !slices.Equal(at, places) || !slices.Equal(l, seen) {
			t.Errorf("%v: Each %x: %v, %v", doc, c, at, l)
		}
	})
}

func TestEachMayBeLeftAndGoneOverAgain(t *testing.T) {
	seq := Each(abcde(), 2)
	places, seen := gone(seq)
	for stop := range 5 {
		n := 0
		for range seq {
			if n == stop {
				break
			}
			n++
		}
		if n != min(stop, 3) {
			t.Errorf("left at %d: %d", stop, n)
		}
	}
	i := 0
	for at, x := range seq {
		if p, l := gone(seq); !slices.Equal(p, places) || !slices.Equal(l, seen) {
			t.Errorf("within a round: %v, %v", p, l)
		}
		if at != places[i] || x != seen[i] {
			t.Errorf("%d: %d, %v", i, at, x)
		}
		i++
	}
	if i != 3 {
		t.Errorf("%d lines", i)
	}
}

func TestEachTellsWhatWasThere(t *testing.T) {
	doc := abcde()
	seq := Each(doc, 2)
	places, seen := gone(seq)
	for i := range doc {
		doc[i] = line(api.Label(2*(i%2)), 9, 9, "nine")
	}
	if at, l := gone(seq); !slices.Equal(at, places) || !slices.Equal(l, seen) || !slices.Equal(at, []int{0, 1, 4}) {
		t.Errorf("%v, %v", at, l)
	}
	doc = abcde()
	var got []string
	for at, x := range Each(doc, 2) {
		got = append(got, x.Text)
		for i := range doc {
			doc[i] = line(4, 1, 0, "gone at "+strconv.Itoa(at))
		}
	}
	if !slices.Equal(got, []string{"a", "b", "e"}) {
		t.Errorf("%v", got)
	}
}

func TestTexts(t *testing.T) {
	for _, doc := range documents() {
		got := Texts(doc)
		if len(got) != len(doc) {
			t.Fatalf("%v: %q", doc, got)
		}
		for i, x := range doc {
			if got[i] != x.Text {
				t.Errorf("%v: %q", doc, got)
			}
		}
	}
}

// P6.2

func TestAlikeAsksEachField(t *testing.T) {
	doc := abcde()
	for i, was := range doc {
		for _, x := range []api.Line{
			{Label: was.Label | 1, N: was.N, Rev: was.Rev, Text: was.Text},
			{Label: was.Label ^ 2, N: was.N, Rev: was.Rev, Text: was.Text},
			{Label: was.Label, N: was.N + 1, Rev: was.Rev, Text: was.Text},
			{Label: was.Label, N: was.N, Rev: was.Rev + 1, Text: was.Text},
			{Label: was.Label, N: was.N, Rev: was.Rev, Text: was.Text + " "},
			{Label: was.Label, N: was.N, Rev: was.Rev, Text: ""},
		} {
			other := abcde()
			other[i] = x
			for _, c := range labels() {
				seen := below(was.Label, c) || below(x.Label, c)
				if got, back := Alike(doc, other, c), Alike(other, doc, c); got == seen || back == seen {
					t.Errorf("%v and %v for %x: %t, %t", was, x, c, got, back)
				}
			}
		}
	}
}

func TestAlikeAsksOrderAndNumber(t *testing.T) {
	d := abcde()
	for _, x := range []struct {
		l    []api.Line
		c    api.Label
		want bool
	}{
		{[]api.Line{d[1], d[0], d[2], d[3], d[4]}, 2, false},
		{[]api.Line{d[1], d[0], d[2], d[3], d[4]}, 4, true},
		{[]api.Line{d[1], d[0], d[2], d[3], d[4]}, 0, true},
		{[]api.Line{d[0], d[1]}, 2, false},
		{[]api.Line{d[0], d[1], d[4], d[4]}, 2, false},
		{[]api.Line{d[0], d[0], d[1], d[4]}, 2, false},
		{nil, 0, false},
		{nil, 6, false},
		{[]api.Line{d[0]}, 0, true},
		{[]api.Line{d[0]}, 1, true},
		{[]api.Line{d[3], d[0], d[3], d[2]}, 4, true},
		{[]api.Line{d[3], d[0], d[3], d[2]}, 6, false},
	} {
		if got, back := Alike(d, x.l, x.c), Alike(x.l, d, x.c); got != x.want || back != x.want {
			t.Errorf("%v for %x: %t, %t", x.l, x.c, got, back)
		}
	}
	if !Alike(nil, []api.Line{}, 0) || !Alike(nil, d[1:], 0) || !Alike(d[1:2], d[2:3], 1) {
		t.Error("nothing is not like nothing")
	}
}

func TestAlikeOfEachTwo(t *testing.T) {
	for _, c := range labels() {
		for _, a := range documents() {
			for _, b := range documents() {
				x, _, _ := parted(a, c)
				y, _, _ := parted(b, c)
				if got := Alike(a, b, c); got != slices.Equal(x, y) {
					t.Errorf("%v and %v for %x: %t", a, b, c, got)
				}
			}
		}
	}
}

func TestPut(t *testing.T) {
	all(func(doc []api.Line, c api.Label) {
		_, places, _ := parted(doc, c)
		put := make([]api.Line, len(places))
		for i := range put {
			// Seen or not: what is put is taken as it is.
			put[i] = line(labels()[i%len(labels())], -i, i, "put")
		}
		want := slices.Clone(doc)
		for i, at := range places {
			want[at] = put[i]
		}
		if got, e := Put(doc, c, put); e != api.OK || !slices.Equal(got, want) {
			t.Errorf("%v, %x: %v, %d, not %v", doc, c, got, e, want)
		}
	})
}

func TestPutRefuses(t *testing.T) {
	all(func(doc []api.Line, c api.Label) {
		seen, _, _ := parted(doc, c)
		refused := [][]api.Line{append(slices.Clone(seen), line(c, 99, 0, "more")), append(slices.Clone(seen), make([]api.Line, 1000)...)}
		if len(seen) > 0 {
			refused = append(refused, nil, []api.Line{}, seen[1:], seen[:len(seen)-1])
		}
		if len(seen) < len(doc) {
			refused = append(refused, doc)
		}
		for _, l := range refused {
			if got, e := Put(doc, c, l); e != api.ErrArg || len(got) != 0 {
				t.Errorf("%v, %x, %v: %v, %d", doc, c, l, got, e)
			}
		}
	})
}

func TestLabels(t *testing.T) {
	for _, doc := range documents() {
		got := Labels(doc)
		for i, a := range got {
			if i > 0 && a <= got[i-1] || !slices.ContainsFunc(doc, func(x api.Line) bool { return x.Label == a }) {
				t.Errorf("%v: %x", doc, got)
			}
		}
		for _, x := range doc {
			if !slices.Contains(got, x.Label) {
				t.Errorf("%v: %x", doc, got)
			}
		}
	}
	l := []api.Line{line(1<<63, 1, 0, ""), line(7, 1, 0, ""), line(8, 2, 0, ""), line(1<<63, 2, 0, ""), line(0, 4, 0, ""), line(whole, 1, 0, ""), line(8, 1, 0, "")}
	if got := Labels(l); !slices.Equal(got, []api.Label{0, 7, 8, 1 << 63, whole}) {
		t.Errorf("%x", got)
	}
}

// P6.3

func TestViewOfAView(t *testing.T) {
	all(func(doc []api.Line, c api.Label) {
		for _, d := range labels() {
			want := Of(doc, c&d)
			if got, back := Of(Of(doc, c), d), Of(Of(doc, d), c); !slices.Equal(got, want) || !slices.Equal(back, want) {
				t.Errorf("%v by %x and %x: %v, %v, not %v", doc, c, d, got, back, want)
			}
		}
	})
}

func TestSeenAndHiddenAreTheDocument(t *testing.T) {
	all(func(doc []api.Line, c api.Label) {
		hidden := Hidden(doc, c)
		var together []api.Line
		for at, x := range Each(doc, c) {
			n := at - len(together)
			if n < 0 || n > len(hidden) {
				t.Fatalf("%v by %x: a line at %d behind %v", doc, c, at, together)
			}
			together = append(append(together, hidden[:n]...), x)
			hidden = hidden[n:]
		}
		if together = append(together, hidden...); !slices.Equal(together, doc) {
			t.Errorf("%v by %x: %v", doc, c, together)
		}
	})
}

func TestWhoHasMoreSeesMore(t *testing.T) {
	all(func(doc []api.Line, c api.Label) {
		for _, d := range labels() {
			if !below(c, d) {
				continue
			}
			more := Of(doc, d)
			for _, x := range Of(doc, c) {
				at := slices.Index(more, x)
				if at < 0 {
					t.Fatalf("%v: %x does not see %v, or elsewhere than %x", doc, d, x, c)
				}
				more = more[at+1:]
			}
		}
	})
}

// P6.4

func TestWhatIsLeftOut(t *testing.T) {
	dice := rand.New(rand.NewSource(64))
	all(func(doc []api.Line, c api.Label) {
		// Of all that is hidden some is left out, and then all.
		part := slices.DeleteFunc(slices.Clone(doc), func(x api.Line) bool { return !below(x.Label, c) && dice.Intn(2) == 0 })
		for _, d := range labels() {
			if below(d, c) && (!Alike(doc, part, d) || !Alike(doc, Of(doc, c), d) || !Alike(Of(doc, c), part, d)) {
				t.Errorf("%v, %v and what %x sees of it are unlike for %x", doc, part, c, d)
			}
		}
	})
}

func TestWhatIsHiddenChangesNoView(t *testing.T) {
	dice := rand.New(rand.NewSource(65))
	all(func(doc []api.Line, c api.Label) {
		var other []api.Line
		for _, x := range append(slices.Clone(doc), line(c, 500, 0, "last")) {
			for _, y := range some(dice, dice.Intn(4)) {
				if !below(y.Label, c) {
					other = append(other, y)
				}
			}
			if below(x.Label, c) {
				other = append(other, x)
			}
		}
		doc = append(slices.Clone(doc), line(c, 500, 0, "last"))
		for _, d := range labels() {
			if below(d, c) && (!Alike(doc, other, d) || !slices.Equal(Of(doc, d), Of(other, d))) {
				t.Errorf("%v and %v are unlike for %x", doc, other, d)
			}
		}
	})
}

// P6.5

func TestPutOfTheView(t *testing.T) {
	all(func(doc []api.Line, c api.Label) {
		if got, e := Put(doc, c, Of(doc, c)); e != api.OK || !slices.Equal(got, doc) {
			t.Errorf("%v by %x: %v, %d", doc, c, got, e)
		}
	})
}

func TestViewOfWhatIsPut(t *testing.T) {
	dice := rand.New(rand.NewSource(66))
	all(func(doc []api.Line, c api.Label) {
		put := some(dice, len(Of(doc, c)))
		for i := range put {
			put[i].Label &= c
		}
		got, e := Put(doc, c, put)
		if e != api.OK || !slices.Equal(Of(got, c), put) || !slices.Equal(Hidden(got, c), Hidden(doc, c)) {
			t.Errorf("%v by %x, %v: %v, %d", doc, c, put, got, e)
		}
		if !slices.Equal(Places(got, c), Places(doc, c)) {
			t.Errorf("%v by %x: what is seen stands elsewhere: %v", doc, c, got)
		}
	})
}

// The rules that hold everywhere

func TestWhatIsHandedInIsNotChangedAndNotKept(t *testing.T) {
	room, with := append(abcde(), line(2, 3, 0, "behind")), append(abcde()[:3], line(0, 9, 0, "behind"))
	wasRoom, wasWith := slices.Clone(room), slices.Clone(with)
	doc, view := room[:5], with[:3]
	of, hidden, places, texts, labels, seq := Of(doc, 2), Hidden(doc, 2), Places(doc, 2), Texts(doc), Labels(doc), Each(doc, 2)
	put, e := Put(doc, 2, view)
	gone(seq)
	if e != api.OK || !Alike(doc, doc, 2) || !slices.Equal(room, wasRoom) || !slices.Equal(with, wasWith) {
		t.Errorf("changed: %v, %v, %d", room, with, e)
	}
	for i := range room {
		room[i] = line(7, 7, 7, "seven")
	}
	for i := range with {
		with[i] = line(8, 8, 8, "eight")
	}
	d := abcde()
	if !slices.Equal(of, []api.Line{d[0], d[1], d[4]}) || !slices.Equal(hidden, d[2:4]) || !slices.Equal(put, []api.Line{d[0], d[1], d[2], d[3], d[2]}) {
		t.Errorf("kept: %v, %v, %v", of, hidden, put)
	}
	if !slices.Equal(places, []int{0, 1, 4}) || !slices.Equal(texts, []string{"a", "b", "c", "d", "e"}) || !slices.Equal(labels, []api.Label{0, 2, 4, 6}) {
		t.Errorf("kept: %v, %v, %v", places, texts, labels)
	}
	if at, l := gone(seq); !slices.Equal(at, places) || !slices.Equal(l, of) {
		t.Errorf("kept: %v, %v", at, l)
	}
}

// spoilt writes over a list, its spare room too, and tells what it was.
func spoilt[T any](l []T, with T) []T {
	was := slices.Clone(l)
	l = l[:cap(l)]
	for i := range l {
		l[i] = with
	}
	return was
}

func TestWhatIsHandedOutIsNew(t *testing.T) {
	seven := line(7, 7, 7, "seven")
	all(func(doc []api.Line, c api.Label) {
		was := slices.Clone(doc)
		seq := Each(doc, c)
		for range 2 {
			seen, places, hidden := parted(was, c)
			put, e := Put(doc, c, seen)
			if got := spoilt(put, seven); e != api.OK || !slices.Equal(got, was) {
				t.Errorf("Put: %v", got)
			}
			if got := spoilt(Of(doc, c), seven); !slices.Equal(got, seen) {
				t.Errorf("Of: %v", got)
			}
			if got := spoilt(Hidden(doc, c), seven); !slices.Equal(got, hidden) {
				t.Errorf("Hidden: %v", got)
			}
			if got := spoilt(Places(doc, c), 7); !slices.Equal(got, places) {
				t.Errorf("Places: %v", got)
			}
			if at, l := gone(seq); !slices.Equal(at, places) || !slices.Equal(l, seen) {
				t.Errorf("Each: %v, %v", at, l)
			}
			spoilt(Texts(doc), "seven")
			spoilt(Labels(doc), 7)
			if !slices.Equal(doc, was) {
				t.Fatalf("%v, not %v", doc, was)
			}
		}
	})
}

func TestLongListsEnd(t *testing.T) {
	l := make([]api.Line, 1<<20)
	for i := range l {
		l[i].Label = api.Label(i * 7919 % 64)
	}
	// A compartment of the lowest six is in half of these labels.
	view := Of(l, 63-32)
	if len(view) != len(l)/2 || len(Places(l, 63-32)) != len(view) || len(Hidden(l, 63-32)) != len(view) || len(Labels(l)) != 64 {
		t.Errorf("%d lines are seen", len(view))
	}
	if got, e := Put(l, 63-32, view); e != api.OK || !Alike(got, l, whole) {
		t.Errorf("%d", e)
	}
}
