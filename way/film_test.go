package way_test

import (
	"math/rand"
	"slices"
	"testing"

	"catscradle/api"
	"catscradle/code"
	"catscradle/hand"
	"catscradle/way"
)

// P8.1: films worked out by hand.
func TestFilmExamples(t *testing.T) {
	fr := standard(t)
	for _, c := range []struct {
		start, ops string
		want       []string
	}{
		{"10: 0.1 1.1 9.1 10.1", "R1- L1-", []string{"10: 0.1 1.1 9.1 10.1", "10: 0.1 1.1", "10:"}},
		{"10: 0.1 1.1 9.1 10.1", "", []string{"10: 0.1 1.1 9.1 10.1"}},
		{"10: 10.1 9.1 1.1 0.1", "", []string{"10: 10.1 9.1 1.1 0.1"}},
		{"10:", "", []string{"10:"}},
		{"10: 0.1 1.1 9.1 10.1", "L1~o", []string{"10: 0.1 1.1 9.1 10.1", "10: 1.1 0.1 1u+ 9.1 10.1 1o+"}},
	} {
		got, e := way.Film(fr, read(t, c.start), signs(t, fr, c.ops)...)
		if e != api.OK || !slices.Equal(prints(got), c.want) {
			t.Errorf("%s, %s: %v, %d", c.start, c.ops, prints(got), e)
		}
	}
}

// P8.1: a film is what Run makes of all beginnings of the series.
func TestFilm(t *testing.T) {
	r := rand.New(rand.NewSource(1))
	longest := 0
	for _, s := range samples() {
		ops := s.series(r, r.Intn(8))
		want, e := slowFilm(s.fr, s.c, ops)
		got, f := way.Film(s.fr, s.c, ops...)
		if e != api.OK || f != api.OK || !slices.EqualFunc(got, want, equal) || !equal(got[0], s.c) {
			t.Fatalf("%v, %v: %v, %d", s, ops, prints(got), f)
		}
		longest = max(longest, len(ops))
	}
	if longest < 6 {
		t.Error("no long film")
	}
}

// P8.1: the error of the first operation that cannot be done.
func TestFilmErrors(t *testing.T) {
	fr := standard(t)
	two := read(t, "10: 0.1 1.1 9.1 10.1")
	twisted := must[[]api.Code](t)(way.Film(fr, read(t, "10: 0.1 1.1"), twist(1, true), release(1)))[2]
	if hand.Posed(fr, twisted) {
		t.Fatal(code.Print(twisted))
	}
	short := fr
	short.Reach, short.Loops = 0, 1
	for i, c := range []struct {
		fr   api.Frame
		c    api.Code
		ops  []api.Op
		want api.Errno
	}{
		{fr, two, []api.Op{release(2)}, api.ErrNone},
		{fr, two, []api.Op{release(1), release(1)}, api.ErrNone},
		{fr, two, []api.Op{release(1), navaho(10), release(11)}, api.ErrNone},
		{fr, two, []api.Op{release(1), release(11), navaho(10)}, api.ErrArg},
		{fr, two, []api.Op{{}}, api.ErrArg},
		{fr, two, []api.Op{{Kind: api.OpDrop, Finger: 1}, {Kind: 9, Finger: 1}}, api.ErrArg},
		{fr, two, []api.Op{pick(1, near(10, 1), over(near(1, 1)))}, api.ErrMove},
		{short, two, []api.Op{twist(1, true), take(1, near(1, 0), true)}, api.ErrReach},
		{short, two, []api.Op{take(3, near(1, 0), true), release(11)}, api.ErrReach},
		{fr, read(t, "10: 0.1 1.1"), []api.Op{twist(1, true), release(1)}, api.OK},
		{fr, read(t, "10: 0.1 1.1"), []api.Op{twist(1, true), release(1), release(1)}, api.ErrArg},
		{fr, kinked(two, 99), []api.Op{twist(1, true)}, api.OK},
		{fr, kinked(two, 99), []api.Op{twist(1, true), twist(1, true), release(2)}, api.ErrLong},
		// The string is off all fingers.
		{fr, twisted, nil, api.ErrArg},
		{fr, twisted, []api.Op{release(1)}, api.ErrArg},
	} {
		got, e := way.Film(c.fr, c.c, c.ops...)
		if e != c.want || e != api.OK && len(got) > 0 {
			t.Errorf("case %d: %v, %d, not %d", i, prints(got), e, c.want)
		}
	}
}

// kinked returns a posed code with n kinks above the axis, after the second letter.
func kinked(c api.Code, n int) api.Code {
	c = copied(c)
	for i := range n {
		kink := []api.Letter{{Kind: api.Cross, ID: i + 1, Sign: 1}, {Kind: api.Cross, ID: i + 1, Sign: 1, Over: true}}
		c.Letters = slices.Insert(c.Letters, 2, kink...)
	}
	return c
}
