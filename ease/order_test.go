package ease_test

import (
	"math"
	"math/rand"
	"testing"

	"catscradle/api"
	"catscradle/ease"
)

// comesBefore follows the section of Compare to the letter.
func comesBefore(a, b api.Code) bool {
	crosses := func(c api.Code) int {
		n := 0
		for _, l := range c.Letters {
			if l.Kind == api.Cross {
				n++
			}
		}
		return n
	}
	switch {
	case a.Fingers != b.Fingers:
		return a.Fingers < b.Fingers
	case crosses(a) != crosses(b):
		return crosses(a) < crosses(b)
	case len(a.Letters) != len(b.Letters):
		return len(a.Letters) < len(b.Letters)
	}
	for i := range a.Letters {
		one, two := a.Letters[i], b.Letters[i]
		switch {
		case one == two:
			continue
		case one.Kind != two.Kind:
			return one.Kind < two.Kind
		case one.Gate != two.Gate:
			return one.Gate < two.Gate
		case one.Rank != two.Rank:
			return one.Rank < two.Rank
		case one.ID != two.ID:
			return one.ID < two.ID
		case one.Over != two.Over:
			return two.Over
		}
		return one.Sign < two.Sign
	}
	return false
}

// randomCodes returns codes, most of them not valid, many of which differ in one thing only.
func randomCodes(r *rand.Rand, n int) []api.Code {
	numbers := []int{math.MinInt, -1, 0, 1, 2, math.MaxInt}
	pick := func(usual int) int {
		if r.Intn(6) == 0 {
			return numbers[r.Intn(len(numbers))]
		}
		return usual
	}
	all := []api.Code{{}}
	for len(all) < n {
		c := copied(all[r.Intn(len(all))])
		c.Fingers = pick(c.Fingers)
		if r.Intn(3) == 0 && len(c.Letters) < 4 {
			c.Letters = append(c.Letters, api.Letter{Kind: api.LetterKind(r.Intn(4))})
		}
		for i := range c.Letters {
			l := &c.Letters[i]
			l.Kind = api.LetterKind(pick(int(l.Kind)))
			l.Gate, l.Rank, l.ID, l.Sign = pick(l.Gate), pick(l.Rank), pick(l.ID), pick(l.Sign)
			l.Over = l.Over != (r.Intn(8) == 0)
		}
		all = append(all, c)
	}
	return all
}

// P4.5: examples.
func TestCompare(t *testing.T) {
	for _, c := range []struct {
		a, b string
		want int
	}{
		{"1:", "2:", -1},
		{"2: 0.1 1.1", "2: 0.1 2.1", -1},
		{"2: 0.1 2.1", "2: 0.1 1.1", 1},
		{"2: 0.1 1.1", "2: 0.1 1.1", 0},
		{"2: 0.1 1.1", "2: 1.1 0.1", -1},
		// Crossings count more than letters, and fingers more than both.
		{"1: 0.1 0.2 0.3 1.1", "1: 0.1 1o+ 1u+ 1.1", -1},
		{"1: 0.1 0.2 0.3 0.4 0.5 1.1", "1: 0.1 1o+ 1u+ 1.1", -1},
		{"1: 0.1 1o+ 1u+ 1.1", "2: 0.1 1.1", -1},
		{"1: 0.1 1u+ 1o+ 1.1", "1: 0.1 1o- 1u- 1.1", -1},
		{"1: 0.1 1u+ 1o+ 1.1", "1: 0.1 1u- 1o- 1.1", 1},
		{"1: 0.1 1.1 1u+ 1o+", "1: 0.1 1u+ 1o+ 1.1", -1},
	} {
		a, b := read(t, c.a), read(t, c.b)
		if got := ease.Compare(a, b); got != c.want {
			t.Errorf("Compare(%s, %s): %d", c.a, c.b, got)
		}
		if got := ease.Compare(b, a); got != -c.want {
			t.Errorf("Compare(%s, %s): %d", c.b, c.a, got)
		}
	}
}

// P4.5: codes of any letters. An odd number of crosses is more than the even one below it.
func TestCompareAny(t *testing.T) {
	other := api.Letter{Kind: 7}
	for _, c := range [][2]api.Code{
		{{Letters: []api.Letter{other, other}}, {Letters: []api.Letter{cross(1, true, 1)}}},
		{{Letters: []api.Letter{cross(1, true, 1), cross(1, true, 1), other}}, {Letters: []api.Letter{cross(1, true, 1), cross(1, true, 1), cross(1, true, 1)}}},
		{{Letters: []api.Letter{{Kind: math.MinInt}}}, {Letters: []api.Letter{{Kind: math.MaxInt}}}},
		{{Fingers: math.MinInt}, {Fingers: math.MaxInt}},
		{{Letters: []api.Letter{{Kind: 1, Gate: 1}}}, {Letters: []api.Letter{{Kind: 1, Gate: 2, Rank: -5}}}},
		{{Letters: []api.Letter{{Kind: 1, Rank: 1}}}, {Letters: []api.Letter{{Kind: 1, Rank: 2, ID: -5}}}},
		{{Letters: []api.Letter{{Kind: 1, ID: 1, Over: true}}}, {Letters: []api.Letter{{Kind: 1, ID: 2}}}},
		{{Letters: []api.Letter{{Kind: 1, Sign: 9}}}, {Letters: []api.Letter{{Kind: 1, Over: true, Sign: 8}}}},
		{{Letters: []api.Letter{{Kind: 1, Sign: -9}}}, {Letters: []api.Letter{{Kind: 1, Sign: 8}}}},
		{{Letters: []api.Letter{{Kind: 1}, {Kind: 3}}}, {Letters: []api.Letter{{Kind: 1}, {Kind: 4}}}},
	} {
		if ease.Compare(c[0], c[1]) != -1 || ease.Compare(c[1], c[0]) != 1 {
			t.Errorf("%v and %v: %d, %d", c[0], c[1], ease.Compare(c[0], c[1]), ease.Compare(c[1], c[0]))
		}
	}
}

// P4.5: a total order, as the section says.
func TestCompareTotal(t *testing.T) {
	all := append(randomCodes(rand.New(rand.NewSource(67)), 120), samples()[:40]...)
	for _, a := range all {
		for _, b := range all {
			want := 0
			if comesBefore(a, b) {
				want = -1
			} else if comesBefore(b, a) {
				want = 1
			}
			if got := ease.Compare(a, b); got != want || (got == 0) != equal(a, b) {
				t.Fatalf("Compare(%v, %v): %d, not %d", a, b, got, want)
			}
			for _, c := range all {
				if ease.Compare(a, b) <= 0 && ease.Compare(b, c) <= 0 && ease.Compare(a, c) > 0 {
					t.Fatalf("Compare: %v, %v, %v", a, b, c)
				}
			}
		}
	}
}

// P4.5: the first one of the least codes.
func TestLeast(t *testing.T) {
	if got := ease.Least(); got != -1 {
		t.Errorf("Least of none: %d", got)
	}
	r := rand.New(rand.NewSource(71))
	all := randomCodes(r, 60)
	for range 2000 {
		var l []api.Code
		for range 1 + r.Intn(6) {
			l = append(l, all[r.Intn(len(all))])
		}
		if r.Intn(2) == 0 {
			l = append(l, copied(l[0]), copied(l[len(l)-1]))
		}
		want := -1
		for i := len(l) - 1; i >= 0; i-- {
			least := true
			for _, c := range l {
				least = least && ease.Compare(l[i], c) <= 0
			}
			if least {
				want = i
			}
		}
		if got := ease.Least(l...); got != want {
			t.Fatalf("Least(%v): %d, not %d", l, got, want)
		}
	}
	if got := ease.Least(read(t, "2: 0.1 2.1"), read(t, "2: 0.1 1.1"), read(t, "3:"), read(t, "2: 0.1 1.1")); got != 1 {
		t.Error(got)
	}
	if got := ease.Least(api.Code{Fingers: 40}); got != 0 {
		t.Error(got)
	}
}
