package sign_test

import (
	"fmt"
	"math"
	"math/rand"
	"slices"
	"testing"

	"catscradle/api"
	"catscradle/code"
	"catscradle/line"
	"catscradle/sign"
)

// P5.7: Keep forgets all other fingers.
func TestKeep(t *testing.T) {
	for _, c := range []struct {
		code    string
		fingers []int
		want    string
	}{
		{"2: 0.1 1.1", []int{1, 2}, "2: 0.1 1.1"},
		{"2: 0.1 1.1", []int{1}, "1: 0.1 1.1"},
		{"2: 0.1 1.1", []int{2}, "1: 0.1 0.2"},
		{"2: 0.1 1.1", nil, "0: 0.1 0.2"},
		{"2: 0.1 1.1 1o+ 2.1 1.2 1u+", []int{1}, "1: 0.1 1.1 1o+ 1.3 1.2 1u+"},
		{"4: 0.1 2.1 3.1 1o- 1u- 4.1", []int{2, 4}, "2: 0.1 1.1 1.2 1o- 1u- 2.1"},
		{"3:", []int{2}, "1:"},
		{"0:", nil, "0:"},
	} {
		if got, e := sign.Keep(read(t, c.code), c.fingers...); e != api.OK || code.Print(got) != c.want {
			t.Errorf("Keep(%s, %v): %s, %d, not %s", c.code, c.fingers, code.Print(got), e, c.want)
		}
	}
	for _, fingers := range [][]int{{0}, {3}, {1, 1}, {2, 1}, {1, 2, 3}, {-1, 1}, {math.MinInt}, {math.MaxInt}, {1, math.MaxInt}} {
		if got, e := sign.Keep(read(t, "2: 0.1 1.1"), fingers...); e != api.ErrArg || !equal(got, api.Code{}) {
			t.Errorf("Keep of %v: %s, %d", fingers, code.Print(got), e)
		}
	}
}

// lists returns all lists of up to k fingers, strictly increasing.
func subsets(k int) [][]int {
	all := [][]int{nil}
	for f := 1; f <= k; f++ {
		for _, l := range all {
			all = append(all, append(slices.Clone(l), f))
		}
	}
	return all
}

// slowKeep follows the definition to the letter.
func slowKeep(t *testing.T, c api.Code, fingers []int) api.Code {
	t.Helper()
	for f := c.Fingers; f > 0; f-- {
		if !slices.Contains(fingers, f) {
			c = must[api.Code](t)(code.Forget(c, f))
		}
	}
	return c
}

func TestKeepSlow(t *testing.T) {
	for _, c := range samples() {
		for _, fingers := range subsets(min(c.Fingers, 5)) {
			want := slowKeep(t, c, fingers)
			if got, e := sign.Keep(c, fingers...); e != api.OK || !equal(got, want) {
				t.Fatalf("Keep(%s, %v): %s, %d, not %s", code.Print(c), fingers, code.Print(got), e, code.Print(want))
			}
		}
	}
}

// slowHolds follows the definition of what it means that a witness holds.
func slowHolds(t *testing.T, a, b api.Code, w api.Witness) bool {
	t.Helper()
	a, b = slowKeep(t, a, w.Fingers), slowKeep(t, b, w.Fingers)
	if w.Kind == api.WitnessWord {
		one, two := must[[]int](t)(code.Word(a)), must[[]int](t)(code.Word(b))
		return !must[bool](t)(line.Same(one, two))
	}
	one, e1 := sign.Sign(a)
	two, e2 := sign.Sign(b)
	return e1 == api.OK && e2 == api.OK && !sign.Equal(one, two)
}

// order returns the witnesses in the order in which they are tried.
func order(k int) []api.Witness {
	var words, signs []api.Witness
	every := subsets(k)
	slices.SortStableFunc(every, func(a, b []int) int {
		if len(a) != len(b) {
			return len(a) - len(b)
		}
		return slices.Compare(a, b)
	})
	for _, fingers := range every {
		n := len(fingers)
		if n == 1 || n == 2 || n == k && k > 2 {
			words = append(words, api.Witness{Kind: api.WitnessWord, Fingers: fingers})
		}
		if n == 0 || n == 1 || n == k {
			signs = append(signs, api.Witness{Kind: api.WitnessSign, Fingers: fingers})
		}
	}
	return append(words, signs...)
}

// P5.7: the order of witnesses is that of the chapter.
func TestOrder(t *testing.T) {
	want := []api.Witness{
		{Kind: 1, Fingers: []int{1}}, {Kind: 1, Fingers: []int{2}}, {Kind: 1, Fingers: []int{3}},
		{Kind: 1, Fingers: []int{1, 2}}, {Kind: 1, Fingers: []int{1, 3}}, {Kind: 1, Fingers: []int{2, 3}},
		{Kind: 1, Fingers: []int{1, 2, 3}},
		{Kind: 2}, {Kind: 2, Fingers: []int{1}}, {Kind: 2, Fingers: []int{2}}, {Kind: 2, Fingers: []int{3}},
		{Kind: 2, Fingers: []int{1, 2, 3}},
	}
	if !slices.EqualFunc(order(3), want, equalWitnesses) {
		t.Error(order(3))
	}
	for k, n := range []int{1, 3, 7, 12} {
		if len(order(k)) != n {
			t.Error(order(k))
		}
	}
}

// P5.7: examples.
func TestUnlike(t *testing.T) {
	for _, c := range []struct {
		a, b    string
		kind    api.WitnessKind
		fingers []int
		e       api.Errno
	}{
		{"2: 0.1 1.1", "2: 0.1 2.1", api.WitnessWord, []int{2}, api.OK},
		{"2: 0.1 1.1", "2: 1.1 0.1", 0, nil, api.ErrOpen},
		{"2: 0.1 1.1", "2:", api.WitnessWord, []int{1}, api.OK},
		{"0:", "0: 0.1 0.2", 0, nil, api.ErrOpen},
		// A circle and a figure of eight around both fingers, and two figures of eight.
		{"2: 0.1 2.1", "2: 0.1 1.1 1o+ 2.1 1.2 1u+", api.WitnessWord, []int{1, 2}, api.OK},
		{"2: 0.1 1.1 1u- 2.1 1.2 1o-", "2: 0.1 1.1 1o+ 2.1 1.2 1u+", api.WitnessSign, []int{1, 2}, api.OK},
		// Two turns around a finger, knotted and not knotted.
		{"1: 0.1 1u+ 2o+ 3u+ 1.1 0.2 1o+ 2u+ 3o+ 1.2", "1: 0.1 1u+ 1.1 0.2 1o+ 1.2", api.WitnessSign, nil, api.OK},
		{"1: 0.1 1u+ 1.1 0.2 1o+ 1.2", "1: 0.1 1o- 1.1 0.2 1u- 1.2", api.WitnessSign, []int{1}, api.OK},
		{"2: 0.1 1.1", "1: 0.1 1.1", 0, nil, api.ErrArg},
	} {
		w, e := sign.Unlike(read(t, c.a), read(t, c.b))
		if e != c.e || !equalWitnesses(w, api.Witness{Kind: c.kind, Fingers: c.fingers}) {
			t.Errorf("Unlike(%s, %s): %v, %d, not %v", c.a, c.b, w, e, c)
		}
	}
}

// P5.7: words that differ only if three fingers are kept, and those of four fingers.
func TestUnlikeAll(t *testing.T) {
	r := rand.New(rand.NewSource(23))
	bare := api.Code{Fingers: 3}
	// The commutator of turns around the fingers 1 and 2, and its commutator with a turn around finger 3.
	c := drawn(r, 3, []int{0, 1, 1, 2, 1, 0, 2, 1, 2, 3, 1, 2, 0, 1, 2, 1, 1, 0, 3, 2})
	want := api.Witness{Kind: api.WitnessWord, Fingers: []int{1, 2, 3}}
	if w, e := sign.Unlike(c, bare); e != api.OK || !equalWitnesses(w, want) || !sign.Check(bare, c, want) {
		t.Error(w, e)
	}
	// With one more finger on the left, all fingers are four.
	place := api.Place{}
	c, bare = must[api.Code](t)(code.Insert(c, place)), must[api.Code](t)(code.Insert(bare, place))
	want.Fingers = []int{1, 2, 3, 4}
	if w, e := sign.Unlike(c, bare); e != api.OK || !equalWitnesses(w, want) || !sign.Check(c, bare, want) {
		t.Error(w, e)
	}
	if !sign.Check(c, bare, api.Witness{Kind: api.WitnessWord, Fingers: []int{2, 3, 4}}) {
		t.Error("three of four fingers")
	}
}

// couples returns pairs of codes with equal numbers of fingers: some that slack moves join, some in which a crossing or a tip is changed, and some that are drawn from words that are almost the same.
func couples(n int) [][2]api.Code {
	r := rand.New(rand.NewSource(19))
	var all [][2]api.Code
	for len(all) < n {
		a := wander(r, 100, 26, 7)
		switch r.Intn(3) {
		case 0:
			a = knotted(r, 30, 26, 7)
		case 1:
			a = randomDrawn(r, 7)
		}
		b := shaken(r, a, 30, 30, 8, slackKinds()...)
		switch r.Intn(6) {
		case 0:
			b = shaken(r, b, 4, 30, 8, append(slackKinds(), api.TipLeft, api.TipRight)...)
		case 1, 2:
			if c := code.Crossings(b); c > 0 {
				b = crossed(b, 1+r.Intn(c))
			}
		case 3:
			w, _ := code.Word(a)
			b = drawn(r, a.Fingers, w)
			if a.Fingers > 1 && r.Intn(2) == 0 {
				// A commutator goes around two fingers, and around neither of them if the other one is forgotten.
				b = drawn(r, a.Fingers, append(w, 0, 1, 1, 2, 1, 0, 2, 1))
			}
		case 4:
			// Figures of eight.
			a, b = drawn(r, 2, []int{0, 1, 2, 1}), drawn(r, 2, []int{1, 2, 1, 0})
		}
		all = append(all, [2]api.Code{a, b})
	}
	return all
}

// P5.7: Unlike and Check, compared with the definitions.
func TestUnlikeSlow(t *testing.T) {
	kinds := map[string]int{}
	for _, c := range couples(300) {
		a, b := c[0], c[1]
		var want api.Witness
		for _, w := range order(a.Fingers) {
			holds := slowHolds(t, a, b, w)
			if sign.Check(a, b, w) != holds {
				t.Fatalf("Check(%s, %s, %v): %v", code.Print(a), code.Print(b), w, !holds)
			}
			if holds && want.Kind == 0 {
				want = w
			}
		}
		w, e := sign.Unlike(a, b)
		if !equalWitnesses(w, want) || (e == api.OK) != (w.Kind != 0) || e != api.OK && e != api.ErrOpen {
			t.Fatalf("Unlike(%s, %s): %v, %d, not %v", code.Print(a), code.Print(b), w, e, want)
		}
		if e == api.OK && (!sign.Check(a, b, w) || !sign.Check(b, a, w)) {
			t.Fatalf("Check(%s, %s, %v) is false", code.Print(a), code.Print(b), w)
		}
		kinds[fmt.Sprint(w.Kind, len(w.Fingers))]++
	}
	for _, kind := range []string{"0 0", "1 1", "1 2", "2 0", "2 1", "2 2"} {
		if kinds[kind] < 5 {
			t.Errorf("%d witnesses of the kind and with the number of fingers %s: %v", kinds[kind], kind, kinds)
		}
	}
}
