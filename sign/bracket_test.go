package sign_test

import (
	"slices"
	"testing"

	"catscradle/api"
	"catscradle/code"
	"catscradle/line"
	"catscradle/sign"
)

// P5.1: examples.
func TestWrithe(t *testing.T) {
	for _, c := range []struct {
		code string
		want int
	}{
		{"2: 0.1 1o+ 1u+ 1.1", 1},
		{"2: 0.1 1.1", 0},
		{"3:", 0},
		{"2: 0.1 1o- 1u- 1.1", -1},
		{"2: 0.1 1o- 1u- 2u- 2o- 3u+ 3o+ 1.1", -1},
	} {
		if got, e := sign.Writhe(read(t, c.code)); got != c.want || e != api.OK {
			t.Errorf("Writhe(%s): %d, %d", c.code, got, e)
		}
	}
	for _, c := range samples() {
		sum := 0
		for _, l := range c.Letters {
			sum += l.Sign
		}
		if got, e := sign.Writhe(c); 2*got != sum || e != api.OK {
			t.Errorf("Writhe(%s): %d, %d", code.Print(c), got, e)
		}
	}
	if got, e := sign.Writhe(kinks(2, 100)); got != -100 || e != api.OK {
		t.Error(got, e)
	}
}

// P5.1: examples.
func TestCurves(t *testing.T) {
	for _, c := range []struct {
		code string
		a    []bool
		want [][]int
	}{
		{"2: 0.1 1o+ 1u+ 1.1", []bool{true}, [][]int{{}, {0, 1}}},
		{"2: 0.1 1o+ 1u+ 1.1", []bool{false}, [][]int{{0, 1}}},
		{"2: 0.1 1o- 1u- 1.1", []bool{true}, [][]int{{0, 1}}},
		{"2: 0.1 1o- 1u- 1.1", []bool{false}, [][]int{{}, {0, 1}}},
		{"1:", nil, [][]int{{}}},
		{"2: 1.1 0.1", nil, [][]int{{0, 1}}},
		{"1: 0.1 0.2", nil, [][]int{{}}},
		// Two strands around a finger, with one crossing: the straight smoothing leaves two circles.
		{"1: 0.1 1u+ 1.1 0.2 1o+ 1.2", []bool{true}, [][]int{{0, 1}, {0, 1}}},
		{"1: 0.1 1u+ 1.1 0.2 1o+ 1.2", []bool{false}, [][]int{{}}},
		// A figure of eight: its loops go around different fingers, or around both.
		{"2: 0.1 1.1 1o+ 2.1 1.2 1u+", []bool{true}, [][]int{{0, 1}, {1, 2}}},
		{"2: 0.1 1.1 1o+ 2.1 1.2 1u+", []bool{false}, [][]int{{0, 2}}},
	} {
		got, e := sign.Curves(read(t, c.code), c.a)
		if e != api.OK || !slices.EqualFunc(got, c.want, slices.Equal[[]int]) {
			t.Errorf("Curves(%s, %v): %v, %d, not %v", c.code, c.a, got, e, c.want)
		}
	}
}

// P5.1: the words have ranks.
func TestCurvesRanks(t *testing.T) {
	around := 0
	for _, c := range samples() {
		all := choices(code.Crossings(c))
		for i := 0; i < len(all); i += 1 + len(all)/40 {
			for _, w := range must[[][]int](t)(sign.Curves(c, all[i])) {
				if _, e := line.Ranks(w); e != api.OK {
					t.Fatalf("Curves(%s, %v): %s has no ranks", code.Print(c), all[i], line.Print(w))
				}
				around += min(len(w), 1)
			}
		}
	}
	if around < 100 {
		t.Error(around)
	}
}

// P5.1: the greatest number of crossings, and wrong numbers of choices.
func TestCurvesMany(t *testing.T) {
	c := kinks(2, api.MaxCrossings)
	a := make([]bool, api.MaxCrossings)
	if got, e := sign.Curves(c, a); e != api.OK || len(got) != api.MaxCrossings+1 {
		t.Error(len(got), e)
	}
	for _, n := range []int{0, 1, 99, 101, 200} {
		if got, e := sign.Curves(c, make([]bool, n)); e != api.ErrArg || len(got) > 0 {
			t.Error(n, got, e)
		}
	}
	if got, e := sign.Curves(read(t, "1:"), []bool{true}); e != api.ErrArg || len(got) > 0 {
		t.Error(got, e)
	}
}

// P5.2: examples.
func TestBracket(t *testing.T) {
	for _, c := range [][3]string{
		{"1:", "-: -2: -1 0 0 0 -1", "-: -2: -1 0 0 0 -1"},
		{"2: 0.1 1.1", "0 1: 0: 1", "0 1: 0: 1"},
		{"2: 0.1 1o+ 1u+ 1.1", "0 1: 3: -1", "0 1: 0: 1"},
		{"2: 0.1 1o- 1u- 1.1", "0 1: -3: -1", "0 1: 0: 1"},
		{"1: 0.1 0.2", "-: -2: -1 0 0 0 -1", "-: -2: -1 0 0 0 -1"},
		{"1: 0.1 1u+ 1.1 0.2 1o+ 1.2", "-: -3: -1 0 0 0 -1; 0 1,0 1: 1: 1", "-: -6: 1 0 0 0 1; 0 1,0 1: -2: -1"},
		{"2: 0.1 1.1 1o+ 2.1 1.2 1u+", "0 2: -1: 1; 0 1,1 2: 1: 1", "0 2: -4: -1; 0 1,1 2: -2: -1"},
	} {
		got, e := sign.Bracket(read(t, c[0]))
		if sign.Print(got) != c[1] || e != api.OK {
			t.Errorf("Bracket(%s): %s, %d, not %s", c[0], sign.Print(got), e, c[1])
		}
		got, e = sign.Sign(read(t, c[0]))
		if sign.Print(got) != c[2] || e != api.OK {
			t.Errorf("Sign(%s): %s, %d, not %s", c[0], sign.Print(got), e, c[2])
		}
	}
}

// P5.2: the signs of knots without a finger are -A^2 - A^-2 times what is known of them (the Jones polynomials at A^-4).
func TestKnots(t *testing.T) {
	for _, c := range []struct {
		name string
		code api.Code
		want string
	}{
		{"a trefoil", braid(2, 1, 1, 1), "-: -18: 1 0 0 0 0 0 0 0 -1 0 0 0 -1 0 0 0 -1"},
		{"its mirror image", braid(2, -1, -1, -1), "-: 2: -1 0 0 0 -1 0 0 0 -1 0 0 0 0 0 0 0 1"},
		{"a figure-eight knot", braid(3, 1, -2, 1, -2), "-: -10: -1 0 0 0 0 0 0 0 0 0 0 0 0 0 0 0 0 0 0 0 -1"},
		{"a circle", braid(3, 1, 2), "-: -2: -1 0 0 0 -1"},
	} {
		free := must[api.Code](t)(code.Forget(c.code, 1))
		if got, e := sign.Sign(free); sign.Print(got) != c.want || e != api.OK {
			t.Errorf("the sign of %s: %s, %d, not %s", c.name, sign.Print(got), e, c.want)
		}
	}
}

// P5.2: the greatest number of crossings, before and after reducing.
func TestManyCrossings(t *testing.T) {
	if got, e := sign.Bracket(kinks(2, api.MaxBracket)); e != api.OK || sign.Print(got) != "-: -38: -1 0 0 0 -1" {
		t.Error(sign.Print(got), e)
	}
	if got, e := sign.Bracket(kinks(2, api.MaxBracket+1)); e != api.ErrLong || len(got) > 0 {
		t.Error(sign.Print(got), e)
	}
	for _, n := range []int{api.MaxBracket, api.MaxBracket + 1, api.MaxCrossings} {
		if got, e := sign.Sign(kinks(2, n)); e != api.OK || sign.Print(got) != "-: -2: -1 0 0 0 -1" {
			t.Error(n, sign.Print(got), e)
		}
	}
	// Two strands with 11 and 13 twists, and three strands with 12, cannot be reduced.
	twelve := braid(3, 1, -2, 1, -2, 1, -2, 1, -2, 1, -2, 1, 1)
	for _, c := range []struct {
		code api.Code
		want api.Errno
	}{
		{braid(2, slices.Repeat([]int{1}, 11)...), api.OK},
		{twelve, api.OK},
		{braid(2, slices.Repeat([]int{1}, 13)...), api.ErrLong},
		{braid(2, slices.Repeat([]int{-1}, 99)...), api.ErrLong},
	} {
		got, e := sign.Sign(c.code)
		if e != c.want || (len(got) > 0) != (e == api.OK) {
			t.Errorf("Sign(%s): %s, %d", code.Print(c.code), sign.Print(got), e)
		}
	}
	if got, want := bracket(t, twelve), slowBracket(t, twelve, 0, 1); !equalSums(expand(got), want) {
		t.Errorf("Bracket(%s): %s", code.Print(twelve), sign.Print(got))
	}
}

// renumbered returns a code whose crossings have the IDs in the opposite order.
func renumbered(c api.Code) api.Code {
	d := copiedCode(c)
	for i, l := range d.Letters {
		if l.Kind == api.Cross {
			d.Letters[i].ID = code.Crossings(c) + 1 - l.ID
		}
	}
	return d
}

// P5.2: the bracket does not depend on how a code is written.
func TestBracketOfSame(t *testing.T) {
	for _, c := range samples() {
		want := bracket(t, c)
		others := []api.Code{renumbered(c), must[api.Code](t)(code.Back(c)), must[api.Code](t)(code.Normal(c))}
		for i := range c.Letters {
			if d, e := code.Start(c, i); e == api.OK {
				others = append(others, d)
			}
		}
		for _, d := range others {
			if got := bracket(t, d); !sign.Equal(got, want) {
				t.Fatalf("Bracket(%s): %s, not %s", code.Print(d), sign.Print(got), sign.Print(want))
			}
		}
	}
}
