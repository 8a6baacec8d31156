package line_test

import (
	"slices"
	"testing"

	"catscradle/api"
	"catscradle/line"
)

// P1.3: Reverse, Mirror, Turn, their examples and edges.
func TestReverseMirrorTurn(t *testing.T) {
	for _, c := range []struct {
		k                        int
		w, reverse, mirror, turn []int
	}{
		{3, list(0, 1), list(1, 0), list(3, 2), list(1, 0)},
		{3, list(0, 1, 2, 3), list(3, 2, 1, 0), list(3, 2, 1, 0), list(1, 2, 3, 0)},
		{5, list(2, 2, 0, 5), list(5, 0, 2, 2), list(3, 3, 5, 0), list(2, 0, 5, 2)},
		{0, list(0, 0), list(0, 0), list(0, 0), list(0, 0)},
		{0, nil, nil, nil, nil},
		{40, list(40, 7), list(7, 40), list(0, 33), list(7, 40)},
		{2, fill(400, 2), fill(400, 2), fill(400, 0), fill(400, 2)},
	} {
		got, e := line.Reverse(c.w)
		want(t, "Reverse("+line.Print(c.w)+")", got, e, c.reverse, api.OK)
		got, e = line.Mirror(c.k, c.w)
		want(t, "Mirror("+line.Print(c.w)+")", got, e, c.mirror, api.OK)
		got, e = line.Turn(c.w)
		want(t, "Turn("+line.Print(c.w)+")", got, e, c.turn, api.OK)
	}
}

// P1.3: errors.
func TestReverseMirrorTurnErrors(t *testing.T) {
	for _, c := range []struct {
		w []int
		e api.Errno
	}{
		{list(1), api.ErrArg},
		{list(0, -1), api.ErrArg},
		{list(41, 0), api.ErrArg},
		{fill(401, 0), api.ErrLong},
	} {
		got, e := line.Reverse(c.w)
		want(t, "Reverse("+line.Print(c.w)+")", got, e, nil, c.e)
		got, e = line.Mirror(40, c.w)
		want(t, "Mirror("+line.Print(c.w)+")", got, e, nil, c.e)
		got, e = line.Mirror(41, c.w)
		want(t, "Mirror(41, "+line.Print(c.w)+")", got, e, nil, c.e)
		got, e = line.Turn(c.w)
		want(t, "Turn("+line.Print(c.w)+")", got, e, nil, c.e)
	}
	for _, k := range []int{-1, 1, 41} {
		got, e := line.Mirror(k, list(0, 2))
		want(t, "Mirror with a wrong number of fingers", got, e, nil, api.ErrArg)
	}
}

// P1.3: twice is the same; Reverse keeps the normal form.
func TestReverseMirrorTurnTwice(t *testing.T) {
	mirror := func(w []int) ([]int, api.Errno) { return line.Mirror(4, w) }
	for _, w := range samples() {
		form := normal(t, w)
		for i, f := range []func([]int) ([]int, api.Errno){line.Reverse, mirror, line.Turn} {
			once, e := f(w)
			twice, e2 := f(once)
			if e != api.OK || e2 != api.OK || !slices.Equal(normal(t, twice), form) {
				t.Errorf("function %d twice: from %v to %v", i, w, twice)
			}
		}
		back, _ := line.Reverse(w)
		if got := normal(t, back); !slices.Equal(got, form) {
			t.Errorf("the reverse of %v has the normal form %v", w, got)
		}
	}
}

// P1.4: Forget, its examples, edges and errors.
func TestForget(t *testing.T) {
	for _, c := range []struct {
		k    int
		w    []int
		f    int
		want []int
		e    api.Errno
	}{
		{3, list(0, 2), 1, list(0, 1), api.OK},
		{3, list(0, 1), 1, nil, api.OK},
		{3, list(0, 1, 2, 3), 2, list(0, 2), api.OK},
		{3, list(0, 1, 2, 3), 1, list(1, 2), api.OK},
		{3, list(0, 1, 2, 3), 3, list(0, 1), api.OK},
		{1, list(1, 0), 1, nil, api.OK},
		{1, nil, 1, nil, api.OK},
		{3, list(3, 1, 2, 0), 2, list(0, 2), api.OK},
		{40, list(0, 40), 40, list(0, 39), api.OK},
		{40, list(0, 40), 1, list(0, 39), api.OK},
		{1, list(0, 1), 2, nil, api.ErrArg},
		{1, list(0, 1), 0, nil, api.ErrArg},
		{1, list(0, 1), -1, nil, api.ErrArg},
		{0, nil, 0, nil, api.ErrArg},
		{0, nil, 1, nil, api.ErrArg},
		{41, list(0, 1), 1, nil, api.ErrArg},
		{-1, nil, 1, nil, api.ErrArg},
		{2, list(0, 3), 1, nil, api.ErrArg},
		{2, list(0), 1, nil, api.ErrArg},
		{41, fill(402, 0), 0, nil, api.ErrLong},
	} {
		got, e := line.Forget(c.k, c.w, c.f)
		want(t, "Forget("+line.Print(c.w)+")", got, e, c.want, c.e)
	}
}

// forget returns the word without a finger that it must be possible to forget.
func forget(t *testing.T, k int, w []int, f int) []int {
	t.Helper()
	result, e := line.Forget(k, w, f)
	if e != api.OK || !line.Valid(k-1, result) || !slices.Equal(normal(t, result), result) {
		t.Fatalf("Forget(%d, %v, %d): %v, %d", k, w, f, result, e)
	}
	return result
}

// P1.4: Forget does not depend on reductions, nor on the order of fingers.
func TestForgetOrder(t *testing.T) {
	for _, w := range samples() {
		form := normal(t, w)
		for f := 1; f <= 4; f++ {
			one := forget(t, 4, w, f)
			if got := forget(t, 4, form, f); !slices.Equal(got, one) {
				t.Errorf("without %d: %v becomes %v, but %v becomes %v", f, w, one, form, got)
			}
			for g := f + 1; g <= 4; g++ {
				last := forget(t, 3, forget(t, 4, w, g), f)
				if got := forget(t, 3, one, g-1); !slices.Equal(got, last) {
					t.Errorf("%v without %d and %d: %v and %v", w, f, g, got, last)
				}
			}
		}
	}
}
