package code_test

import (
	"math"
	"slices"
	"testing"

	"catscradle/api"
	"catscradle/code"
	"catscradle/line"
)

// P2.5: Forget, its examples, edges and errors.
func TestForget(t *testing.T) {
	for _, c := range []struct {
		from string
		f    int
		to   string
		e    api.Errno
	}{
		{"2: 0.1 1.1", 2, "1: 0.1 1.1", api.OK},
		{"2: 0.1 1.1", 1, "1: 0.1 0.2", api.OK},
		{"2: 1.1 0.1", 1, "1: 0.2 0.1", api.OK},
		{"3: 0.1 0.2 1.1 1.2 2o- 2u- 1u+ 1o+", 1, "2: 0.1 0.2 0.3 0.4 2o- 2u- 1u+ 1o+", api.OK},
		{"3: 1.1 3.2 3.1 2.1", 2, "2: 1.1 2.2 2.1 1.2", api.OK},
		{"3: 1.1 3.2 3.1 2.1", 3, "2: 1.1 2.3 2.2 2.1", api.OK},
		{"40: 39.1 40.1", 40, "39: 39.1 39.2", api.OK},
		{"3:", 1, "2:", api.OK},
		{"1:", 1, "0:", api.OK},
		{"0:", 1, "0:", api.ErrArg},
		{"0:", 0, "0:", api.ErrArg},
		{"2: 0.1 1.1", 0, "0:", api.ErrArg},
		{"2: 0.1 1.1", 3, "0:", api.ErrArg},
		{"2: 0.1 1.1", -1, "0:", api.ErrArg},
		{"2: 0.1 1.1", math.MinInt, "0:", api.ErrArg},
		{"2: 0.1 1.1", math.MaxInt, "0:", api.ErrArg},
	} {
		got, e := code.Forget(raw(c.from), c.f)
		want(t, "Forget("+c.from+")", got, e, raw(c.to), c.e)
	}
}

// P2.5: Insert, its example, edges and errors.
func TestInsert(t *testing.T) {
	for _, c := range []struct {
		from       string
		gate, left int
		to         string
		e          api.Errno
	}{
		{"2: 0.1 1.1", 0, 1, "3: 0.1 2.1", api.OK},
		{"2: 0.1 1.1", 0, 0, "3: 1.1 2.1", api.OK},
		{"2: 0.1 1.1", 1, 0, "3: 0.1 2.1", api.OK},
		{"2: 0.1 1.1", 1, 1, "3: 0.1 1.1", api.OK},
		{"2: 0.1 1.1", 2, 0, "3: 0.1 1.1", api.OK},
		{"1: 0.1 0.2 0.3 1.1 2u+ 2o+ 1o- 1u-", 0, 2, "2: 0.1 0.2 1.1 2.1 2u+ 2o+ 1o- 1u-", api.OK},
		{"0:", 0, 0, "1:", api.OK},
		{"39:", 39, 0, "40:", api.OK},
		{"40:", 40, 0, "0:", api.ErrArg},
		{"40: 0.1 1.1", 0, 0, "0:", api.ErrArg},
		{"2: 0.1 1.1", 0, 2, "0:", api.ErrArg},
		{"2: 0.1 1.1", 2, 1, "0:", api.ErrArg},
		{"2: 0.1 1.1", 3, 0, "0:", api.ErrArg},
		{"2: 0.1 1.1", -1, 0, "0:", api.ErrArg},
		{"2: 0.1 1.1", 0, -1, "0:", api.ErrArg},
		{"2:", 0, 1, "0:", api.ErrArg},
		{"2: 0.1 1.1", math.MaxInt, math.MaxInt, "0:", api.ErrArg},
		{"2: 0.1 1.1", math.MinInt, math.MinInt, "0:", api.ErrArg},
	} {
		got, e := code.Insert(raw(c.from), api.Place{Gate: c.gate, Left: c.left})
		want(t, "Insert("+c.from+")", got, e, raw(c.to), c.e)
	}
}

// allPlaces returns the places of a code.
func allPlaces(c api.Code) []api.Place {
	var all []api.Place
	for gate := range c.Fingers + 1 {
		all = append(all, api.Place{Gate: gate})
		for left := 1; slices.Contains(c.Letters, pass(gate, left)); left++ {
			all = append(all, api.Place{Gate: gate, Left: left})
		}
	}
	return all
}

// P2.5: Forget of an inserted finger is the code before; words follow layer 1.
func TestForgetInserted(t *testing.T) {
	for _, c := range samples() {
		if c.Fingers == api.MaxFingers {
			continue
		}
		word := must[[]int](t)(code.Word(c))
		for _, p := range allPlaces(c) {
			more := must[api.Code](t)(code.Insert(c, p))
			if e := code.Check(more); e != api.OK || more.Fingers != c.Fingers+1 {
				t.Errorf("Insert(%s, %v): %s is not valid", code.Print(c), p, code.Print(more))
			}
			got, e := code.Forget(more, p.Gate+1)
			want(t, "Forget("+code.Print(more)+")", got, e, c, api.OK)
		}
		for f := 1; f <= c.Fingers; f++ {
			less := must[api.Code](t)(code.Forget(c, f))
			if e := code.Check(less); e != api.OK {
				t.Errorf("Forget(%s, %d): %s is not valid", code.Print(c), f, code.Print(less))
			}
			one := must[[]int](t)(line.Normal(must[[]int](t)(code.Word(less))))
			two := must[[]int](t)(line.Forget(c.Fingers, word, f))
			if !slices.Equal(one, two) {
				t.Errorf("the word of %s without finger %d: %v, not %v", code.Print(c), f, one, two)
			}
		}
	}
}

// P2.6: Bare and Circle.
func TestBareAndCircle(t *testing.T) {
	for _, k := range []int{math.MinInt, -1, 0, 1, 17, 40, 41, math.MaxInt} {
		got, e := code.Bare(k)
		if k < 0 || k > 40 {
			want(t, "Bare", got, e, api.Code{}, api.ErrArg)
		} else {
			want(t, "Bare", got, e, api.Code{Fingers: k}, api.OK)
		}
	}
	for _, c := range []struct {
		k, i, j int
		s       string
		e       api.Errno
	}{
		{4, 2, 3, "4: 1.1 3.1", api.OK},
		{1, 1, 1, "1: 0.1 1.1", api.OK},
		{40, 1, 40, "40: 0.1 40.1", api.OK},
		{40, 40, 40, "40: 39.1 40.1", api.OK},
		{4, 3, 2, "0:", api.ErrArg},
		{4, 0, 2, "0:", api.ErrArg},
		{4, 1, 5, "0:", api.ErrArg},
		{0, 1, 1, "0:", api.ErrArg},
		{0, 0, 0, "0:", api.ErrArg},
		{41, 1, 2, "0:", api.ErrArg},
		{-1, 1, 1, "0:", api.ErrArg},
		{4, -2, -1, "0:", api.ErrArg},
		{math.MaxInt, 1, math.MaxInt, "0:", api.ErrArg},
	} {
		got, e := code.Circle(c.k, c.i, c.j)
		want(t, "Circle", got, e, raw(c.s), c.e)
		if e == api.OK && code.Check(got) != api.OK {
			t.Errorf("Circle(%d, %d, %d) is not valid", c.k, c.i, c.j)
		}
	}
}
