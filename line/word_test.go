package line_test

import (
	"math"
	"testing"

	"catscradle/line"
)

// P1.1: Valid.
func TestValid(t *testing.T) {
	for _, c := range []struct {
		name string
		k    int
		w    []int
		want bool
	}{
		{"example", 3, list(0, 3), true},
		{"letter beyond the fingers", 2, list(0, 3), false},
		{"odd length", 2, list(0, 1, 2), false},
		{"empty without fingers", 0, nil, true},
		{"empty list", 5, []int{}, true},
		{"only gate without fingers", 0, list(0, 0), true},
		{"gate 1 without fingers", 0, list(0, 1), false},
		{"all fingers", 40, list(40, 0), true},
		{"too many fingers", 41, nil, false},
		{"too many fingers for a word", 41, list(0, 1), false},
		{"negative number of fingers", -1, nil, false},
		{"negative letter", 3, list(0, -1), false},
		{"letter beyond all fingers", 40, list(41, 0), false},
		{"first letter wrong", 1, list(2, 0), false},
		{"not reduced", 1, list(1, 1), true},
		{"longest", 2, fill(400, 2), true},
		{"too long", 2, fill(402, 2), false},
		{"far too large", 3, list(math.MaxInt, math.MinInt), false},
		{"far too many fingers", math.MaxInt, list(0, 1), false},
		{"far too few fingers", math.MinInt, list(0, 1), false},
	} {
		if got := line.Valid(c.k, c.w); got != c.want {
			t.Errorf("%s: Valid(%d, %v) is %v", c.name, c.k, c.w, got)
		}
	}
}

// P1.1: Reduced.
func TestReduced(t *testing.T) {
	long := fill(400, 0)
	for i := range long {
		long[i] = i % 2
	}
	for _, c := range []struct {
		name string
		w    []int
		want bool
	}{
		{"equal neighbors", list(0, 1, 1, 2), false},
		{"last and first equal", list(0, 1, 2, 0), false},
		{"two letters", list(0, 2), true},
		{"two equal letters", list(2, 2), false},
		{"empty", nil, true},
		{"equal letters apart", list(0, 1, 0, 1), true},
		{"first two equal", list(1, 1, 0, 2), false},
		{"last two equal", list(0, 1, 2, 2), false},
		{"odd length", list(0, 1, 2), false},
		{"negative letter", list(0, -1), false},
		{"letter 40", list(0, 40), true},
		{"letter 41", list(0, 41), false},
		{"longest", long, true},
		{"too long", append(list(0, 1), long...), false},
		{"not a number of a gate", list(math.MaxInt, math.MinInt), false},
	} {
		if got := line.Reduced(c.w); got != c.want {
			t.Errorf("%s: Reduced(%v) is %v", c.name, c.w, got)
		}
	}
}
