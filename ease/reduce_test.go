package ease_test

import (
	"testing"

	"catscradle/api"
	"catscradle/code"
	"catscradle/ease"
)

// P4.1: examples, which begin where the code begins, and the first move in the order of moves.
func TestReduce(t *testing.T) {
	for _, c := range [][3]string{
		{"2: 0.1 1o+ 1u+ 1.1", "2: 0.1 1.1", "loop-cut 1"},
		{"1: 0.1 0.2", "1:", "axis-cut 0"},
		{"2: 0.1 1.1", "2: 0.1 1.1", ""},
		{"2: 1.1 0.1", "2: 1.1 0.1", ""},
		{"3:", "3:", ""},
		{"2: 0.1 0.2 0.3 1.1", "2: 0.1 1.1", "axis-cut 0"},
		{"1: 0.1 0.2 1o+ 1u+", "1:", "loop-cut 2, axis-cut 0"},
		{"2: 0.1 1.1 1o+ 2o- 1.2 2.1 2u- 1u+", "2: 0.1 2.1", "pair-cut 2 6, axis-cut 1"},
		{"2: 0.1 1o- 1u- 1.3 1.2 1.1", "2: 0.1 1.1", "axis-cut 3, loop-cut 1"},
		{"4: 2.1 4.2 1o- 3.1 2o+ 3.3 4.1 2u+ 3.2 1u-", "4: 2.1 4.2 1o- 3.1 2o+ 3.3 4.1 2u+ 3.2 1u-", ""},
	} {
		got, l, e := ease.Reduce(read(t, c[0]))
		if e != api.OK || code.Print(got) != c[1] || show(l) != c[2] {
			t.Errorf("Reduce(%s): %s; %s; %d, not %s; %s", c[0], code.Print(got), show(l), e, c[1], c[2])
		}
	}
}

// P4.1: nothing more can be reduced, the moves lead there, and nothing has become longer.
func TestReduced(t *testing.T) {
	for _, c := range samples() {
		d, l, e := ease.Reduce(c)
		if e != api.OK || code.Check(d) != api.OK || reducing(t, d) {
			t.Fatalf("Reduce(%s): %s", code.Print(c), code.Print(d))
		}
		if end := follow(t, c, l); !equal(end, d) {
			t.Fatalf("Reduce(%s): %s leads to %s", code.Print(c), show(l), code.Print(end))
		}
		if code.Passes(d) > code.Passes(c) || code.Crossings(d) > code.Crossings(c) {
			t.Fatalf("Reduce(%s): %s is longer", code.Print(c), code.Print(d))
		}
		again, l, e := ease.Reduce(d)
		if e != api.OK || !equal(again, d) || len(l) > 0 {
			t.Fatalf("Reduce(%s): %s; %s", code.Print(d), code.Print(again), show(l))
		}
	}
}

// P4.1: the limits of codes.
func TestReduceLong(t *testing.T) {
	d, l, e := ease.Reduce(snake(api.MaxLetters))
	if e != api.OK || !equal(d, api.Code{Fingers: 1}) || len(l) != api.MaxLetters/2 {
		t.Error(code.Print(d), len(l), e)
	}
	d, l, e = ease.Reduce(kinks(2, api.MaxCrossings))
	if e != api.OK || !equal(d, api.Code{Fingers: 1}) || len(l) != api.MaxCrossings+1 {
		t.Error(code.Print(d), len(l), e)
	}
}
