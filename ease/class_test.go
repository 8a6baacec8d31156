package ease_test

import (
	"math/rand"
	"slices"
	"testing"

	"catscradle/api"
	"catscradle/code"
	"catscradle/ease"
)

// printed returns the codes of a list as strings, sorted.
func printed(l []api.Code) []string {
	var all []string
	for _, c := range l {
		all = append(all, code.Print(c))
	}
	slices.Sort(all)
	return all
}

// P4.2: examples.
func TestClass(t *testing.T) {
	for _, c := range []struct {
		code  string
		limit int
		want  string
		whole bool
	}{
		{"2: 0.1 1.1", 5, "2: 0.1 1.1", true},
		{"2: 1.1 0.1", 1, "2: 0.1 1.1", true},
		{"1:", 1, "1:", true},
		{"1: 0.1 0.2 0.3 1.1", 3, "1: 0.1 0.2 0.3 1.1", true},
		{"1: 0.1 1u+ 1.1 0.2 1o+ 1.2", api.MaxClass, "1: 0.1 1u+ 1.1 0.2 1o+ 1.2, 1: 0.1 1.2 1u+ 0.2 1.1 1o+", true},
		{"1: 0.1 1.2 1u+ 0.2 1.1 1o+", 2, "1: 0.1 1.2 1u+ 0.2 1.1 1o+, 1: 0.1 1u+ 1.1 0.2 1o+ 1.2", true},
		{"1: 0.1 1.2 1u+ 0.2 1.1 1o+", 1, "1: 0.1 1.2 1u+ 0.2 1.1 1o+", false},
		{"4: 2.1 4.2 1o- 3.1 2o+ 3.3 4.1 2u+ 3.2 1u-", 2, "4: 2.1 4.2 1o- 3.1 2o+ 3.3 4.1 2u+ 3.2 1u-, 4: 2.1 4.2 3.2 1o- 2o+ 3.3 4.1 2u+ 1u- 3.1", false},
	} {
		got, whole := class(t, read(t, c.code), c.limit)
		if list(got) != c.want || whole != c.whole {
			t.Errorf("Class(%s, %d): %s, %v, not %s, %v", c.code, c.limit, list(got), whole, c.want, c.whole)
		}
	}
}

// P4.2: all codes have as many passes and crossings as the first one, are normal forms, and each is there once.
func TestMembers(t *testing.T) {
	for _, c := range samples() {
		l, _ := class(t, c, 60)
		if !equal(l[0], normal(t, c)) {
			t.Fatalf("the class of %s begins with %s", code.Print(c), code.Print(l[0]))
		}
		for _, d := range l {
			if code.Passes(d) != code.Passes(c) || code.Crossings(d) != code.Crossings(c) || d.Fingers != c.Fingers || !equal(normal(t, d), d) {
				t.Fatalf("%s is in the class of %s", code.Print(d), code.Print(c))
			}
		}
		if all := printed(l); len(slices.Compact(all)) < len(l) {
			t.Fatalf("the class of %s: %s", code.Print(c), list(l))
		}
	}
}

// P4.2: whole classes are the classes of all their codes.
func TestWholeClasses(t *testing.T) {
	several := 0
	for _, c := range samples() {
		l, whole := class(t, c, 30)
		if !whole {
			continue
		}
		if len(l) > 1 {
			several++
		}
		for _, d := range l {
			other, too := class(t, d, 30)
			if !too || !slices.Equal(printed(l), printed(other)) {
				t.Fatalf("the classes of %s and %s: %s and %s", code.Print(c), code.Print(d), list(l), list(other))
			}
		}
	}
	if several < 20 {
		t.Errorf("%d whole classes of several codes", several)
	}
}

// P4.2: a class that is cut off is the beginning of the class; it is whole if it has as many codes as the limit.
func TestCutOff(t *testing.T) {
	for _, c := range tangles(20, 24) {
		l, whole := class(t, c, 60)
		for limit := 1; limit <= len(l); limit++ {
			part, all := class(t, c, limit)
			if !slices.EqualFunc(part, l[:limit], equal) || all != (whole && limit == len(l)) {
				t.Fatalf("Class(%s, %d): %s, %v", code.Print(c), limit, list(part), all)
			}
		}
	}
}

// P4.2: the class is that of the normal form.
func TestClassOfNormal(t *testing.T) {
	for _, c := range samples() {
		want, whole := class(t, normal(t, c), 20)
		if got, all := class(t, c, 20); !slices.EqualFunc(got, want, equal) || all != whole {
			t.Fatalf("Class(%s): %s, not %s", code.Print(c), list(got), list(want))
		}
	}
}

// P4.6: the class of a code without crossings.
func TestClassWithoutCrossings(t *testing.T) {
	r := rand.New(rand.NewSource(5))
	for range 60 {
		c := shaken(r, api.Code{Fingers: 1 + r.Intn(4)}, 40, 20, api.AxisMake, api.TipRight, api.TipLeft)
		if l, whole := class(t, c, 1); !whole || len(l) != 1 || !equal(l[0], normal(t, c)) {
			t.Fatalf("Class(%s): %s, %v", code.Print(c), list(l), whole)
		}
	}
}

// P4.2, P0.1: the greatest limit.
func TestGreatestLimit(t *testing.T) {
	c := read(t, "0: 0.4 10u- 6u- 0.7 7u+ 0.9 4u- 5u+ 2o- 1o+ 0.10 7o+ 0.8 4o- 8u+ 2u- 9u- 0.1 3u+ 0.3 10o- 0.5 11o+ 3o+ 0.2 9o- 1u+ 8o+ 5o+ 6o- 0.6 11u+")
	l, whole := class(t, c, api.MaxClass)
	if len(l) != api.MaxClass || whole {
		t.Error(len(l), whole)
	}
	if f := must[api.Form](t)(ease.Make(c, api.MaxClass)); reducing(t, f.Code) {
		t.Error(code.Print(f.Code))
	}
}
