package hand_test

import (
	"math"
	"strings"
	"testing"

	"catscradle/api"
	"catscradle/hand"
)

// P6.1: Valid.
func TestValid(t *testing.T) {
	f := func(fingers ...api.Finger) []api.Finger { return fingers }
	four, _ := hand.Standard(4)
	tooMany := append(four.Fingers[:40:40], api.Finger{Person: 5})
	for _, c := range []struct {
		fr   api.Frame
		want bool
	}{
		{api.Frame{Loops: 1}, true},
		{api.Frame{Fingers: f(), Reach: 40, Loops: 20}, true},
		{api.Frame{}, false},
		{api.Frame{Loops: 21}, false},
		{api.Frame{Loops: -1}, false},
		{api.Frame{Loops: math.MinInt}, false},
		{api.Frame{Loops: 1, Reach: 41}, false},
		{api.Frame{Loops: 1, Reach: -1}, false},
		{api.Frame{Loops: 1, Fingers: f(api.Finger{Person: 1})}, true},
		{api.Frame{Loops: 1, Fingers: f(api.Finger{Person: 9, Right: true, Digit: 6})}, true},
		{api.Frame{Loops: 1, Fingers: f(api.Finger{Person: 10})}, false},
		{api.Frame{Loops: 1, Fingers: f(api.Finger{})}, false},
		{api.Frame{Loops: 1, Fingers: f(api.Finger{Person: -1})}, false},
		{api.Frame{Loops: 1, Fingers: f(api.Finger{Person: 1, Digit: 7})}, false},
		{api.Frame{Loops: 1, Fingers: f(api.Finger{Person: 1, Digit: -1})}, false},
		{api.Frame{Loops: 1, Fingers: f(api.Finger{Person: 1}, api.Finger{Person: 2}, api.Finger{Person: 1, Right: true})}, true},
		{api.Frame{Loops: 1, Fingers: f(api.Finger{Person: 1}, api.Finger{Person: 2}, api.Finger{Person: 1})}, false},
		{api.Frame{Loops: 1, Fingers: four.Fingers}, true},
		{api.Frame{Loops: 1, Fingers: tooMany}, false},
	} {
		if hand.Valid(c.fr) != c.want {
			t.Errorf("Valid(%v) is not %v", c.fr, c.want)
		}
	}
}

// P6.1: Standard.
func TestStandard(t *testing.T) {
	one := "L1 L2 L3 L4 L5 R5 R4 R3 R2 R1"
	two := one + " 2L1 2L2 2L3 2L4 2L5 2R5 2R4 2R3 2R2 2R1"
	for persons, want := range []string{"", one, two} {
		fr, e := hand.Standard(persons)
		var names []string
		for _, f := range fr.Fingers {
			names = append(names, hand.Name(f))
		}
		if e != api.OK || strings.Join(names, " ") != want || fr.Reach != 6 || fr.Loops != 4 {
			t.Errorf("Standard(%d): %v, %d", persons, fr, e)
		}
	}
	four, e := hand.Standard(4)
	if e != api.OK || len(four.Fingers) != 40 || hand.Name(four.Fingers[39]) != "4R1" || !hand.Valid(four) {
		t.Error(four, e)
	}
	for _, persons := range []int{-1, 5, math.MinInt, math.MaxInt} {
		if fr, e := hand.Standard(persons); e != api.ErrArg || len(fr.Fingers) > 0 || fr.Reach != 0 || fr.Loops != 0 {
			t.Errorf("Standard(%d): %v, %d", persons, fr, e)
		}
	}
}

// P6.1: Name, for any numbers.
func TestName(t *testing.T) {
	for _, c := range []struct {
		f    api.Finger
		want string
	}{
		{api.Finger{Person: 1, Digit: 2}, "L2"},
		{api.Finger{Person: 2, Right: true, Digit: 5}, "2R5"},
		{api.Finger{Person: 1}, "L0"},
		{api.Finger{}, "0L0"},
		{api.Finger{Person: -1, Right: true, Digit: -23}, "-1R-23"},
		{api.Finger{Person: 123, Digit: 10}, "123L10"},
		{api.Finger{Person: math.MinInt, Digit: math.MaxInt}, "-9223372036854775808L9223372036854775807"},
	} {
		if got := hand.Name(c.f); got != c.want {
			t.Errorf("Name(%v): %s, not %s", c.f, got, c.want)
		}
	}
}

// P6.1: ParseName of Name is the finger.
func TestParseName(t *testing.T) {
	known := map[string]bool{}
	for person := 1; person <= 9; person++ {
		for digit := range 7 {
			for _, right := range []bool{false, true} {
				f := api.Finger{Person: person, Right: right, Digit: digit}
				known[hand.Name(f)] = true
				if got, e := hand.ParseName(hand.Name(f)); e != api.OK || got != f {
					t.Errorf("ParseName(%s): %v, %d", hand.Name(f), got, e)
				}
			}
		}
	}
	// All strings of up to four of these characters.
	characters := "0123456789LRl-+. \xff"
	var try func(s string)
	try = func(s string) {
		if f, e := hand.ParseName(s); !known[s] && (e != api.ErrText || f != api.Finger{}) || known[s] && e != api.OK {
			t.Errorf("ParseName(%q): %v, %d", s, f, e)
		}
		for i := range characters {
			if len(s) < 4 {
				try(s + characters[i:i+1])
			}
		}
	}
	try("")
	for _, s := range []string{"L7", "1L1", "0L1", "10L1", "01L1", "L01", "2L10", "l1", "L-1", "2", "L", "LL", "L1L1", strings.Repeat("L1", 1<<16)} {
		if f, e := hand.ParseName(s); e != api.ErrText || f != (api.Finger{}) {
			t.Errorf("ParseName(%q): %v, %d", s[:min(len(s), 10)], f, e)
		}
	}
}

// P6.1: Index, also for frames that are not valid.
func TestIndex(t *testing.T) {
	fr := standard(t)
	for i, f := range fr.Fingers {
		if got := hand.Index(fr, f); got != i+1 {
			t.Errorf("Index of %s: %d", hand.Name(f), got)
		}
	}
	if i := hand.Index(fr, finger(t, "R2")); i != 9 {
		t.Error(i)
	}
	odd := api.Frame{Loops: -1, Fingers: []api.Finger{{Person: 1}, {Person: 77, Digit: 8}, {Person: 77, Digit: 8}}}
	for _, c := range []struct {
		f    api.Finger
		want int
	}{{api.Finger{Person: 77, Digit: 8}, 2}, {api.Finger{Person: 77, Digit: 8, Right: true}, 0}, {api.Finger{}, 0}, {api.Finger{Person: 1}, 1}} {
		if got := hand.Index(odd, c.f); got != c.want {
			t.Errorf("Index of %v: %d, not %d", c.f, got, c.want)
		}
	}
	if hand.Index(api.Frame{}, api.Finger{}) != 0 {
		t.Error("a finger in an empty frame")
	}
}
