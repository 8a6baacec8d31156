package line_test

import (
	"math"
	"slices"
	"strings"
	"testing"

	"catscradle/api"
	"catscradle/line"
)

// calls returns all functions that return a list, as functions of one word for 4 fingers.
func calls() map[string]func([]int) ([]int, api.Errno) {
	return map[string]func([]int) ([]int, api.Errno){
		"Normal":  line.Normal,
		"Reverse": line.Reverse,
		"Turn":    line.Turn,
		"Ranks":   line.Ranks,
		"Mirror":  func(w []int) ([]int, api.Errno) { return line.Mirror(4, w) },
		"Forget":  func(w []int) ([]int, api.Errno) { return line.Forget(4, w, 2) },
		"Winding": func(w []int) ([]int, api.Errno) { return line.Winding(4, w) },
		"Inside":  func(w []int) ([]int, api.Errno) { return line.Inside(4, w) },
	}
}

// R4 and R8: arguments are neither changed nor kept, and equal calls have equal results.
func TestMemory(t *testing.T) {
	for name, call := range calls() {
		for _, w := range samples() {
			arg := slices.Clone(w)
			first, e := call(arg)
			if !slices.Equal(arg, w) {
				t.Fatalf("%s changes %v to %v", name, w, arg)
			}
			kept := slices.Clone(first)
			for i := range arg {
				arg[i] = -7
			}
			if !slices.Equal(first, kept) {
				t.Fatalf("%s(%v) shares memory with its argument", name, w)
			}
			second, e2 := call(slices.Clone(w))
			if !slices.Equal(second, kept) || e != e2 {
				t.Fatalf("%s(%v): %v, then %v", name, w, kept, second)
			}
			for i := range first {
				first[i] = -7
			}
			if !slices.Equal(second, kept) {
				t.Fatalf("%s(%v): the results share memory", name, w)
			}
		}
	}
}

// R3: nil and empty lists are the same.
func TestEmpty(t *testing.T) {
	for name, call := range calls() {
		one, e := call(nil)
		two, e2 := call([]int{})
		if !slices.Equal(one, two) || e != api.OK || e2 != api.OK {
			t.Errorf("%s: %v, %d and %v, %d", name, one, e, two, e2)
		}
	}
}

// P0.1, R2 and R5: no arguments make a function panic, and with an error a result is empty.
func TestAnyValue(t *testing.T) {
	numbers := list(math.MinInt, -1, 0, 1, 3, 40, 41, math.MaxInt)
	all := [][]int{nil, list(0), list(0, 1), list(1, 1), list(-1, 0), list(41, 0), list(math.MaxInt, math.MinInt), list(math.MinInt, math.MinInt), fill(400, 0), fill(400, -1), fill(401, 0), fill(5000, 3), fill(5000, math.MinInt)}
	empty := func(name string, w []int, e api.Errno) {
		if e != api.OK && len(w) > 0 {
			t.Errorf("%s: %v with the error %d", name, w, e)
		}
		if e != api.OK && e != api.ErrArg && e != api.ErrLong && e != api.ErrNone {
			t.Errorf("%s: the error %d", name, e)
		}
	}
	for _, w := range all {
		for name, call := range calls() {
			got, e := call(w)
			empty(name, got, e)
		}
		line.Reduced(w)
		line.Print(w)
		for _, k := range numbers {
			line.Valid(k, w)
			got, e := line.Mirror(k, w)
			empty("Mirror", got, e)
			got, e = line.Winding(k, w)
			empty("Winding", got, e)
			got, e = line.Inside(k, w)
			empty("Inside", got, e)
			got, e = line.Circle(k, len(w))
			empty("Circle", got, e)
			for _, f := range numbers {
				got, e = line.Forget(k, w, f)
				empty("Forget", got, e)
				got, e = line.Circle(k, f)
				empty("Circle", got, e)
			}
		}
		for _, v := range all {
			if same, e := line.Same(v, w); e != api.OK && same {
				t.Errorf("Same(%v, %v): true with the error %d", v, w, e)
			}
		}
	}
	for _, s := range []string{"", "\x00", "\xff\xfe", strings.Repeat("0 ", 1000), strings.Repeat("9", 5000), strings.Repeat(" ", 2000)} {
		if w, e := line.Parse(s); e == api.OK || len(w) > 0 {
			t.Errorf("Parse(%q): %v, %d", s, w, e)
		}
	}
}
