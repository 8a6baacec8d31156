package line_test

import (
	"math"
	"slices"
	"strings"
	"testing"

	"catscradle/api"
	"catscradle/line"
)

// P1.8: Print.
func TestPrint(t *testing.T) {
	for _, c := range []struct {
		w    []int
		want string
	}{
		{list(0, 12), "0 12"},
		{nil, "-"},
		{[]int{}, "-"},
		{list(7), "7"},
		{list(-1, 0, -20), "-1 0 -20"},
		{list(1, 2, 3), "1 2 3"},
		{list(math.MaxInt64, math.MinInt64), "9223372036854775807 -9223372036854775808"},
		{fill(1000, 9), strings.Repeat("9 ", 999) + "9"},
	} {
		if got := line.Print(c.w); got != c.want {
			t.Errorf("Print(%v): %q", c.w, got)
		}
	}
}

// P1.8: Parse, its examples, edges and errors.
func TestParse(t *testing.T) {
	for _, c := range []struct {
		s    string
		want []int
		e    api.Errno
	}{
		{"0 1", list(0, 1), api.OK},
		{"40 0 12 12", list(40, 0, 12, 12), api.OK},
		{"-", nil, api.OK},
		{"", nil, api.ErrText},
		{" ", nil, api.ErrText},
		{"0", nil, api.ErrText},
		{"0 1 2", nil, api.ErrText},
		{"0 01", nil, api.ErrText},
		{"00 1", nil, api.ErrText},
		{"-1 0", nil, api.ErrText},
		{"-0 1", nil, api.ErrText},
		{"+0 1", nil, api.ErrText},
		{"0 +1", nil, api.ErrText},
		{"0 41", nil, api.ErrText},
		{"0  1", nil, api.ErrText},
		{" 0 1", nil, api.ErrText},
		{"0 1 ", nil, api.ErrText},
		{"0 1\n", nil, api.ErrText},
		{"0\t1", nil, api.ErrText},
		{"0,1", nil, api.ErrText},
		{"0 x", nil, api.ErrText},
		{"0 1_0", nil, api.ErrText},
		{"0 0x1", nil, api.ErrText},
		{"0 1e0", nil, api.ErrText},
		{"- -", nil, api.ErrText},
		{"--", nil, api.ErrText},
		{"-\n", nil, api.ErrText},
		{"0 \xff", nil, api.ErrText},
		{"0 \u0661", nil, api.ErrText},
		{"0 99999999999999999999", nil, api.ErrText},
		{"0 18446744073709551617", nil, api.ErrText},
		{strings.Repeat("7 ", 399) + "7", fill(400, 7), api.OK},
		{strings.Repeat("40 ", 399) + "40", fill(400, 40), api.OK},
		{strings.Repeat("7 ", 401) + "7", nil, api.ErrText},
		{strings.Repeat("7 ", 999) + "77", nil, api.ErrText},
		{strings.Repeat("7 ", 999) + "777", nil, api.ErrLong},
		{strings.Repeat("-", 2000), nil, api.ErrText},
		{strings.Repeat("-", 2001), nil, api.ErrLong},
	} {
		got, e := line.Parse(c.s)
		want(t, "Parse("+c.s+")", got, e, c.want, c.e)
	}
}

// P1.8: Print and Parse invert each other on words.
func TestPrintParse(t *testing.T) {
	for _, w := range samples() {
		got, e := line.Parse(line.Print(w))
		want(t, "Parse of Print", got, e, w, api.OK)
	}
	for gate := range 41 {
		got, e := line.Parse(line.Print(list(gate, 40-gate)))
		want(t, "Parse of Print", got, e, list(gate, 40-gate), api.OK)
	}
}

// P1.8: whatever short string Parse reads is what Print returns.
func TestParseOnlyPrinted(t *testing.T) {
	all := []string{""}
	short := all
	for range 4 {
		var longer []string
		for _, s := range short {
			for _, c := range "014- +\x00" {
				longer = append(longer, s+string(c))
			}
		}
		all = append(all, longer...)
		short = longer
	}
	read := 0
	for _, s := range all {
		w, e := line.Parse(s)
		if e == api.OK && (line.Print(w) != s || !line.Valid(api.MaxFingers, w)) {
			t.Errorf("Parse(%q): %v", s, w)
		}
		if e == api.OK {
			read++
		} else if e != api.ErrText || len(w) > 0 {
			t.Errorf("Parse(%q): %v, %d", s, w, e)
		}
	}
	printed := []string{"-"}
	for _, w := range lists(40, 2) {
		printed = append(printed, line.Print(w))
	}
	printed = slices.DeleteFunc(printed, func(s string) bool { return len(s) > 4 || strings.ContainsAny(s, "2356789") })
	if read != len(printed) {
		t.Errorf("%d strings are read, not %d", read, len(printed))
	}
}
