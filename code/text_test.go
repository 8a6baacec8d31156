package code_test

import (
	"math"
	"strings"
	"testing"

	"catscradle/api"
	"catscradle/code"
)

// P2.7: Print of any code.
func TestPrint(t *testing.T) {
	for _, c := range []struct {
		c api.Code
		s string
	}{
		{api.Code{}, "0:"},
		{api.Code{Fingers: -12}, "-12:"},
		{api.Code{Fingers: 2, Letters: []api.Letter{pass(0, 1), pass(1, 1)}}, "2: 0.1 1.1"},
		{api.Code{Fingers: 2, Letters: []api.Letter{pass(-3, -10), cross(4, true, 1), cross(0, false, -1), cross(-5, true, 0), cross(6, false, 2)}}, "2: -3.-10 4o+ 0u- -5o? 6u?"},
		{api.Code{Fingers: 2, Letters: []api.Letter{{}, {Kind: 3, Gate: 1}, {Kind: -1}}}, "2: ? ? ?"},
		{api.Code{Fingers: 1, Letters: []api.Letter{{Kind: api.Pass, Gate: 1, Rank: 2, ID: 7, Sign: 1, Over: true}, {Kind: api.Cross, Gate: 1, Rank: 2, ID: 7, Sign: 1}}}, "1: 1.2 7u+"},
		{api.Code{Fingers: math.MaxInt, Letters: []api.Letter{pass(math.MinInt, 0)}}, "9223372036854775807: -9223372036854775808.0"},
	} {
		if got := code.Print(c.c); got != c.s {
			t.Errorf("Print: %s instead of %s", got, c.s)
		}
	}
}

// P2.7: Parse, its example, edges and errors.
func TestParse(t *testing.T) {
	for _, c := range []struct {
		s string
		e api.Errno
	}{
		{"2: 0.1 1.1", api.OK},
		{"3:", api.OK},
		{"2: 0.1 1u+ 1o+ 1.1", api.OK},
		{"2: 0.1 2u- 2o- 1u- 1o- 1.1", api.OK},
		{"1: 0.1  1.1", api.ErrText},
		{"1:  0.1 1.1", api.ErrText},
		{"1: 0.1 1.1 ", api.ErrText},
		{" 1: 0.1 1.1", api.ErrText},
		{"1:0.1 1.1", api.ErrText},
		{"1: 0.1\t1.1", api.ErrText},
		{"1: 0.1\n1.1", api.ErrText},
		{"1: 0.1 1.1\n", api.ErrText},
		{"1 : 0.1 1.1", api.ErrText},
		{"1: ", api.ErrText},
		{"1", api.ErrText},
		{":", api.ErrText},
		{"", api.ErrText},
		{"0", api.ErrText},
		{"1:: 0.1 1.1", api.ErrText},
		{"1: 0.1 : 1.1", api.ErrText},
		{"01: 0.1 1.1", api.ErrText},
		{"+1: 0.1 1.1", api.ErrText},
		{"-0: 0.1 1.1", api.ErrText},
		{"x: 0.1 1.1", api.ErrText},
		{"1: 00.1 1.1", api.ErrText},
		{"1: 0.01 1.1", api.ErrText},
		{"1: 0.+1 1.1", api.ErrText},
		{"1: -0.1 1.1", api.ErrText},
		{"1: 0. 1.1", api.ErrText},
		{"1: .1 1.1", api.ErrText},
		{"1: 0.1.1 1.1", api.ErrText},
		{"1: 0,1 1.1", api.ErrText},
		{"1: 0 1.1", api.ErrText},
		{"1: 0.1 ? 1.1", api.ErrText},
		{"1: ?", api.ErrText},
		{"2: 0.1 1u? 1o? 1.1", api.ErrText},
		{"2: 0.1 u+ 1o+ 1.1", api.ErrText},
		{"2: 0.1 1u 1o 1.1", api.ErrText},
		{"2: 0.1 1+ 1+ 1.1", api.ErrText},
		{"2: 0.1 + 1.1", api.ErrText},
		{"2: 0.1 1x+ 1o+ 1.1", api.ErrText},
		{"2: 0.1 1U+ 1O+ 1.1", api.ErrText},
		{"2: 0.1 01u+ 01o+ 1.1", api.ErrText},
		{"2: 0.1 1u1 1o1 1.1", api.ErrText},
		{"9223372036854775808: 0.1", api.ErrText},
		{"2: 9223372036854775808.1 0.1", api.ErrText},
		{"2: 99999999999999999999u+", api.ErrText},
		{"9223372036854775807: 0.1", api.ErrArg},
		{"-9223372036854775808:", api.ErrArg},
		{"2: 9223372036854775807.1 0.1", api.ErrCode},
		{"41:", api.ErrArg},
		{"-1:", api.ErrArg},
		{"2: 0.1", api.ErrCode},
		{"2: -1.1 0.1", api.ErrCode},
		{"2: 0.-1 0.1", api.ErrCode},
		{"2: 0.1 -1u+ -1o+ 1.1", api.ErrCode},
		{"2: 1u+ 1o+", api.ErrCode},
		{"1: 0.1 1u+ 1.1 1o+", api.ErrCode},
		{"2:" + strings.Repeat(" 0.1", 401), api.ErrLong},
		{"41:" + strings.Repeat(" 1u+", 201), api.ErrLong},
		{"41:" + strings.Repeat(" 1u+", 200), api.ErrArg},
		{"2:" + strings.Repeat(" ", 7998), api.ErrText},
		{"2:" + strings.Repeat(" ", 7999), api.ErrLong},
		{strings.Repeat("x", 8001), api.ErrLong},
		{strings.Repeat("x", 8000), api.ErrText},
		{"\xff\x00", api.ErrText},
	} {
		got, e := code.Parse(c.s)
		want(t, "Parse("+c.s+")", got, e, map[bool]api.Code{true: raw(c.s)}[c.e == api.OK], c.e)
	}
}

// P2.7: Parse inverts Print.
func TestParsePrint(t *testing.T) {
	for _, c := range append(samples(), snake(400), kinks(40, 100)) {
		got, e := code.Parse(code.Print(c))
		want(t, "Parse of Print", got, e, c, api.OK)
	}
}
