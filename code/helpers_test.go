package code_test

import (
	"fmt"
	"math/rand"
	"slices"
	"strings"
	"testing"

	"catscradle/api"
	"catscradle/code"
)

// raw reads a code that need not be valid.
func raw(s string) api.Code {
	var c api.Code
	head, rest, _ := strings.Cut(s, ":")
	fmt.Sscan(head, &c.Fingers)
	for _, part := range strings.Fields(rest) {
		var l api.Letter
		var strand, sign rune
		if strings.Contains(part, ".") {
			l.Kind = api.Pass
			fmt.Sscanf(part, "%d.%d", &l.Gate, &l.Rank)
		} else {
			l.Kind = api.Cross
			fmt.Sscanf(part, "%d%c%c", &l.ID, &strand, &sign)
			l.Over = strand == 'o'
			l.Sign = map[rune]int{'+': 1, '-': -1}[sign]
		}
		c.Letters = append(c.Letters, l)
	}
	return c
}

func pass(gate, rank int) api.Letter {
	return api.Letter{Kind: api.Pass, Gate: gate, Rank: rank}
}

func cross(id int, over bool, sign int) api.Letter {
	return api.Letter{Kind: api.Cross, ID: id, Over: over, Sign: sign}
}

func equal(a, b api.Code) bool {
	return a.Fingers == b.Fingers && slices.Equal(a.Letters, b.Letters)
}

// want reports a result that is not the expected one.
func want(t *testing.T, name string, got api.Code, e api.Errno, result api.Code, err api.Errno) {
	t.Helper()
	if e != err || !equal(got, result) {
		t.Errorf("%s: %s, %d instead of %s, %d", name, code.Print(got), e, code.Print(result), err)
	}
}

// must returns a result that must come without an error.
func must[T any](t *testing.T) func(result T, e api.Errno) T {
	return func(result T, e api.Errno) T {
		t.Helper()
		if e != api.OK {
			t.Fatalf("the error %d", e)
		}
		return result
	}
}

// snake returns a curve that weaves through the axis without a finger, n times, and comes back above it.
func snake(n int) api.Code {
	c := api.Code{}
	for rank := range n {
		c.Letters = append(c.Letters, pass(0, rank+1))
	}
	return c
}

// kinks returns a circle around the first one of k fingers, with n kinks below the axis.
func kinks(k, n int) api.Code {
	letters := []api.Letter{pass(0, 1)}
	for id := n; id > 0; id-- {
		letters = append(letters, cross(id, false, 1), cross(id, true, 1))
	}
	return api.Code{Fingers: k, Letters: append(letters, pass(1, 1))}
}

// samples returns valid codes: drawn ones, and some others.
func samples() []api.Code {
	all := []api.Code{{}, {Fingers: 3}, {Fingers: 40}, raw("2: 0.1 1.1"), raw("2: 1.1 0.1"), raw("1: 0.1 0.2"), raw("2: 0.1 1u+ 1o+ 1.1"), raw("40: 39.1 40.1"), snake(10), kinks(2, 7)}
	r := rand.New(rand.NewSource(3))
	for range 300 {
		all = append(all, randomCurve(r).code())
	}
	return all
}

// call is a function that returns a code.
type call struct {
	name string
	do   func(api.Code) (api.Code, api.Errno)
}

// calls returns all functions that return a code, as functions of one code, with other arguments that are often possible.
func calls() []call {
	return []call{
		{"Normal", code.Normal},
		{"Rename", code.Rename},
		{"Start", func(c api.Code) (api.Code, api.Errno) { return code.Start(c, 0) }},
		{"Back", code.Back},
		{"Swap", code.Swap},
		{"Mirror", code.Mirror},
		{"Turn", code.Turn},
		{"Forget", func(c api.Code) (api.Code, api.Errno) { return code.Forget(c, 1) }},
		{"Insert", func(c api.Code) (api.Code, api.Errno) { return code.Insert(c, api.Place{}) }},
	}
}
