package move_test

import (
	"math/rand"
	"slices"
	"testing"

	"catscradle/api"
	"catscradle/code"
	"catscradle/move"
)

// allKinds are the ten kinds.
var allKinds = []api.MoveKind{
	api.AxisCut, api.AxisMake, api.AxisSlide, api.LoopCut, api.LoopMake,
	api.PairCut, api.PairMake, api.Triangle, api.TipRight, api.TipLeft,
}

// word returns the word of a kind.
func word(k api.MoveKind) string {
	return []string{"?", "axis-cut", "axis-make", "axis-slide", "loop-cut", "loop-make", "pair-cut", "pair-make", "triangle", "tip-right", "tip-left"}[k]
}

// read reads a code that must be valid.
func read(t *testing.T, s string) api.Code {
	t.Helper()
	c, e := code.Parse(s)
	if e != api.OK {
		t.Fatalf("%s: %d", s, e)
	}
	return c
}

// readMove reads a move that must be one.
func readMove(t *testing.T, s string) api.Move {
	t.Helper()
	m, e := move.Parse(s)
	if e != api.OK {
		t.Fatalf("%s: %d", s, e)
	}
	return m
}

func equal(a, b api.Code) bool {
	return a.Fingers == b.Fingers && slices.Equal(a.Letters, b.Letters)
}

// copied returns a code with letters of its own.
func copied(c api.Code) api.Code {
	return api.Code{Fingers: c.Fingers, Letters: slices.Clone(c.Letters)}
}

// must returns a result that must come without an error.
func must[T any](t *testing.T) func(result T, e api.Errno) T {
	return func(result T, e api.Errno) T {
		t.Helper()
		if e != api.OK {
			t.Fatalf("the error %d", e)
		}
		return result
	}
}

// same reports whether two valid codes are the same.
func same(t *testing.T, a, b api.Code) bool {
	t.Helper()
	return must[bool](t)(code.Same(a, b))
}

// show returns moves as a string.
func show(l []api.Move) string {
	s := ""
	for i, m := range l {
		if i > 0 {
			s += ", "
		}
		s += move.Print(m)
	}
	return s
}

func pass(gate, rank int) api.Letter {
	return api.Letter{Kind: api.Pass, Gate: gate, Rank: rank}
}

func cross(id int, over bool, sign int) api.Letter {
	return api.Letter{Kind: api.Cross, ID: id, Over: over, Sign: sign}
}

// snake returns a curve that weaves n times through the axis, around no finger.
func snake(n int) api.Code {
	c := api.Code{Fingers: 1}
	for rank := range n {
		c.Letters = append(c.Letters, pass(1, rank+1))
	}
	return c
}

// kinks returns a snake of m passes with n kinks in its first edge.
func kinks(m, n int) api.Code {
	c := snake(m)
	for id := n; id > 0; id-- {
		c.Letters = slices.Insert(c.Letters, 1, cross(id, true, -1), cross(id, false, -1))
	}
	return c
}

// wander returns what random moves make of a circle or of the bare loop, within a number of letters.
func wander(r *rand.Rand, steps, letters int) api.Code {
	k := r.Intn(5)
	c, e := code.Bare(k)
	if k > 0 && r.Intn(2) == 0 {
		i := 1 + r.Intn(k)
		c, e = code.Circle(k, i, i+r.Intn(k-i+1))
	}
	for range steps {
		// Each kind has the same chance, though there are many more ways to make something than to take it away.
		l, _ := move.Some(c, allKinds[r.Intn(len(allKinds))])
		if e != api.OK || len(l) == 0 {
			continue
		}
		next, e := move.Apply(c, l[r.Intn(len(l))])
		if e == api.OK && len(next.Letters) <= letters {
			c = next
		}
	}
	return c
}

// samples returns valid codes of up to some letters: drawn ones, wandered ones, and some others.
func samples(letters int) []api.Code {
	all := []api.Code{{}, {Fingers: 1}, {Fingers: 40}, snake(2), snake(6), kinks(2, 3), kinks(4, 1)}
	r := rand.New(rand.NewSource(7))
	for len(all) < 100 {
		all = append(all, wander(r, 150, letters))
	}
	for len(all) < 160 {
		if c, ok := randomCurve(r).code(); ok && len(c.Letters) <= letters {
			all = append(all, c)
		}
	}
	return all
}

// some returns up to n of some moves, as different as possible.
func some(l []api.Move, n int) []api.Move {
	if len(l) <= n {
		return l
	}
	var chosen []api.Move
	for i := range n {
		chosen = append(chosen, l[i*len(l)/n])
	}
	return chosen
}

// someOfEach returns up to n possible moves of each kind.
func someOfEach(t *testing.T, c api.Code, n int) []api.Move {
	t.Helper()
	var chosen []api.Move
	for _, k := range allKinds {
		chosen = append(chosen, some(must[[]api.Move](t)(move.Some(c, k)), n)...)
	}
	return chosen
}
