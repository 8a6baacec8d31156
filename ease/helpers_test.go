package ease_test

import (
	"math/rand"
	"slices"
	"strings"
	"sync"
	"testing"

	"catscradle/api"
	"catscradle/code"
	"catscradle/ease"
	"catscradle/move"
)

// read reads a code that must be valid.
func read(t *testing.T, s string) api.Code {
	t.Helper()
	c, e := code.Parse(s)
	if e != api.OK {
		t.Fatalf("%s: %d", s, e)
	}
	return c
}

// readMoves reads moves that are separated by commas.
func readMoves(t *testing.T, s string) []api.Move {
	t.Helper()
	var l []api.Move
	for part := range strings.SplitSeq(s, ", ") {
		if s == "" {
			continue
		}
		m, e := move.Parse(part)
		if e != api.OK {
			t.Fatalf("%s: %d", part, e)
		}
		l = append(l, m)
	}
	return l
}

func equal(a, b api.Code) bool {
	return a.Fingers == b.Fingers && slices.Equal(a.Letters, b.Letters)
}

func equalForms(a, b api.Form) bool {
	return equal(a.Code, b.Code) && slices.Equal(a.Path, b.Path) && a.Whole == b.Whole
}

// copied returns a code with letters of its own.
func copied(c api.Code) api.Code {
	return api.Code{Fingers: c.Fingers, Letters: slices.Clone(c.Letters)}
}

// must returns a result that must come without an error.
func must[T any](t *testing.T) func(result T, e api.Errno) T {
	return func(result T, e api.Errno) T {
		t.Helper()
		if e != api.OK {
			t.Fatalf("the error %d", e)
		}
		return result
	}
}

// normal returns the normal form of a valid code.
func normal(t *testing.T, c api.Code) api.Code {
	t.Helper()
	return must[api.Code](t)(code.Normal(c))
}

// class returns the class of a valid code.
func class(t *testing.T, c api.Code, limit int) ([]api.Code, bool) {
	t.Helper()
	l, whole, e := ease.Class(c, limit)
	if e != api.OK {
		t.Fatalf("Class(%s, %d): the error %d", code.Print(c), limit, e)
	}
	return l, whole
}

// follow replays moves on a valid code. All of them must be possible.
func follow(t *testing.T, c api.Code, l []api.Move) api.Code {
	t.Helper()
	d, n, e := move.Replay(c, l)
	if e != api.OK {
		t.Fatalf("%s; %s: the error %d of move %d", code.Print(c), show(l), e, n)
	}
	return d
}

// reducing reports whether a valid code has a possible reducing move.
func reducing(t *testing.T, c api.Code) bool {
	t.Helper()
	return len(must[[]api.Move](t)(move.Some(c, api.AxisCut, api.LoopCut, api.PairCut))) > 0
}

// show returns moves as a string.
func show(l []api.Move) string {
	s := ""
	for i, m := range l {
		if i > 0 {
			s += ", "
		}
		s += move.Print(m)
	}
	return s
}

// list returns codes as a string.
func list(l []api.Code) string {
	s := ""
	for i, c := range l {
		if i > 0 {
			s += ", "
		}
		s += code.Print(c)
	}
	return s
}

func pass(gate, rank int) api.Letter {
	return api.Letter{Kind: api.Pass, Gate: gate, Rank: rank}
}

func cross(id int, over bool, sign int) api.Letter {
	return api.Letter{Kind: api.Cross, ID: id, Over: over, Sign: sign}
}

// snake returns a curve that weaves n times through the axis, around no finger.
func snake(n int) api.Code {
	c := api.Code{Fingers: 1}
	for rank := range n {
		c.Letters = append(c.Letters, pass(1, rank+1))
	}
	return c
}

// kinks returns a snake of m passes with n kinks in its first edge.
func kinks(m, n int) api.Code {
	c := snake(m)
	for id := n; id > 0; id-- {
		c.Letters = slices.Insert(c.Letters, 1, cross(id, true, -1), cross(id, false, -1))
	}
	return c
}

// shaken returns what random moves make of a code, within a number of letters.
func shaken(r *rand.Rand, c api.Code, steps, letters int, kinds ...api.MoveKind) api.Code {
	for range steps {
		// Each kind has the same chance, though there are many more ways to make something than to take it away.
		l, _ := move.Some(c, kinds[r.Intn(len(kinds))])
		if len(l) == 0 {
			continue
		}
		next, e := move.Apply(c, l[r.Intn(len(l))])
		if e == api.OK && len(next.Letters) <= letters {
			c = next
		}
	}
	return c
}

// loosened returns what random slack moves make of a code.
func loosened(r *rand.Rand, c api.Code, steps, letters int) api.Code {
	return shaken(r, c, steps, letters, api.AxisCut, api.AxisMake, api.AxisSlide, api.LoopCut, api.LoopMake, api.PairCut, api.PairMake, api.Triangle)
}

// wander returns what random moves make of a circle or of the bare loop.
func wander(r *rand.Rand, steps, letters int) api.Code {
	k := r.Intn(5)
	c, _ := code.Bare(k)
	if k > 0 && r.Intn(2) == 0 {
		i := 1 + r.Intn(k)
		c, _ = code.Circle(k, i, i+r.Intn(k-i+1))
	}
	return shaken(r, c, steps, letters, api.AxisCut, api.AxisMake, api.AxisSlide, api.LoopCut, api.LoopMake, api.PairCut, api.PairMake, api.Triangle, api.TipRight, api.TipLeft)
}

// tangles returns reduced codes of up to some letters whose classes have at least two codes.
func tangles(n, letters int) []api.Code {
	r := rand.New(rand.NewSource(31))
	var all []api.Code
	for len(all) < n {
		c, _, _ := ease.Reduce(wander(r, 200, letters))
		if l, _, _ := ease.Class(c, 2); len(l) > 1 {
			all = append(all, c)
		}
	}
	return all
}

// samples returns valid codes: some that are special, some that wandered, and some tangles. They are made once, so nobody may change them.
var samples = sync.OnceValue(func() []api.Code {
	all := []api.Code{{}, {Fingers: 1}, {Fingers: 40}, snake(2), snake(6), kinks(2, 3), kinks(4, 1)}
	r := rand.New(rand.NewSource(7))
	for len(all) < 60 {
		all = append(all, wander(r, 150, 16))
	}
	for len(all) < 90 {
		all = append(all, wander(r, 300, 30))
	}
	return append(all, tangles(40, 30)...)
})
