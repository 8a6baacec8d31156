package sign_test

import (
	"math/rand"
	"slices"
	"strconv"
	"strings"
	"sync"
	"testing"

	"catscradle/api"
	"catscradle/code"
	"catscradle/line"
	"catscradle/move"
	"catscradle/sign"
)

// read reads a code that must be valid.
func read(t *testing.T, s string) api.Code {
	t.Helper()
	return must[api.Code](t)(code.Parse(s))
}

// must returns a result that must come without an error.
func must[T any](t *testing.T) func(result T, e api.Errno) T {
	return func(result T, e api.Errno) T {
		t.Helper()
		if e != api.OK {
			t.Fatalf("the error %d", e)
		}
		return result
	}
}

func bracket(t *testing.T, c api.Code) []api.Term {
	t.Helper()
	return must[[]api.Term](t)(sign.Bracket(c))
}

// normal returns the normal form of a word.
func normal(t *testing.T, w []int) []int {
	t.Helper()
	return must[[]int](t)(line.Normal(w))
}

func equal(a, b api.Code) bool {
	return a.Fingers == b.Fingers && slices.Equal(a.Letters, b.Letters)
}

func equalWitnesses(a, b api.Witness) bool {
	return a.Kind == b.Kind && slices.Equal(a.Fingers, b.Fingers)
}

// copiedCode returns a code with letters of its own.
func copiedCode(c api.Code) api.Code {
	return api.Code{Fingers: c.Fingers, Letters: slices.Clone(c.Letters)}
}

func pass(gate, rank int) api.Letter {
	return api.Letter{Kind: api.Pass, Gate: gate, Rank: rank}
}

func cross(id int, over bool, sign int) api.Letter {
	return api.Letter{Kind: api.Cross, ID: id, Over: over, Sign: sign}
}

// snake returns a curve that weaves n times through the axis, around no finger.
func snake(n int) api.Code {
	c := api.Code{Fingers: 1}
	for rank := range n {
		c.Letters = append(c.Letters, pass(1, rank+1))
	}
	return c
}

// kinks returns a snake of m passes with n kinks in its first edge.
func kinks(m, n int) api.Code {
	c := snake(m)
	for id := n; id > 0; id-- {
		c.Letters = slices.Insert(c.Letters, 1, cross(id, true, -1), cross(id, false, -1))
	}
	return c
}

// braid returns the code of n strands that go around finger 1, over and under each other below the axis. A twist i exchanges the strands i and i + 1, counted from the finger outwards, with the sign 1, and -i with the sign -1. It must be a single string.
func braid(n int, twists ...int) api.Code {
	c := api.Code{Fingers: 1}
	at := n
	for range n {
		c.Letters = append(c.Letters, pass(0, n+1-at))
		for i, twist := range twists {
			sign, inner := 1, twist
			if twist < 0 {
				sign, inner = -1, -twist
			}
			// One who goes around the finger, and has it to the left, sees a strand go from right to left if it goes inwards.
			switch at {
			case inner:
				c.Letters = append(c.Letters, cross(i+1, sign == 1, sign))
				at = inner + 1
			case inner + 1:
				c.Letters = append(c.Letters, cross(i+1, sign == -1, sign))
				at = inner
			}
		}
		c.Letters = append(c.Letters, pass(1, at))
	}
	return c
}

// shaken returns what random moves make of a code, within a number of letters and of crossings.
func shaken(r *rand.Rand, c api.Code, steps, letters, crossings int, kinds ...api.MoveKind) api.Code {
	for range steps {
		// Each kind has the same chance, though there are many more ways to make something than to take it away.
		l, _ := move.Some(c, kinds[r.Intn(len(kinds))])
		if len(l) == 0 {
			continue
		}
		next, e := move.Apply(c, l[r.Intn(len(l))])
		if e == api.OK && len(next.Letters) <= letters && code.Crossings(next) <= crossings {
			c = next
		}
	}
	return c
}

// slackKinds are the kinds of slack moves.
func slackKinds() []api.MoveKind {
	return []api.MoveKind{api.AxisCut, api.AxisMake, api.AxisSlide, api.LoopCut, api.LoopMake, api.PairCut, api.PairMake, api.Triangle}
}

// wander returns what random moves make of a circle or of the bare loop.
func wander(r *rand.Rand, steps, letters, crossings int) api.Code {
	k := r.Intn(5)
	c, _ := code.Bare(k)
	if k > 0 && r.Intn(2) == 0 {
		i := 1 + r.Intn(k)
		c, _ = code.Circle(k, i, i+r.Intn(k-i+1))
	}
	return shaken(r, c, steps, letters, crossings, append(slackKinds(), api.TipRight, api.TipLeft)...)
}

// crossed returns a code in which over and under are exchanged at one crossing, with its sign.
func crossed(c api.Code, id int) api.Code {
	d := copiedCode(c)
	for i, l := range d.Letters {
		if l.ID == id {
			d.Letters[i].Over = !l.Over
			d.Letters[i].Sign = -l.Sign
		}
	}
	return d
}

// knotted returns what random moves make of a random braid, with more fingers at random places.
func knotted(r *rand.Rand, steps, letters, crossings int) api.Code {
	for {
		n := 2 + r.Intn(2)
		var twists []int
		for range n + r.Intn(4) {
			twists = append(twists, (1+r.Intn(n-1))*(1-2*r.Intn(2)))
		}
		c := braid(n, twists...)
		if code.Check(c) != api.OK {
			continue
		}
		for range r.Intn(3) {
			gate := r.Intn(c.Fingers + 1)
			if d, e := code.Insert(c, api.Place{Gate: gate, Left: r.Intn(n + 1)}); e == api.OK {
				c = d
			}
		}
		return shaken(r, c, steps, letters, crossings, append(slackKinds(), api.TipRight, api.TipLeft)...)
	}
}

// samples returns valid codes of up to 9 crossings: some that are special, some that wandered, some of these with other crossings, some knots, and some that are drawn. They are made once, so nobody may change them.
var samples = sync.OnceValue(func() []api.Code {
	all := []api.Code{{}, {Fingers: 1}, {Fingers: 40}, snake(2), snake(6), kinks(2, 3), kinks(4, 1)}
	all = append(all, braid(2, 1), braid(2, -1, -1, -1), braid(2, 1, 1, -1), braid(3, 1, -2, 1, -2), braid(3, 1, 2, 1, 2), braid(4, 1, 2, 3, -1, 2))
	r := rand.New(rand.NewSource(7))
	for len(all) < 70 {
		c := wander(r, 200, 30, 9)
		for id := range code.Crossings(c) {
			if r.Intn(4) == 0 {
				c = crossed(c, id+1)
			}
		}
		all = append(all, c)
	}
	for len(all) < 140 {
		all = append(all, knotted(r, 40, 30, 8))
	}
	for len(all) < 180 {
		all = append(all, randomDrawn(r, 8))
	}
	return all
})

// readTerms reads a list of terms as Print returns it.
func readTerms(t *testing.T, s string) []api.Term {
	t.Helper()
	var l []api.Term
	for part := range strings.SplitSeq(s, "; ") {
		if s == "" {
			continue
		}
		fields := strings.Split(part, ":")
		term := api.Term{Low: readNumbers(t, fields[1])[0], Coeffs: readNumbers(t, fields[2])}
		if fields[0] != "-" {
			for w := range strings.SplitSeq(fields[0], ",") {
				term.Words = append(term.Words, must[[]int](t)(line.Parse(w)))
			}
		}
		l = append(l, term)
	}
	if sign.Print(l) != s {
		t.Fatalf("%q is read as %q", s, sign.Print(l))
	}
	return l
}

// copiedTerms returns terms that share no memory with the given ones.
func copiedTerms(l []api.Term) []api.Term {
	var result []api.Term
	for _, term := range l {
		other := api.Term{Low: term.Low, Coeffs: slices.Clone(term.Coeffs)}
		for _, w := range term.Words {
			other.Words = append(other.Words, slices.Clone(w))
		}
		result = append(result, other)
	}
	return result
}

// readNumbers reads numbers that are separated by spaces.
func readNumbers(t *testing.T, s string) []int {
	t.Helper()
	var l []int
	for part := range strings.FieldsSeq(s) {
		n, err := strconv.Atoi(part)
		if err != nil {
			t.Fatal(s, err)
		}
		l = append(l, n)
	}
	return l
}
