package way_test

import (
	"fmt"
	"math/rand"
	"slices"
	"strings"
	"sync"
	"testing"

	"catscradle/api"
	"catscradle/code"
	"catscradle/hand"
	"catscradle/move"
	"catscradle/notes"
)

// must returns a result that must come without an error.
func must[T any](t *testing.T) func(result T, e api.Errno) T {
	return func(result T, e api.Errno) T {
		t.Helper()
		if e != api.OK {
			t.Fatalf("the error %d", e)
		}
		return result
	}
}

// frame returns a frame with some fingers.
func frame(t *testing.T, names ...string) api.Frame {
	t.Helper()
	fr := api.Frame{Reach: 6, Loops: 4}
	for _, name := range names {
		fr.Fingers = append(fr.Fingers, must[api.Finger](t)(hand.ParseName(name)))
	}
	return fr
}

// standard returns the standard frame of one person.
func standard(t *testing.T) api.Frame {
	t.Helper()
	return must[api.Frame](t)(hand.Standard(1))
}

// read reads a code that must be valid.
func read(t *testing.T, s string) api.Code {
	t.Helper()
	return must[api.Code](t)(code.Parse(s))
}

// signs reads operations in signs.
func signs(t *testing.T, fr api.Frame, s string) []api.Op {
	t.Helper()
	return must[[]api.Op](t)(notes.ReadSigns(fr, s))
}

// inSigns returns operations in signs.
func inSigns(t *testing.T, fr api.Frame, ops []api.Op) string {
	t.Helper()
	return must[string](t)(notes.Signs(fr, ops...))
}

// inWords returns the lines of operations, with semicolons between them.
func inWords(t *testing.T, fr api.Frame, ops []api.Op) string {
	t.Helper()
	s := must[string](t)(notes.Lines(fr, ops...))
	return strings.ReplaceAll(strings.TrimSuffix(s, "\n"), "\n", "; ")
}

// prints returns codes as strings.
func prints(l []api.Code) []string {
	var all []string
	for _, c := range l {
		all = append(all, code.Print(c))
	}
	return all
}

func equal(a, b api.Code) bool {
	return a.Fingers == b.Fingers && slices.Equal(a.Letters, b.Letters)
}

func equalOps(a, b api.Op) bool {
	return a.Kind == b.Kind && a.Finger == b.Finger && a.From == b.From && a.Over == b.Over && slices.Equal(a.Path, b.Path)
}

func equalLists(a, b []api.Op) bool { return slices.EqualFunc(a, b, equalOps) }

func equalLessons(a, b api.Lesson) bool {
	return equalLists(a.Ops, b.Ops) && a.At == b.At && equalOps(a.Next, b.Next) && a.Done == b.Done
}

// copied returns a code with letters of its own.
func copied(c api.Code) api.Code {
	return api.Code{Fingers: c.Fingers, Letters: slices.Clone(c.Letters)}
}

// copiedOps returns operations with paths of their own.
func copiedOps(l []api.Op) []api.Op {
	var all []api.Op
	for _, op := range l {
		op.Path = slices.Clone(op.Path)
		all = append(all, op)
	}
	return all
}

func near(f, loop int) api.String { return api.String{Finger: f, Loop: loop} }
func far(f, loop int) api.String  { return api.String{Finger: f, Loop: loop, Far: true} }

func over(s api.String) api.Step { return api.Step{At: s, Over: true} }

func release(f int) api.Op          { return api.Op{Kind: api.OpRelease, Finger: f} }
func navaho(f int) api.Op           { return api.Op{Kind: api.OpNavaho, Finger: f} }
func twist(f int, over bool) api.Op { return api.Op{Kind: api.OpTwist, Finger: f, Over: over} }

func pick(f int, from api.String, path ...api.Step) api.Op {
	return api.Op{Kind: api.OpPick, Finger: f, From: from, Path: path}
}

func take(f int, from api.String, over bool) api.Op {
	return api.Op{Kind: api.OpTake, Finger: f, From: from, Over: over}
}

// all are the kinds that a search can try.
func all() []api.OpKind {
	return []api.OpKind{api.OpRelease, api.OpNavaho, api.OpTwist, api.OpTake}
}

// rules returns rules with a depth, at most 100 nodes and the limit 100.
func rules(depth int, kinds ...api.OpKind) api.Rules {
	return api.Rules{Kinds: kinds, Depth: depth, Nodes: 100, Limit: 100}
}

// scene is a frame and a posed code.
type scene struct {
	fr api.Frame
	c  api.Code
}

func (s scene) String() string {
	return fmt.Sprintf("%s, frame %v", code.Print(s.c), s.fr)
}

// choice returns one of the choices under some kinds, if there is any.
func (s scene) choice(r *rand.Rand, kinds ...api.OpKind) (api.Op, bool) {
	l := slowChoices(s.fr, s.c, kinds)
	if len(l) == 0 {
		return api.Op{}, false
	}
	return l[r.Intn(len(l))], true
}

// series returns random operations that can be done one after the other; besides choices there are others whose fields name more.
func (s scene) series(r *rand.Rand, n int) []api.Op {
	var ops []api.Op
	for range n {
		op, ok := s.choice(r, all()...)
		if !ok {
			break
		}
		k := s.c.Fingers
		switch r.Intn(6) {
		case 0:
			op = api.Op{Kind: api.OpTransfer, Finger: 1 + r.Intn(k), From: near(1+r.Intn(k), 0), Over: r.Intn(2) == 0}
		case 1:
			op = pick(1+r.Intn(k), op.From)
		case 2, 3:
			if parts, e := hand.Expand(s.fr, s.c, op); e == api.OK {
				op = parts[0]
			}
		}
		next, _, e := hand.Do(s.fr, s.c, op)
		if e != api.OK || code.Crossings(next) > 8 {
			continue
		}
		s.c = next
		ops = append(ops, op)
	}
	return ops
}

// randomScene returns a scene with few fingers.
func randomScene(r *rand.Rand) scene {
	var fingers []api.Finger
	for person := 1; person <= 2; person++ {
		for digit := range 4 {
			fingers = append(fingers, api.Finger{Person: person, Digit: digit}, api.Finger{Person: person, Digit: digit, Right: true})
		}
	}
	r.Shuffle(len(fingers), func(i, j int) { fingers[i], fingers[j] = fingers[j], fingers[i] })
	s := scene{fr: api.Frame{Fingers: fingers[:1+r.Intn(4)], Reach: r.Intn(4), Loops: 1 + r.Intn(4)}}
	var hung []int
	for f := range s.fr.Fingers {
		if r.Intn(3) > 0 {
			hung = append(hung, f+1)
		}
	}
	s.c, _ = hand.Hang(s.fr, hung...)
	for range r.Intn(6) {
		op, ok := s.choice(r, all()...)
		if !ok {
			break
		}
		next, _, e := hand.Do(s.fr, s.c, op)
		if e == api.OK && code.Crossings(next) <= 4 && hand.Posed(s.fr, next) {
			s.c = next
		}
	}
	s.c = traveled(r, s.c)
	return s
}

// randomRules returns rules for a small search.
func randomRules(r *rand.Rand) api.Rules {
	rules := api.Rules{Depth: r.Intn(4), Nodes: 1 + r.Intn(100), Limit: 1 + r.Intn(12)}
	for _, kind := range all() {
		if r.Intn(2) == 0 {
			rules.Kinds = append(rules.Kinds, kind)
		}
	}
	return rules
}

// shaken returns what random slack moves make of a code.
func shaken(r *rand.Rand, c api.Code) api.Code {
	kinds := []api.MoveKind{api.LoopMake, api.LoopCut, api.PairMake, api.PairCut, api.Triangle, api.AxisMake, api.AxisSlide}
	for range 3 {
		l, _ := move.Some(c, kinds[r.Intn(len(kinds))])
		if len(l) == 0 {
			continue
		}
		next, e := move.Apply(c, l[r.Intn(len(l))])
		if e == api.OK && code.Crossings(next) <= 5 {
			c = next
		}
	}
	return c
}

// traveled returns a code that begins elsewhere, perhaps backwards, with other names of the crossings.
func traveled(r *rand.Rand, c api.Code) api.Code {
	names := r.Perm(code.Crossings(c))
	c = copied(c)
	for i, l := range c.Letters {
		if l.Kind == api.Cross {
			c.Letters[i].ID = names[l.ID-1] + 1
		}
	}
	if r.Intn(2) == 0 {
		c, _ = code.Back(c)
	}
	if d, e := code.Start(c, r.Intn(max(1, len(c.Letters)))); e == api.OK {
		return d
	}
	return c
}

// samples are frames and posed codes: some that are special, and others to which random operations have led. They are made once, so nobody may change them.
var samples = sync.OnceValue(func() []scene {
	one, _ := hand.Standard(1)
	l := []scene{{one, api.Code{Fingers: 10}}, {api.Frame{Loops: 1}, api.Code{}}}
	for _, kind := range []api.OpeningKind{api.OpeningFirst, api.OpeningA, api.OpeningIndex} {
		c, ops, _ := hand.Opening(one, kind)
		c, _, _ = hand.Run(one, c, ops...)
		l = append(l, scene{one, c})
	}
	r := rand.New(rand.NewSource(23))
	for len(l) < 150 {
		l = append(l, randomScene(r))
	}
	return l
})
