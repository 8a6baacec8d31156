package hand_test

import (
	"cmp"
	"fmt"
	"math/rand"
	"slices"
	"sync"
	"testing"

	"catscradle/api"
	"catscradle/code"
	"catscradle/hand"
	"catscradle/move"
)

// must returns a result that must come without an error.
func must[T any](t *testing.T) func(result T, e api.Errno) T {
	return func(result T, e api.Errno) T {
		t.Helper()
		if e != api.OK {
			t.Fatalf("the error %d", e)
		}
		return result
	}
}

// read reads a code that must be valid.
func read(t *testing.T, s string) api.Code {
	t.Helper()
	c, e := code.Parse(s)
	if e != api.OK {
		t.Fatalf("%s: %d", s, e)
	}
	return c
}

// finger returns the finger with a name.
func finger(t *testing.T, name string) api.Finger {
	t.Helper()
	return must[api.Finger](t)(hand.ParseName(name))
}

// frame returns a frame with some fingers.
func frame(t *testing.T, names ...string) api.Frame {
	t.Helper()
	fr := api.Frame{Reach: 6, Loops: 4}
	for _, name := range names {
		fr.Fingers = append(fr.Fingers, finger(t, name))
	}
	return fr
}

// standard returns the standard frame of one person.
func standard(t *testing.T) api.Frame {
	t.Helper()
	return must[api.Frame](t)(hand.Standard(1))
}

func equal(a, b api.Code) bool {
	return a.Fingers == b.Fingers && slices.Equal(a.Letters, b.Letters)
}

func equalOps(a, b api.Op) bool {
	return a.Kind == b.Kind && a.Finger == b.Finger && a.From == b.From && a.Over == b.Over && slices.Equal(a.Path, b.Path)
}

// same reports whether two valid codes are the same.
func same(t *testing.T, a, b api.Code) bool {
	t.Helper()
	return must[bool](t)(code.Same(a, b))
}

// copied returns a code with letters of its own.
func copied(c api.Code) api.Code {
	return api.Code{Fingers: c.Fingers, Letters: slices.Clone(c.Letters)}
}

// show returns moves as a string.
func show(l []api.Move) string {
	s := ""
	for i, m := range l {
		if i > 0 {
			s += ", "
		}
		s += move.Print(m)
	}
	return s
}

func near(f, loop, piece int) api.String {
	return api.String{Finger: f, Loop: loop, Piece: piece}
}

func far(f, loop, piece int) api.String {
	return api.String{Finger: f, Loop: loop, Far: true, Piece: piece}
}

func over(s api.String) api.Step  { return api.Step{At: s, Over: true} }
func under(s api.String) api.Step { return api.Step{At: s} }

func release(f int) api.Op          { return api.Op{Kind: api.OpRelease, Finger: f} }
func navaho(f int) api.Op           { return api.Op{Kind: api.OpNavaho, Finger: f} }
func twist(f int, over bool) api.Op { return api.Op{Kind: api.OpTwist, Finger: f, Over: over} }
func drop(f int) api.Op             { return api.Op{Kind: api.OpDrop, Finger: f} }

func pick(f int, from api.String, path ...api.Step) api.Op {
	return api.Op{Kind: api.OpPick, Finger: f, From: from, Path: path}
}

func take(f int, from api.String, over bool) api.Op {
	return api.Op{Kind: api.OpTake, Finger: f, From: from, Over: over}
}

func transfer(f, g int, over bool) api.Op {
	return api.Op{Kind: api.OpTransfer, Finger: f, From: api.String{Finger: g}, Over: over}
}

func exchange(f, g int, over bool) api.Op {
	return api.Op{Kind: api.OpExchange, Finger: f, From: api.String{Finger: g}, Over: over}
}

// scene is a frame and a posed code.
type scene struct {
	fr api.Frame
	c  api.Code
}

func (s scene) String() string {
	return fmt.Sprintf("%s, frame %v", code.Print(s.c), s.fr)
}

// do returns what an operation makes of a scene.
func (s scene) do(op api.Op) (api.Code, api.Errno) {
	c, _, e := hand.Do(s.fr, s.c, op)
	return c, e
}

// randomFrame returns a frame of up to some fingers.
func randomFrame(r *rand.Rand, most int) api.Frame {
	var all []api.Finger
	for person := 1; person <= 3; person++ {
		for digit := range 7 {
			all = append(all, api.Finger{Person: person, Digit: digit}, api.Finger{Person: person, Digit: digit, Right: true})
		}
	}
	r.Shuffle(len(all), func(i, j int) { all[i], all[j] = all[j], all[i] })
	return api.Frame{Fingers: all[:r.Intn(most+1)], Reach: r.Intn(7), Loops: 1 + r.Intn(5)}
}

// randomHang returns a code in which some of the fingers have a loop each.
func randomHang(r *rand.Rand, fr api.Frame) api.Code {
	var fingers []int
	for f := range fr.Fingers {
		if r.Intn(2) == 0 {
			fingers = append(fingers, f+1)
		}
	}
	c, _ := hand.Hang(fr, fingers...)
	return c
}

// randomString returns a string that is likely to exist.
func randomString(r *rand.Rand, s scene) api.String {
	names := slices.Concat(slices.Collect(allNames(s))...)
	if len(names) == 0 || r.Intn(20) == 0 {
		return api.String{Finger: 1 + r.Intn(max(1, s.c.Fingers)), Loop: r.Intn(3), Far: r.Intn(2) == 0, Piece: r.Intn(3)}
	}
	name := names[r.Intn(len(names))]
	if r.Intn(4) == 0 {
		name.Loop = 0
	}
	return name
}

// randomOp returns an operation that is likely to be possible.
func randomOp(r *rand.Rand, s scene) api.Op {
	k := max(1, s.c.Fingers)
	f, g, up := 1+r.Intn(k), 1+r.Intn(k), r.Intn(2) == 0
	switch r.Intn(10) {
	case 0:
		return release(f)
	case 1:
		return navaho(f)
	case 2:
		return twist(f, up)
	case 3, 4:
		return take(f, randomString(r, s), up)
	case 5:
		return transfer(f, g, up)
	case 6:
		return exchange(f, g, up)
	case 7:
		return drop(f)
	}
	if op, ok := randomPick(r, s, f); ok {
		return op
	}
	return pick(f, randomString(r, s))
}

// randomPick returns an operation with a path that wanders from face to face, if the code has letters.
func randomPick(r *rand.Rand, s scene, f int) (api.Op, bool) {
	m := newChart(s)
	if len(s.c.Letters) == 0 || s.c.Fingers < f {
		return api.Op{}, false
	}
	op := api.Op{Kind: api.OpPick, Finger: f}
	face := m.home(f)
	met := map[int]bool{}
	for n := r.Intn(4); ; n-- {
		var edges []int
		for _, edge := range m.rims[face] {
			if !met[edge] {
				edges = append(edges, edge)
			}
		}
		if len(edges) == 0 {
			return api.Op{}, false
		}
		edge := edges[r.Intn(len(edges))]
		names := m.names[edge]
		name := names[r.Intn(len(names))]
		if n <= 0 {
			op.From = name
			return op, true
		}
		op.Path = append(op.Path, api.Step{At: name, Over: r.Intn(2) == 0})
		met[edge] = true
		face = m.across(edge, face)
	}
}

// shaken returns what random slack moves make of a posed code that stays posed.
func shaken(r *rand.Rand, fr api.Frame, c api.Code, steps, letters int) api.Code {
	kinds := []api.MoveKind{api.LoopMake, api.LoopCut, api.PairMake, api.PairCut, api.Triangle}
	for range steps {
		l, _ := move.Some(c, kinds[r.Intn(len(kinds))])
		if len(l) == 0 {
			continue
		}
		next, e := move.Apply(c, l[r.Intn(len(l))])
		if e == api.OK && len(next.Letters) <= letters && hand.Posed(fr, next) {
			c = next
		}
	}
	return c
}

// traveled returns a code that begins elsewhere, perhaps backwards, with other names of the crossings.
func traveled(r *rand.Rand, c api.Code) api.Code {
	if len(c.Letters) == 0 {
		return c
	}
	c = copied(c)
	names := r.Perm(code.Crossings(c))
	for i, l := range c.Letters {
		if l.Kind == api.Cross {
			c.Letters[i].ID = names[l.ID-1] + 1
		}
	}
	if r.Intn(2) == 0 {
		c, _ = code.Back(c)
	}
	starts := downs(c)
	c, _ = code.Start(c, starts[r.Intn(len(starts))])
	return c
}

// downs returns the indexes of the passes that go down.
func downs(c api.Code) []int {
	var passes []int
	for i, l := range c.Letters {
		if l.Kind == api.Pass {
			passes = append(passes, i)
		}
	}
	var l []int
	for i := 0; i < len(passes); i += 2 {
		l = append(l, passes[i])
	}
	return l
}

// samples are frames and posed codes: some that are special, and others to which random operations and moves have led. They are made once, so nobody may change them.
var samples = sync.OnceValue(func() []scene {
	one, _ := hand.Standard(1)
	var all []scene
	for _, kind := range []api.OpeningKind{api.OpeningFirst, api.OpeningA, api.OpeningB, api.OpeningIndex} {
		c, ops, _ := hand.Opening(one, kind)
		all = append(all, scene{one, c})
		c, _, _ = hand.Run(one, c, ops...)
		all = append(all, scene{one, c})
	}
	all = append(all, scene{one, api.Code{Fingers: 10}}, scene{api.Frame{Loops: 1}, api.Code{}})
	r := rand.New(rand.NewSource(11))
	for len(all) < 250 {
		fr := randomFrame(r, 8)
		s := scene{fr, randomHang(r, fr)}
		for range r.Intn(12) {
			c, e := s.do(randomOp(r, s))
			if e == api.OK && len(c.Letters) <= 44 && hand.Posed(fr, c) {
				s.c = c
			}
			if r.Intn(4) == 0 {
				s.c = shaken(r, fr, s.c, 6, 44)
			}
		}
		s.c = traveled(r, s.c)
		all = append(all, s)
	}
	return all
})

// ordered compares two strings as names.
func ordered(a, b api.String) int {
	number := func(far bool) int {
		if far {
			return 1
		}
		return 0
	}
	return cmp.Or(cmp.Compare(a.Finger, b.Finger), cmp.Compare(a.Loop, b.Loop), cmp.Compare(number(a.Far), number(b.Far)), cmp.Compare(a.Piece, b.Piece))
}
