package show_test

import (
	"fmt"
	"math/rand"
	"slices"
	"strings"
	"sync"
	"testing"

	"catscradle/api"
	"catscradle/code"
	"catscradle/hand"
	"catscradle/move"
	"catscradle/notes"
)

// must returns a result that must come without an error.
func must[T any](t *testing.T) func(result T, e api.Errno) T {
	return func(result T, e api.Errno) T {
		t.Helper()
		if e != api.OK {
			t.Fatalf("the error %d", e)
		}
		return result
	}
}

// read reads a code that must be valid.
func read(t *testing.T, s string) api.Code {
	t.Helper()
	return must[api.Code](t)(code.Parse(s))
}

// fingers returns the fingers with some names.
func fingers(t *testing.T, names ...string) []api.Finger {
	t.Helper()
	var l []api.Finger
	for _, name := range names {
		l = append(l, must[api.Finger](t)(hand.ParseName(name)))
	}
	return l
}

// frame returns a frame with some fingers.
func frame(t *testing.T, names ...string) api.Frame {
	t.Helper()
	return api.Frame{Fingers: fingers(t, names...), Reach: 6, Loops: 4}
}

// words reads operations in words, with semicolons between them.
func words(t *testing.T, fr api.Frame, s string) []api.Op {
	t.Helper()
	var ops []api.Op
	for _, line := range strings.Split(s, "; ") {
		if line != "" {
			ops = append(ops, must[api.Op](t)(notes.ReadWords(fr, line)))
		}
	}
	return ops
}

func equal(a, b api.Code) bool {
	return a.Fingers == b.Fingers && slices.Equal(a.Letters, b.Letters)
}

func equalFrames(a, b api.Frame) bool {
	return slices.Equal(a.Fingers, b.Fingers) && a.Reach == b.Reach && a.Loops == b.Loops
}

func equalPictures(a, b api.Picture) bool {
	return a.Fingers == b.Fingers && slices.Equal(a.Gates, b.Gates) && slices.Equal(a.Above, b.Above) && slices.Equal(a.Below, b.Below)
}

// same reports whether two valid codes are the same.
func same(t *testing.T, a, b api.Code) bool {
	t.Helper()
	return must[bool](t)(code.Same(a, b))
}

// copied returns a code with letters of its own.
func copied(c api.Code) api.Code {
	return api.Code{Fingers: c.Fingers, Letters: slices.Clone(c.Letters)}
}

// copiedPicture returns a picture with memory of its own.
func copiedPicture(p api.Picture) api.Picture {
	return api.Picture{Fingers: p.Fingers, Gates: slices.Clone(p.Gates), Above: slices.Clone(p.Above), Below: slices.Clone(p.Below)}
}

// copiedFrame returns a frame with fingers of its own.
func copiedFrame(fr api.Frame) api.Frame {
	fr.Fingers = slices.Clone(fr.Fingers)
	return fr
}

func lid(at int) api.Row { return api.Row{Kind: api.RowCap, At: at} }

func cross(at, in int, over bool) api.Row {
	return api.Row{Kind: api.RowCross, At: at, In: in, Over: over}
}

// kinks returns a circle around the first one of k fingers, with n kinks below the axis.
func kinks(k, n int) api.Code {
	letters := []api.Letter{{Kind: api.Pass, Gate: 0, Rank: 1}}
	for id := n; id > 0; id-- {
		letters = append(letters, api.Letter{Kind: api.Cross, ID: id, Sign: 1}, api.Letter{Kind: api.Cross, ID: id, Sign: 1, Over: true})
	}
	return api.Code{Fingers: k, Letters: append(letters, api.Letter{Kind: api.Pass, Gate: 1, Rank: 1})}
}

// traveled returns a code that begins elsewhere, perhaps backwards, with other names of the crossings.
func traveled(r *rand.Rand, c api.Code) api.Code {
	names := r.Perm(code.Crossings(c))
	c = copied(c)
	for i, l := range c.Letters {
		if l.Kind == api.Cross {
			c.Letters[i].ID = names[l.ID-1] + 1
		}
	}
	if r.Intn(2) == 0 {
		c, _ = code.Back(c)
	}
	if d, e := code.Start(c, r.Intn(max(1, len(c.Letters)))); e == api.OK {
		return d
	}
	return c
}

// moved returns what random moves make of a code, with not too many letters.
func moved(r *rand.Rand, c api.Code, n int) api.Code {
	for range n {
		kind := api.MoveKind(1 + r.Intn(int(api.TipLeft)))
		if r.Intn(2) == 0 {
			kind = []api.MoveKind{api.PairMake, api.AxisMake, api.AxisSlide, api.Triangle}[r.Intn(4)]
		}
		l, _ := move.Some(c, kind)
		if len(l) == 0 {
			continue
		}
		next, e := move.Apply(c, l[r.Intn(len(l))])
		if e == api.OK && len(next.Letters) <= 30 && (len(next.Letters) > 0 || r.Intn(5) == 0) {
			c = next
		}
	}
	return c
}

// changed returns a code with over and under exchanged at one of its crossings.
func changed(r *rand.Rand, c api.Code) api.Code {
	c = copied(c)
	if n := code.Crossings(c); n > 0 {
		id := 1 + r.Intn(n)
		for i, l := range c.Letters {
			if l.Kind == api.Cross && l.ID == id {
				c.Letters[i].Over, c.Letters[i].Sign = !l.Over, -l.Sign
			}
		}
	}
	return c
}

// samples are valid codes: some that are special, and others to which random moves have led. They are made once, so nobody may change them.
var samples = sync.OnceValue(func() []api.Code {
	all := []api.Code{{}, {Fingers: 3}, {Fingers: 40}, kinks(1, 1), kinks(2, 7)}
	for _, s := range []string{"2: 0.1 1.1", "2: 1.1 0.1", "1: 0.1 0.2", "2: 0.1 1u+ 1o+ 1.1", "40: 39.1 40.1", "2: 0.1 1.1 1.2 2.1"} {
		c, _ := code.Parse(s)
		all = append(all, c)
	}
	r := rand.New(rand.NewSource(7))
	for len(all) < 400 {
		k := 1 + r.Intn(5)
		i := 1 + r.Intn(k)
		c, _ := code.Circle(k, i, i+r.Intn(k-i+1))
		c = changed(r, moved(r, c, 1+r.Intn(40)))
		all = append(all, traveled(r, moved(r, c, r.Intn(10))))
	}
	return all
})

// scene is a frame and a posed code.
type scene struct {
	fr api.Frame
	c  api.Code
}

func (s scene) String() string {
	return fmt.Sprintf("%s, frame %v", code.Print(s.c), s.fr)
}

// near returns the name of a string of a finger.
func near(f, loop int) api.String { return api.String{Finger: f, Loop: loop} }

// randomOp returns an operation, many of which can be done.
func randomOp(r *rand.Rand, s scene) api.Op {
	k := max(1, s.c.Fingers)
	op := api.Op{Kind: api.OpKind(1 + r.Intn(int(api.OpDrop))), Finger: 1 + r.Intn(k)}
	names, _ := hand.Names(s.fr, s.c)
	switch op.Kind {
	case api.OpTwist:
		op.Over = r.Intn(2) == 0
	case api.OpTransfer, api.OpExchange:
		op.From, op.Over = near(1+r.Intn(k), 0), r.Intn(2) == 0
	case api.OpPick, api.OpTake:
		op.Kind = api.OpTake
		op.From, op.Over = near(1+r.Intn(k), 0), r.Intn(2) == 0
		if len(names) > 0 {
			op.From = names[r.Intn(len(names))]
		}
		if parts, e := hand.Expand(s.fr, s.c, op); e == api.OK && r.Intn(2) == 0 {
			op = parts[0]
		}
	}
	return op
}

// randomScene returns a scene with some fingers of up to three persons.
func randomScene(r *rand.Rand) scene {
	var l []api.Finger
	for person := 1; person <= 3; person++ {
		for digit := range 2 {
			l = append(l, api.Finger{Person: person, Digit: digit}, api.Finger{Person: person, Digit: digit, Right: true})
		}
	}
	r.Shuffle(len(l), func(i, j int) { l[i], l[j] = l[j], l[i] })
	s := scene{fr: api.Frame{Fingers: l[:1+r.Intn(8)], Reach: 1 + r.Intn(6), Loops: 1 + r.Intn(4)}}
	var hung []int
	for f := range s.fr.Fingers {
		if r.Intn(3) > 0 {
			hung = append(hung, f+1)
		}
	}
	s.c, _ = hand.Hang(s.fr, hung...)
	for range r.Intn(6) {
		next, _, e := hand.Do(s.fr, s.c, randomOp(r, s))
		if e == api.OK && code.Crossings(next) <= 6 && hand.Posed(s.fr, next) {
			s.c = next
		}
	}
	s.c = traveled(r, s.c)
	return s
}

// scenes are frames and posed codes: some that are special, and others to which random operations have led. They are made once, so nobody may change them.
var scenes = sync.OnceValue(func() []scene {
	one, _ := hand.Standard(1)
	all := []scene{{one, api.Code{Fingers: 10}}, {api.Frame{Loops: 1}, api.Code{}}}
	for kind := api.OpeningFirst; kind <= api.OpeningIndex; kind++ {
		c, ops, _ := hand.Opening(one, kind)
		c, _, _ = hand.Run(one, c, ops...)
		all = append(all, scene{one, c})
	}
	r := rand.New(rand.NewSource(8))
	for len(all) < 300 {
		all = append(all, randomScene(r))
	}
	return all
})
