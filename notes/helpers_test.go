package notes_test

import (
	"math/rand"
	"regexp"
	"slices"
	"strings"
	"sync"
	"testing"

	"catscradle/api"
	"catscradle/code"
	"catscradle/hand"
	"catscradle/move"
)

// most is the greatest number that the notations can write.
const most = 999999999

// must returns a result that must come without an error.
func must[T any](t *testing.T) func(result T, e api.Errno) T {
	return func(result T, e api.Errno) T {
		t.Helper()
		if e != api.OK {
			t.Fatalf("the error %d", e)
		}
		return result
	}
}

// frame returns a frame with some fingers.
func frame(t *testing.T, names ...string) api.Frame {
	t.Helper()
	fr := api.Frame{Reach: 6, Loops: 4}
	for _, name := range names {
		fr.Fingers = append(fr.Fingers, must[api.Finger](t)(hand.ParseName(name)))
	}
	return fr
}

// standard returns the standard frame of one person.
func standard(t *testing.T) api.Frame {
	t.Helper()
	return must[api.Frame](t)(hand.Standard(1))
}

// read reads a code that must be valid.
func read(t *testing.T, s string) api.Code {
	t.Helper()
	c, e := code.Parse(s)
	if e != api.OK {
		t.Fatalf("%s: %d", s, e)
	}
	return c
}

func equal(a, b api.Code) bool {
	return a.Fingers == b.Fingers && slices.Equal(a.Letters, b.Letters)
}

func equalOps(a, b api.Op) bool {
	return a.Kind == b.Kind && a.Finger == b.Finger && a.From == b.From && a.Over == b.Over && slices.Equal(a.Path, b.Path)
}

func copied(c api.Code) api.Code {
	return api.Code{Fingers: c.Fingers, Letters: slices.Clone(c.Letters)}
}

func near(f, loop, piece int) api.String {
	return api.String{Finger: f, Loop: loop, Piece: piece}
}

func far(f, loop, piece int) api.String {
	return api.String{Finger: f, Loop: loop, Far: true, Piece: piece}
}

func over(s api.String) api.Step  { return api.Step{At: s, Over: true} }
func under(s api.String) api.Step { return api.Step{At: s} }

func release(f int) api.Op          { return api.Op{Kind: api.OpRelease, Finger: f} }
func navaho(f int) api.Op           { return api.Op{Kind: api.OpNavaho, Finger: f} }
func twist(f int, over bool) api.Op { return api.Op{Kind: api.OpTwist, Finger: f, Over: over} }
func drop(f int) api.Op             { return api.Op{Kind: api.OpDrop, Finger: f} }

func pick(f int, from api.String, path ...api.Step) api.Op {
	return api.Op{Kind: api.OpPick, Finger: f, From: from, Path: path}
}

func take(f int, from api.String, over bool) api.Op {
	return api.Op{Kind: api.OpTake, Finger: f, From: from, Over: over}
}

func transfer(f, g int, over bool) api.Op {
	return api.Op{Kind: api.OpTransfer, Finger: f, From: api.String{Finger: g}, Over: over}
}

func exchange(f, g int, over bool) api.Op {
	return api.Op{Kind: api.OpExchange, Finger: f, From: api.String{Finger: g}, Over: over}
}

// wrongOps returns operations that do not exist on a frame with k fingers, at least 2.
func wrongOps(k int) []api.Op {
	path := []api.Step{over(near(1, 0, 0))}
	all := []api.Op{
		{}, {Kind: 0, Finger: 1}, {Kind: 9, Finger: 1}, {Kind: -1, Finger: 1},
		release(0), release(k + 1), release(-1), navaho(0), drop(k + 1), twist(0, true), twist(k+1, false),
		pick(0, near(1, 0, 0)), pick(1, near(0, 0, 0)), pick(1, near(k+1, 0, 0)), pick(1, api.String{}),
		take(k+1, near(1, 0, 0), true), take(1, near(-1, 0, 0), true), take(1, api.String{}, true), take(1, far(k+1, 0, 0), false),
		transfer(0, 1, true), transfer(1, 0, true), transfer(1, k+1, true), exchange(k+1, 1, true), exchange(1, -1, true), exchange(1, 0, false),
	}
	for _, op := range []api.Op{release(1), navaho(1), drop(1)} {
		one, two, three := op, op, op
		one.Over, two.From, three.Path = true, near(1, 0, 0), path
		all = append(all, one, two, three)
	}
	for _, s := range []api.String{{Finger: 1}, {Loop: 1}, {Piece: 1}, {Far: true}} {
		all = append(all, api.Op{Kind: api.OpTwist, Finger: 1, From: s})
	}
	for _, op := range []api.Op{twist(1, true), take(1, near(2, 0, 0), true), transfer(1, 2, true), exchange(1, 2, true)} {
		op.Path = path
		all = append(all, op)
	}
	picked := pick(1, near(2, 0, 0))
	picked.Over = true
	all = append(all, picked)
	for _, s := range []api.String{near(2, 1, 0), near(2, 0, 1), far(2, 0, 0), near(2, -1, 0)} {
		one, two := transfer(1, 2, true), exchange(1, 2, true)
		one.From, two.From = s, s
		all = append(all, one, two)
	}
	for _, s := range []api.String{near(2, -1, 0), near(2, 0, -1), near(2, most+1, 0), near(2, 0, most+1), far(0, 1, 0), far(k+1, 0, 0)} {
		all = append(all, pick(1, s), take(1, s, true), pick(1, near(2, 0, 0), over(s)), pick(1, near(2, 0, 0), over(near(1, 0, 0)), under(s)))
	}
	return all
}

// someStrings returns strings of a finger, some of which signs can say.
func someStrings(f int) []api.String {
	return []api.String{near(f, 0, 0), far(f, 0, 0), near(f, 1, 0), far(f, 0, 1), far(f, 2, 30), near(f, most, most), near(f, 10, 999)}
}

// rightOps returns operations of all kinds that exist on a frame with k fingers.
func rightOps(k int) []api.Op {
	var all []api.Op
	for f := 1; f <= k; f++ {
		all = append(all, release(f), navaho(f), drop(f), twist(f, true), twist(f, false))
		for g := 1; g <= k; g++ {
			for _, up := range []bool{true, false} {
				all = append(all, transfer(f, g, up), exchange(f, g, up))
			}
			for _, s := range someStrings(g) {
				all = append(all, take(f, s, true), take(f, s, false), pick(f, s))
				for _, at := range someStrings(k + 1 - g) {
					all = append(all, pick(f, s, over(at)), pick(f, s, under(at)), pick(f, at, under(s), over(at), under(at), under(s)))
				}
			}
		}
	}
	return all
}

// names finds the names of fingers.
var names = regexp.MustCompile(namePattern)

// textError is the error of reading a string that is not too long, if the strings of the notation have a pattern and nothing else can be wrong.
func textError(fr api.Frame, pattern *regexp.Regexp, s string) api.Errno {
	if !pattern.MatchString(s) {
		return api.ErrText
	}
	for _, name := range names.FindAllString(s, -1) {
		f, e := hand.ParseName(name)
		if e != api.OK || hand.Index(fr, f) == 0 {
			return api.ErrNone
		}
	}
	return api.OK
}

// scene is a frame and a posed code.
type scene struct {
	fr api.Frame
	c  api.Code
}

// randomFrame returns a frame of up to some fingers, of persons 1 to 3.
func randomFrame(r *rand.Rand, most int) api.Frame {
	var all []api.Finger
	for person := 1; person <= 3; person++ {
		for digit := range 7 {
			all = append(all, api.Finger{Person: person, Digit: digit}, api.Finger{Person: person, Digit: digit, Right: true})
		}
	}
	r.Shuffle(len(all), func(i, j int) { all[i], all[j] = all[j], all[i] })
	return api.Frame{Fingers: all[:1+r.Intn(most)], Reach: 6, Loops: 1 + r.Intn(5)}
}

// randomOp returns an operation that is likely to be possible.
func randomOp(r *rand.Rand, s scene) api.Op {
	k := s.c.Fingers
	f, g, up := 1+r.Intn(k), 1+r.Intn(k), r.Intn(2) == 0
	names, _ := hand.Names(s.fr, s.c)
	from := near(g, 0, 0)
	if len(names) > 0 {
		from = names[r.Intn(len(names))]
	}
	switch r.Intn(8) {
	case 0:
		return release(f)
	case 1:
		return navaho(f)
	case 2:
		return twist(f, up)
	case 3:
		return transfer(f, g, up)
	case 4:
		return exchange(f, g, up)
	}
	return take(f, from, up)
}

// shaken returns what random slack moves make of a posed code that stays posed.
func shaken(r *rand.Rand, fr api.Frame, c api.Code) api.Code {
	kinds := []api.MoveKind{api.LoopMake, api.LoopCut, api.PairMake, api.PairCut, api.Triangle}
	for range 4 {
		l, _ := move.Some(c, kinds[r.Intn(len(kinds))])
		if len(l) == 0 {
			continue
		}
		next, e := move.Apply(c, l[r.Intn(len(l))])
		if e == api.OK && code.Crossings(next) <= 8 && hand.Posed(fr, next) {
			c = next
		}
	}
	return c
}

// traveled returns a code that begins elsewhere, perhaps backwards, with other names of the crossings.
func traveled(r *rand.Rand, c api.Code) api.Code {
	names := r.Perm(code.Crossings(c))
	c = copied(c)
	for i, l := range c.Letters {
		if l.Kind == api.Cross {
			c.Letters[i].ID = names[l.ID-1] + 1
		}
	}
	if r.Intn(2) == 0 {
		c, _ = code.Back(c)
	}
	if d, e := code.Start(c, r.Intn(max(1, len(c.Letters)))); e == api.OK {
		return d
	}
	return c
}

// samples are frames and posed codes: some that are special, and others to which random operations and moves have led. They are made once, so nobody may change them.
var samples = sync.OnceValue(func() []scene {
	one, _ := hand.Standard(1)
	all := []scene{{one, api.Code{Fingers: 10}}, {api.Frame{Loops: 1}, api.Code{}}}
	for _, kind := range []api.OpeningKind{api.OpeningFirst, api.OpeningA, api.OpeningB, api.OpeningIndex} {
		c, ops, _ := hand.Opening(one, kind)
		all = append(all, scene{one, c})
		c, _, _ = hand.Run(one, c, ops...)
		all = append(all, scene{one, c})
	}
	r := rand.New(rand.NewSource(17))
	for len(all) < 300 {
		fr := randomFrame(r, 8)
		var fingers []int
		for f := range fr.Fingers {
			if r.Intn(2) == 0 {
				fingers = append(fingers, f+1)
			}
		}
		c, _ := hand.Hang(fr, fingers...)
		s := scene{fr, c}
		for range r.Intn(12) {
			c, _, e := hand.Do(fr, s.c, randomOp(r, s))
			if e == api.OK && code.Crossings(c) <= 8 && hand.Posed(fr, c) {
				s.c = c
			}
			if r.Intn(4) == 0 {
				s.c = shaken(r, fr, s.c)
			}
		}
		s.c = traveled(r, s.c)
		all = append(all, s)
	}
	return all
})

// mutated returns a string that differs a little from another one, or names a finger that is not there.
func mutated(r *rand.Rand, s string, pieces []string) string {
	if r.Intn(5) == 0 {
		return strings.Replace(s, "L2", "L6", 1+r.Intn(2))
	}
	for range 1 + r.Intn(3) {
		i := r.Intn(len(s) + 1)
		j := min(len(s), i+r.Intn(4))
		piece := ""
		if r.Intn(4) > 0 {
			piece = pieces[r.Intn(len(pieces))]
		}
		if r.Intn(2) == 0 {
			j = i
		}
		s = s[:i] + piece + s[j:]
	}
	return s
}
