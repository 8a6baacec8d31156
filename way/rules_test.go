package way_test

import (
	"math"
	"math/rand"
	"slices"
	"testing"

	"catscradle/api"
	"catscradle/code"
	"catscradle/hand"
	"catscradle/way"
)

// call is what a function is called with: a frame, a posed code, another code, rules, whose Limit is the limit as well, and operations.
type call struct {
	fr   api.Frame
	c, b api.Code
	r    api.Rules
	ops  []api.Op
}

// function is a function, with its error and whether its other results are zero values.
type function struct {
	name   string
	second bool // whether it takes another code
	kinds  bool // whether it takes kinds
	search bool // whether it takes rules
	limit  bool // whether it takes a limit, in rules or not
	ops    bool // whether it takes operations
	do     func(call) (api.Errno, bool)
}

func functions() []function {
	return []function{
		{name: "Film", ops: true, do: func(x call) (api.Errno, bool) {
			l, e := way.Film(x.fr, x.c, x.ops...)
			return e, len(l) == 0
		}},
		{name: "Choices", kinds: true, do: func(x call) (api.Errno, bool) {
			l, e := way.Choices(x.fr, x.c, x.r.Kinds...)
			return e, len(l) == 0
		}},
		{name: "Way", second: true, kinds: true, search: true, limit: true, do: func(x call) (api.Errno, bool) {
			l, e := way.Way(x.fr, x.c, x.b, x.r)
			return e, len(l) == 0
		}},
		{name: "Far", kinds: true, search: true, limit: true, do: func(x call) (api.Errno, bool) {
			l, whole, e := way.Far(x.fr, x.c, x.r)
			return e, len(l) == 0 && !whole
		}},
		{name: "Trick", limit: true, ops: true, do: func(x call) (api.Errno, bool) {
			p, e := way.Trick(x.fr, x.c, x.r.Limit, x.ops...)
			return e, len(p.Ops) == 0 && len(p.Path) == 0
		}},
		{name: "Teach", second: true, kinds: true, search: true, limit: true, ops: true, do: func(x call) (api.Errno, bool) {
			l, e := way.Teach(x.fr, x.c, x.b, x.r, x.ops...)
			return e, equalLessons(l, api.Lesson{})
		}},
	}
}

// R1: the order of errors. Each mistake is made alone, and together with each that comes after it.
func TestOrder(t *testing.T) {
	fr := standard(t)
	right := call{fr: fr, c: read(t, "10: 0.1 1.1"), b: api.Code{Fingers: 10}, r: rules(1, api.OpRelease), ops: []api.Op{release(1)}}
	long := api.Code{Fingers: 10, Letters: make([]api.Letter, api.MaxLetters+1)}
	odd := api.Code{Fingers: 10, Letters: right.c.Letters[:1]}
	mistakes := []struct {
		e     api.Errno
		in    func(f function) bool
		spoil func(x *call)
	}{
		{api.ErrArg, func(function) bool { return true }, func(x *call) { x.fr.Loops = 0 }},
		{api.ErrLong, func(function) bool { return true }, func(x *call) { x.c = long }},
		{api.ErrCode, func(f function) bool { return f.second }, func(x *call) { x.b = odd }},
		{api.ErrArg, func(f function) bool { return f.second }, func(x *call) { x.b.Fingers = 9 }},
		{api.ErrArg, func(f function) bool { return f.kinds }, func(x *call) { x.r.Kinds = []api.OpKind{api.OpPick} }},
		{api.ErrArg, func(f function) bool { return f.search }, func(x *call) { x.r.Depth = 13 }},
		{api.ErrArg, func(f function) bool { return f.search }, func(x *call) { x.r.Depth = -1 }},
		{api.ErrArg, func(f function) bool { return f.search }, func(x *call) { x.r.Nodes = 0 }},
		{api.ErrArg, func(f function) bool { return f.search }, func(x *call) { x.r.Nodes = api.MaxClass + 1 }},
		{api.ErrArg, func(f function) bool { return f.limit }, func(x *call) { x.r.Limit = 0 }},
		{api.ErrArg, func(f function) bool { return f.limit }, func(x *call) { x.r.Limit = api.MaxClass + 1 }},
		{api.ErrNone, func(f function) bool { return f.ops }, func(x *call) { x.ops = []api.Op{release(2)} }},
	}
	for _, f := range functions() {
		if e, _ := f.do(right); e != api.OK {
			t.Fatalf("%s: %d", f.name, e)
		}
		for i, m := range mistakes {
			for _, n := range mistakes[i:] {
				x := right
				n.spoil(&x)
				m.spoil(&x)
				want := m.e
				if !m.in(f) {
					want = n.e
				}
				if !m.in(f) && !n.in(f) {
					want = api.OK
				}
				if e, zero := f.do(x); e != want || e != api.OK && !zero {
					t.Errorf("%s, %+v: %d, not %d; zero %v", f.name, x, e, want, zero)
				}
			}
		}
	}
}

// R1: the errors of Check for both codes come before their fingers and poses.
func TestCodes(t *testing.T) {
	fr := standard(t)
	thumb := read(t, "10: 0.1 1.1")
	long := api.Code{Fingers: 10, Letters: make([]api.Letter, api.MaxLetters+1)}
	odd := api.Code{Fingers: 10, Letters: thumb.Letters[:1]}
	nine, loose, many := read(t, "9: 0.1 1.1"), read(t, "10: 0.1 2.1"), api.Code{Fingers: 41}
	for i, c := range []struct {
		a, b        api.Code
		first, both api.Errno
	}{
		{thumb, thumb, api.OK, api.OK},
		{thumb, nine, api.OK, api.ErrArg},
		{thumb, loose, api.OK, api.ErrNone},
		{thumb, odd, api.OK, api.ErrCode},
		{thumb, long, api.OK, api.ErrLong},
		{thumb, many, api.OK, api.ErrArg},
		{nine, thumb, api.ErrArg, api.ErrArg},
		{nine, odd, api.ErrArg, api.ErrCode},
		{nine, nine, api.ErrArg, api.ErrArg},
		{loose, thumb, api.ErrArg, api.ErrArg},
		{loose, loose, api.ErrArg, api.ErrArg},
		{loose, odd, api.ErrArg, api.ErrCode},
		{loose, long, api.ErrArg, api.ErrLong},
		{odd, long, api.ErrCode, api.ErrCode},
		{long, odd, api.ErrLong, api.ErrLong},
		{many, odd, api.ErrArg, api.ErrArg},
	} {
		for _, f := range functions() {
			want := c.first
			if f.second {
				want = c.both
			}
			e, zero := f.do(call{fr: fr, c: c.a, b: c.b, r: rules(0), ops: nil})
			if f.name == "Trick" && want == api.OK {
				want = api.ErrOpen
			}
			if e != want || e != api.OK && !zero {
				t.Errorf("case %d, %s: %d, not %d; zero %v", i, f.name, e, want, zero)
			}
		}
	}
}

// Rules at their bounds are right.
func TestBounds(t *testing.T) {
	fr := standard(t)
	for _, r := range []api.Rules{
		{Depth: 12, Nodes: 1, Limit: 1},
		{Depth: 0, Nodes: api.MaxClass, Limit: api.MaxClass},
		{Kinds: []api.OpKind{api.OpRelease, api.OpNavaho, api.OpTake, api.OpTwist, api.OpTwist}, Depth: 0, Nodes: 1, Limit: api.MaxClass},
		{Kinds: []api.OpKind{api.OpNavaho}, Depth: 12, Nodes: api.MaxClass, Limit: 1},
	} {
		x := call{fr: fr, c: read(t, "10: 0.1 1.1"), b: read(t, "10: 0.1 1.1"), r: r, ops: []api.Op{release(1)}}
		for _, f := range functions() {
			if e, _ := f.do(x); e != api.OK {
				t.Errorf("%s, %+v: %d", f.name, r, e)
			}
		}
	}
}

// R4 and R8: arguments are neither changed nor kept, results share no memory, and equal calls have equal results.
func TestMemory(t *testing.T) {
	r := rand.New(rand.NewSource(12))
	for _, s := range samples()[:60] {
		ops, rules := s.series(r, 4), randomRules(r)
		wrong := mistaken(r, s, ops)
		fr, c, other, series, kinds := copiedFrame(s.fr), copied(s.c), copied(wrong), copiedOps(ops), slices.Clone(rules.Kinds)
		given := rules
		given.Kinds = kinds
		film, _ := way.Film(fr, c, series...)
		choices, _ := way.Choices(fr, c, kinds...)
		found, e := way.Way(fr, c, other, given)
		lesson, e2 := way.Teach(fr, c, other, given, series...)
		proof, e3 := way.Trick(fr, c, given.Limit, series...)
		undone, right := way.Undone(fr, c, proof), way.Check(fr, c, other, given.Limit, lesson, series...)
		if !slices.Equal(fr.Fingers, s.fr.Fingers) || !equal(c, s.c) || !equal(other, wrong) || !equalLists(series, ops) || !slices.Equal(kinds, rules.Kinds) {
			t.Fatalf("%v: arguments were changed", s)
		}
		scribble(fr, c, other, series, kinds)
		film2, _ := way.Film(s.fr, s.c, ops...)
		choices2, _ := way.Choices(s.fr, s.c, rules.Kinds...)
		found2, f := way.Way(s.fr, s.c, wrong, rules)
		lesson2, f2 := way.Teach(s.fr, s.c, wrong, rules, ops...)
		proof2, f3 := way.Trick(s.fr, s.c, rules.Limit, ops...)
		if !slices.EqualFunc(film, film2, equal) || !equalLists(choices, choices2) || e != f || !equalLists(found, found2) || e2 != f2 || !equalLessons(lesson, lesson2) || e3 != f3 || !equalLists(proof.Ops, proof2.Ops) || !slices.Equal(proof.Path, proof2.Path) {
			t.Fatalf("%v: another result, or memory of arguments", s)
		}
		if way.Undone(s.fr, s.c, proof2) != undone || way.Check(s.fr, s.c, wrong, rules.Limit, lesson2, ops...) != right {
			t.Fatalf("%v: another report", s)
		}
		for i := range film {
			_ = append(film[i].Letters, api.Letter{}, api.Letter{})
			clear(film[i].Letters)
			if i+1 < len(film) && !equal(film[i+1], film2[i+1]) {
				t.Fatalf("%v: codes of a film share memory", s)
			}
		}
		for i := range proof.Ops {
			_ = append(proof.Ops[i].Path, api.Step{})
			clear(proof.Ops[i].Path)
			if i+1 < len(proof.Ops) && !equalOps(proof.Ops[i+1], proof2.Ops[i+1]) {
				t.Fatalf("%v: operations of a proof share memory", s)
			}
		}
	}
}

func copiedFrame(fr api.Frame) api.Frame {
	fr.Fingers = slices.Clone(fr.Fingers)
	return fr
}

// scribble changes all memory of arguments.
func scribble(fr api.Frame, c, other api.Code, ops []api.Op, kinds []api.OpKind) {
	clear(fr.Fingers)
	clear(c.Letters)
	clear(other.Letters)
	for i := range ops {
		clear(ops[i].Path)
	}
	clear(ops)
	clear(kinds)
}

// R4: what a lesson says is to be done now is not the memory of the series.
func TestNextMemory(t *testing.T) {
	fr := standard(t)
	thumbs := read(t, "10: 0.1 1.1 9.1 10.1")
	for _, op := range []api.Op{pick(3, near(1, 0), over(far(1, 1))), pick(3, near(1, 0), api.Step{At: far(1, 1)})} {
		series := copiedOps([]api.Op{op})
		l, e := way.Teach(fr, thumbs, thumbs, rules(0), series...)
		proof, e2 := way.Trick(fr, thumbs, 100, series[0], release(3), release(1), release(10))
		clear(series[0].Path)
		if e != api.OK || !equalOps(l.Next, op) || e2 != api.OK || !equalOps(proof.Ops[0], op) {
			t.Errorf("%+v: %+v, %d, %+v, %d", op, l, e, proof, e2)
		}
	}
}

// R3: nil and empty lists are the same.
func TestEmpty(t *testing.T) {
	fr := api.Frame{Fingers: []api.Finger{}, Loops: 1}
	empty := api.Code{Letters: []api.Letter{}}
	r := api.Rules{Kinds: []api.OpKind{}, Nodes: 1, Limit: 1}
	for _, fr := range []api.Frame{fr, {Loops: 1}} {
		for _, c := range []api.Code{empty, {}} {
			film, e := way.Film(fr, c, []api.Op{}...)
			l, e2 := way.Choices(fr, c, []api.OpKind{}...)
			ops, e3 := way.Way(fr, c, api.Code{}, r)
			counts, whole, e4 := way.Far(fr, c, r)
			proof, e5 := way.Trick(fr, c, 1)
			lesson, e6 := way.Teach(fr, c, empty, r)
			if e != api.OK || len(film) != 1 || len(film[0].Letters) > 0 || e2 != api.OK || len(l) > 0 || e3 != api.OK || len(ops) > 0 {
				t.Error(film, e, l, e2, ops, e3)
			}
			if e4 != api.OK || !slices.Equal(counts, []int{1}) || !whole || e5 != api.OK || len(proof.Ops) > 0 || len(proof.Path) > 0 || e6 != api.OK || !equalLessons(lesson, api.Lesson{Done: true}) {
				t.Error(counts, whole, e4, proof, e5, lesson, e6)
			}
			if !way.Undone(fr, c, api.Proof{Ops: []api.Op{}, Path: []api.Move{}}) || !way.Check(fr, c, c, 1, api.Lesson{Ops: []api.Op{}, Next: api.Op{Path: []api.Step{}}, Done: true}) {
				t.Error("reports")
			}
		}
	}
}

// wild makes arguments of all kinds, most of which are small numbers.
type wild struct{ *rand.Rand }

func (r wild) yes() bool { return r.Intn(2) == 0 }

func (r wild) number() int {
	if r.Intn(5) > 0 {
		return r.Intn(5)
	}
	l := []int{math.MinInt, -1, 0, 1, 2, 9, 12, 13, 20, 21, 40, 41, api.MaxClass, api.MaxClass + 1, math.MaxInt}
	return l[r.Intn(len(l))]
}

func (r wild) string() api.String {
	return api.String{Finger: r.number(), Loop: r.number(), Far: r.yes(), Piece: r.number()}
}

func (r wild) ops() []api.Op {
	var ops []api.Op
	for range r.Intn(3) {
		op := api.Op{Kind: api.OpKind(r.number()), Finger: r.number(), Over: r.yes()}
		if r.yes() {
			op.From = r.string()
			op.Path = []api.Step{{At: r.string(), Over: r.yes()}}
		}
		ops = append(ops, op)
	}
	return ops
}

func (r wild) moves() []api.Move {
	var l []api.Move
	for range r.Intn(3) {
		l = append(l, api.Move{Kind: api.MoveKind(r.number()), A: r.number(), B: r.number(), C: r.number(), Sign: r.number()})
	}
	return l
}

// code returns a code that is valid more often than not.
func (r wild) code(s scene) api.Code {
	if r.Intn(3) > 0 {
		return shaken(r.Rand, s.c)
	}
	c := api.Code{Fingers: r.number()}
	for range r.Intn(6) {
		c.Letters = append(c.Letters, api.Letter{Kind: api.LetterKind(r.number()), Gate: r.number(), Rank: r.number(), ID: r.number(), Sign: r.number() - 1, Over: r.yes()})
	}
	return c
}

// call returns a call in which one thing is likely to be wrong.
func (r wild) call(s scene) call {
	x := call{fr: copiedFrame(s.fr), c: s.c, b: r.code(s), r: randomRules(r.Rand), ops: r.ops()}
	if r.yes() {
		x.r.Nodes, x.r.Limit = 1+r.Intn(5), 1
	}
	switch r.Intn(8) {
	case 0:
		x.fr.Fingers[0] = api.Finger{Person: r.number(), Digit: r.number()}
	case 1:
		x.fr.Reach, x.fr.Loops = r.number(), r.number()
	case 2:
		x.c = r.code(s)
	case 3:
		x.r.Kinds = append(x.r.Kinds, api.OpKind(r.number()))
	case 4:
		x.r.Depth, x.r.Nodes = r.number(), r.Intn(20)-1
	case 5:
		x.r.Limit = r.number()
	}
	return x
}

// P0.1, R2 and R5: no arguments make a function panic, and with an error a result is a zero value.
func TestAnyValue(t *testing.T) {
	r := wild{rand.New(rand.NewSource(13))}
	for range 3000 {
		// All samples but the first ones have few fingers, and at least one.
		x := r.call(samples()[5+r.Intn(len(samples())-5)])
		for _, f := range functions() {
			if e, zero := f.do(x); e != api.OK && !zero {
				t.Fatalf("%s, %+v: %d, with a result", f.name, x, e)
			}
		}
		p := api.Proof{Ops: x.ops, Path: r.moves()}
		if way.Undone(x.fr, x.c, p) && !hand.Posed(x.fr, x.c) {
			t.Fatalf("%+v, %+v", x, p)
		}
		l := api.Lesson{Ops: r.ops(), At: r.number(), Done: r.yes()}
		if way.Check(x.fr, x.c, x.b, r.number(), l, x.ops...) && code.Check(x.b) != api.OK {
			t.Fatalf("%+v, %+v", x, l)
		}
	}
}
