package show_test

import (
	"math"
	"math/rand"
	"slices"
	"testing"

	"catscradle/api"
	"catscradle/code"
	"catscradle/show"
)

// call is what a function of performances is called with.
type call struct {
	scene
	fingers []api.Finger
	p       api.Place
	person  int
	ops     []api.Op
	acts    []api.Act
}

// outcome is what a function of performances returns.
type outcome struct {
	scene
	persons []int
	n       int
	e       api.Errno
}

func (o outcome) equals(other outcome) bool {
	return equalFrames(o.fr, other.fr) && equal(o.c, other.c) && slices.Equal(o.persons, other.persons) && o.n == other.n && o.e == other.e
}

// function is a function of performances.
type function struct {
	name string
	do   func(call) outcome
}

func functions() []function {
	return []function{
		{"Persons", func(x call) outcome {
			l, e := show.Persons(x.fr, x.c)
			return outcome{persons: l, e: e}
		}},
		{"Enter", func(x call) outcome {
			fr, c, e := show.Enter(x.fr, x.c, x.fingers, x.p)
			return outcome{scene: scene{fr, c}, e: e}
		}},
		{"Leave", func(x call) outcome {
			fr, c, e := show.Leave(x.fr, x.c, x.person)
			return outcome{scene: scene{fr, c}, e: e}
		}},
		{"Together", func(x call) outcome {
			c, e := show.Together(x.fr, x.c, x.ops...)
			return outcome{scene: scene{c: c}, e: e}
		}},
		{"Play", func(x call) outcome {
			fr, c, n, e := show.Play(x.fr, x.c, x.acts...)
			return outcome{scene: scene{fr, c}, n: n, e: e}
		}},
	}
}

// right returns a call that no function refuses.
func right(t *testing.T) call {
	t.Helper()
	x := call{scene: scene{frame(t, "L1", "2L1", "R1"), read(t, "3: 0.1 1.1 2.1 3.1")}, fingers: fingers(t, "3L1"), p: api.Place{Gate: 1, Left: 1}, person: 2}
	x.ops = words(t, x.fr, "release L1; twist R1 over")
	x.acts = []api.Act{do(x.ops...), leave(2)}
	return x
}

// R1: mistakes in the frame come first, then those in the code, then those that concern both, and then all others.
func TestStageErrors(t *testing.T) {
	fr := frame(t, "L1", "2L1", "R1")
	again := frame(t, "L1", "2L1", "R1", "L1")
	late := call{person: 9, ops: []api.Op{{Kind: api.OpRelease, Finger: 2}}, acts: []api.Act{leave(9)}}
	for _, f := range functions() {
		if o := f.do(right(t)); o.e != api.OK {
			t.Errorf("%s: %d", f.name, o.e)
		}
		late.scene = right(t).scene
		if o := f.do(late); o.e != api.ErrNone && f.name != "Persons" && f.name != "Enter" {
			t.Errorf("%s: %d", f.name, o.e)
		}
	}
	for i, x := range []struct {
		fr   api.Frame
		c    api.Code
		want api.Errno
	}{
		{api.Frame{}, api.Code{}, api.ErrArg},
		{api.Frame{Loops: 1}, api.Code{Fingers: 1}, api.ErrArg},
		{api.Frame{Fingers: fr.Fingers, Loops: 21}, api.Code{Letters: make([]api.Letter, 500)}, api.ErrArg},
		{api.Frame{Fingers: make([]api.Finger, 1), Loops: 1}, api.Code{Fingers: 1, Letters: make([]api.Letter, 500)}, api.ErrArg},
		{again, api.Code{Fingers: 4, Letters: make([]api.Letter, 2)}, api.ErrArg},
		{api.Frame{Fingers: fr.Fingers, Reach: 41, Loops: 1}, api.Code{Fingers: 3, Letters: make([]api.Letter, 2)}, api.ErrArg},
		{fr, api.Code{Letters: make([]api.Letter, 500)}, api.ErrLong},
		{fr, api.Code{Fingers: -1, Letters: make([]api.Letter, 2)}, api.ErrArg},
		{fr, api.Code{Fingers: 2, Letters: make([]api.Letter, 2)}, api.ErrCode},
		{fr, api.Code{Fingers: 2}, api.ErrArg},
		{fr, api.Code{Fingers: 4}, api.ErrArg},
		{fr, read(t, "3: 0.1 2.1"), api.ErrArg},
		{fr, read(t, "3: 0.1 0.2"), api.ErrArg},
	} {
		for _, f := range functions() {
			for _, y := range []call{{}, right(t), late} {
				y.scene = scene{x.fr, x.c}
				if o := f.do(y); !o.equals(outcome{e: x.want}) {
					t.Errorf("case %d, %s: %v, not %d", i, f.name, o, x.want)
				}
			}
		}
	}
}

// spare returns a list with memory of its own, and some more behind it.
func spare[T any](l []T) []T {
	return append(make([]T, 0, len(l)+20), l...)
}

// untouched reports whether the memory behind a list has still zero values.
func untouched[T comparable](l []T) bool {
	var zero T
	return !slices.ContainsFunc(l[len(l):cap(l)], func(item T) bool { return item != zero })
}

func equalOps(a, b []api.Op) bool {
	return slices.EqualFunc(a, b, func(a, b api.Op) bool {
		return a.Kind == b.Kind && a.Finger == b.Finger && a.From == b.From && a.Over == b.Over && slices.Equal(a.Path, b.Path)
	})
}

// R4 and R8: functions of performances neither change nor keep arguments, and their results are new.
func TestStageMemory(t *testing.T) {
	r := rand.New(rand.NewSource(13))
	for _, s := range scenes() {
		places := s.places()
		x := call{scene: s, fingers: newFingers(r), p: places[r.Intn(len(places))], person: 1 + r.Intn(3), ops: randomOps(r, s)}
		for range r.Intn(3) {
			x.acts = append(x.acts, randomAct(r, s))
		}
		for _, f := range functions() {
			want := f.do(x)
			y := x
			y.fr.Fingers, y.c.Letters, y.fingers, y.ops, y.acts = spare(x.fr.Fingers), spare(x.c.Letters), spare(x.fingers), spare(x.ops), spare(x.acts)
			got := f.do(y)
			if !got.equals(want) {
				t.Fatalf("%s, %+v: %v, and then %v", f.name, x, want, got)
			}
			if !equalFrames(x.fr, y.fr) || !equal(x.c, y.c) || !slices.Equal(x.fingers, y.fingers) || !equalOps(x.ops, y.ops) {
				t.Fatalf("%s, %+v: arguments were changed", f.name, x)
			}
			if !untouched(y.fr.Fingers) || !untouched(y.c.Letters) || !untouched(y.fingers) {
				t.Fatalf("%s, %+v: memory behind arguments was changed", f.name, x)
			}
			clear(y.fr.Fingers)
			clear(y.c.Letters)
			clear(y.fingers)
			clear(y.ops)
			clear(y.acts)
			if !got.equals(want) {
				t.Fatalf("%s, %+v: the result has memory of arguments", f.name, x)
			}
			clear(got.fr.Fingers)
			clear(got.c.Letters)
			if !f.do(x).equals(want) {
				t.Fatalf("%s, %+v: the result was kept", f.name, x)
			}
		}
	}
}

// R4 and R8: functions of pictures neither change nor keep arguments, and their results are new.
func TestMemory(t *testing.T) {
	for _, c := range samples() {
		for _, s := range allSymmetries() {
			d := api.Code{Fingers: c.Fingers, Letters: spare(c.Letters)}
			image := must[api.Code](t)(show.Image(d, s))
			p := must[api.Picture](t)(show.Draw(d))
			clear(image.Letters)
			if !equal(c, d) || !untouched(d.Letters) {
				t.Fatalf("%s, %v: the argument was changed", code.Print(c), s)
			}
			image = must[api.Code](t)(show.Image(d, s))
			clear(d.Letters)
			if !equal(image, must[api.Code](t)(show.Image(c, s))) || !equalPictures(p, must[api.Picture](t)(show.Draw(c))) {
				t.Fatalf("%s, %v: the result has memory of the argument", code.Print(c), s)
			}
		}
		p := must[api.Picture](t)(show.Draw(c))
		q := api.Picture{Fingers: p.Fingers, Gates: spare(p.Gates), Above: spare(p.Above), Below: spare(p.Below)}
		got, lines := must[api.Code](t)(show.Read(q)), must[[]string](t)(show.Grid(q))
		if !equalPictures(p, q) || !untouched(q.Gates) || !untouched(q.Above) || !untouched(q.Below) {
			t.Fatalf("%v: the argument was changed", p)
		}
		clear(q.Gates)
		clear(q.Above)
		clear(q.Below)
		if !equal(got, must[api.Code](t)(show.Read(p))) || !slices.Equal(lines, must[[]string](t)(show.Grid(p))) {
			t.Fatalf("%v: another result", p)
		}
		_ = append(p.Above, lid(7))
		_ = append(p.Gates, 7)
		clear(p.Above)
		if !equalPictures(api.Picture{Fingers: p.Fingers, Gates: p.Gates, Below: p.Below}, api.Picture{Fingers: p.Fingers, Gates: must[api.Picture](t)(show.Draw(c)).Gates, Below: must[api.Picture](t)(show.Draw(c)).Below}) {
			t.Fatalf("%v: lists of a picture share memory", p)
		}
	}
}

// R3: nil and empty lists are the same.
func TestEmpty(t *testing.T) {
	for _, fr := range []api.Frame{{Loops: 1}, {Fingers: []api.Finger{}, Loops: 1}} {
		for _, c := range []api.Code{{}, {Letters: []api.Letter{}}} {
			x := call{scene: scene{fr, c}}
			y := call{scene: x.scene, fingers: []api.Finger{}, ops: []api.Op{}, acts: []api.Act{}}
			for _, f := range functions() {
				if !f.do(x).equals(f.do(y)) {
					t.Errorf("%s: %v and %v", f.name, f.do(x), f.do(y))
				}
			}
			persons, e := show.Persons(fr, c)
			end, f := show.Together(fr, c)
			if e != api.OK || len(persons) > 0 || f != api.OK || !equal(end, c) {
				t.Error(persons, e, end, f)
			}
		}
	}
	for _, p := range []api.Picture{{Gates: []int{0}}, {Gates: []int{0}, Above: []api.Row{}, Below: []api.Row{}}} {
		if c, e := show.Read(p); e != api.OK || !equal(c, api.Code{}) {
			t.Error(code.Print(c), e)
		}
	}
	for _, p := range []api.Picture{{}, {Gates: []int{}}} {
		if _, e := show.Read(p); e != api.ErrArg {
			t.Error(e)
		}
	}
}

// wild makes arguments of all kinds, most of which are small numbers.
type wild struct{ *rand.Rand }

func (r wild) yes() bool { return r.Intn(2) == 0 }

func (r wild) number() int {
	if r.Intn(6) > 0 {
		return r.Intn(5)
	}
	l := []int{math.MinInt, -2, -1, 5, 6, 9, 10, 40, 41, 100, 101, 400, 401, math.MaxInt - 1, math.MaxInt}
	return l[r.Intn(len(l))]
}

func (r wild) picture() api.Picture {
	p := api.Picture{Fingers: r.number()}
	n := r.Intn(5)
	if p.Fingers >= 0 && p.Fingers < 41 && r.Intn(5) > 0 {
		n = p.Fingers + 1
	}
	for range n {
		p.Gates = append(p.Gates, r.number())
	}
	for range r.Intn(5) {
		p.Above = append(p.Above, api.Row{Kind: api.RowKind(r.number()), At: r.number(), In: r.number(), Over: r.yes()})
		p.Below = append(p.Below, api.Row{Kind: api.RowKind(r.number()), At: r.number(), In: r.number(), Over: r.yes()})
	}
	return p
}

func (r wild) code() api.Code {
	c := samples()[r.Intn(len(samples()))]
	if r.Intn(4) == 0 {
		c = api.Code{Fingers: r.number(), Letters: make([]api.Letter, r.Intn(6))}
	}
	c = copied(c)
	for range r.Intn(2) {
		if len(c.Letters) > 0 {
			c.Letters[r.Intn(len(c.Letters))] = api.Letter{Kind: api.LetterKind(r.number()), Gate: r.number(), Rank: r.number(), ID: r.number(), Sign: r.Intn(3) - 1, Over: r.yes()}
		}
	}
	return c
}

func (r wild) finger() api.Finger {
	return api.Finger{Person: r.number(), Right: r.yes(), Digit: r.number()}
}

func (r wild) string() api.String {
	return api.String{Finger: r.number(), Loop: r.number(), Far: r.yes(), Piece: r.number()}
}

func (r wild) op() api.Op {
	op := api.Op{Kind: api.OpKind(r.number()), Finger: r.number(), Over: r.yes()}
	if r.yes() {
		op.From = r.string()
	}
	for range max(0, r.Intn(5)-2) {
		op.Path = append(op.Path, api.Step{At: r.string(), Over: r.yes()})
	}
	return op
}

func (r wild) call() call {
	x := call{scene: scenes()[r.Intn(len(scenes()))]}
	if r.Intn(4) == 0 {
		x.c = r.code()
	}
	if r.Intn(4) == 0 {
		x.fr = api.Frame{Reach: r.number(), Loops: r.number()}
		for range r.Intn(4) {
			x.fr.Fingers = append(x.fr.Fingers, r.finger())
		}
	}
	x.p, x.person = api.Place{Gate: r.number(), Left: r.number()}, r.number()
	for range r.Intn(4) {
		x.fingers, x.ops = append(x.fingers, r.finger()), append(x.ops, r.op())
	}
	for range r.Intn(4) {
		act := api.Act{Kind: api.ActKind(r.number())}
		if r.yes() {
			act.Ops = x.ops
		}
		if r.yes() {
			act.Fingers, act.At = x.fingers, x.p
		}
		if r.yes() {
			act.Person = x.person
		}
		x.acts = append(x.acts, act)
	}
	return x
}

// P0.1 and R2: functions have results for all arguments, and with an error all others are zero values.
func TestAnyValue(t *testing.T) {
	r := wild{rand.New(rand.NewSource(14))}
	for range 20000 {
		c, p := r.code(), r.picture()
		want := code.Check(c)
		picture, e1 := show.Draw(c)
		polygons, e2 := show.Polygons(c)
		pattern, e3 := show.Pattern(c)
		image, e4 := show.Image(c, api.Symmetry{Swap: r.yes(), Mirror: r.yes(), Turn: r.yes()})
		symmetries, e5 := show.Symmetries(c)
		for _, e := range []api.Errno{e1, e2, e3, e4, e5} {
			if e != want {
				t.Fatalf("%s: %d, not %d", code.Print(c), e, want)
			}
		}
		if want != api.OK && (!equalPictures(picture, api.Picture{}) || len(polygons)+len(pattern)+len(symmetries) > 0 || !equal(image, api.Code{})) {
			t.Fatalf("%s: results with the error %d", code.Print(c), want)
		}
		got, e := show.Read(p)
		lines, f := show.Grid(p)
		if e != f || e != api.OK && (!equal(got, api.Code{}) || len(lines) > 0) {
			t.Fatalf("%v: %s, %d; %q, %d", p, code.Print(got), e, lines, f)
		}
	}
	errors := map[string]map[api.Errno]int{}
	for range 4000 {
		x := r.call()
		for _, f := range functions() {
			o := f.do(x)
			zero := outcome{e: o.e}
			if f.name == "Play" {
				zero.n = o.n
			}
			if o.e != api.OK && !o.equals(zero) || o.n < 0 || o.n > len(x.acts) || o.e != api.OK && o.n > 0 && o.n == len(x.acts) {
				t.Fatalf("%s, %+v: %v", f.name, x, o)
			}
			if errors[f.name] == nil {
				errors[f.name] = map[api.Errno]int{}
			}
			errors[f.name][o.e]++
		}
	}
	for name, counts := range errors {
		if counts[api.OK] < 20 || counts[api.ErrArg] < 20 || counts[api.ErrCode] < 20 {
			t.Error(name, counts)
		}
	}
}
