package hand_test

import (
	"math"
	"math/rand"
	"slices"
	"testing"

	"catscradle/api"
	"catscradle/code"
	"catscradle/hand"
)

// R4 and R8: arguments are neither changed nor kept, results share no memory, and equal calls have equal results.
func TestMemory(t *testing.T) {
	for _, s := range samples()[:120] {
		for _, op := range someOps(s) {
			fr := api.Frame{Fingers: slices.Clone(s.fr.Fingers), Reach: s.fr.Reach, Loops: s.fr.Loops}
			c, path, original := copied(s.c), slices.Clone(op.Path), op.Path
			op.Path = path
			after, moves, e := hand.Do(fr, c, op)
			ops, e2 := hand.Expand(fr, c, op)
			ran, n, e3 := hand.Run(fr, c, op, op)
			if !equal(c, s.c) || !slices.Equal(fr.Fingers, s.fr.Fingers) {
				t.Fatalf("%v, %+v: arguments were changed", s, op)
			}
			kept, keptRan := copied(after), copied(ran)
			keptOps := copiedOps(ops)
			for i := range c.Letters {
				c.Letters[i].Gate = -7
			}
			for i := range fr.Fingers {
				fr.Fingers[i].Person = -7
			}
			for i := range path {
				path[i].At.Finger = -7
			}
			if !equal(after, kept) || !equal(ran, keptRan) || !slices.EqualFunc(ops, keptOps, equalOps) {
				t.Fatalf("%v: results share memory with arguments", s)
			}
			op.Path = original
			after2, moves2, f := hand.Do(s.fr, s.c, op)
			ops2, f2 := hand.Expand(s.fr, s.c, op)
			ran2, n2, f3 := hand.Run(s.fr, s.c, op, op)
			if f != e || f2 != e2 || f3 != e3 || n != n2 || !equal(after, after2) || !slices.Equal(moves, moves2) || !equal(ran, ran2) || !slices.EqualFunc(ops, ops2, equalOps) {
				t.Fatalf("%v, %+v: another result", s, op)
			}
			for i := range ops {
				for j := range ops[i].Path {
					ops[i].Path[j].At.Finger = -7
				}
				_ = append(ops[i].Path, api.Step{})
			}
			if !slices.EqualFunc(ops2, keptOps, equalOps) {
				t.Fatalf("%v, %+v: results share memory", s, op)
			}
		}
	}
}

// copiedOps returns operations with paths of their own.
func copiedOps(l []api.Op) []api.Op {
	var all []api.Op
	for _, op := range l {
		op.Path = slices.Clone(op.Path)
		all = append(all, op)
	}
	return all
}

// R4: the other functions keep no arguments, and their results share no memory.
func TestMoreMemory(t *testing.T) {
	fr := standard(t)
	c, ops, _ := hand.Opening(fr, api.OpeningA)
	other, otherOps, _ := hand.Opening(fr, api.OpeningA)
	want, wantOps := copied(c), copiedOps(ops)
	for i := range c.Letters {
		c.Letters[i].Gate = -7
	}
	for i := range ops {
		_ = append(ops[i].Path, over(near(1, 1, 1)))
		for j := range ops[i].Path {
			ops[i].Path[j].Over = false
		}
	}
	if !equal(other, want) || !slices.EqualFunc(otherOps, wantOps, equalOps) {
		t.Error("openings share memory")
	}
	ran, _, _ := hand.Run(fr, want)
	ran.Letters[0].Gate = -7
	if !equal(other, want) {
		t.Error("Run returns its argument")
	}
	for _, s := range samples()[:60] {
		if len(s.c.Letters) == 0 {
			continue
		}
		names := must[[]api.String](t)(hand.Names(s.fr, s.c))
		counts := must[[]int](t)(hand.Loops(s.fr, s.c))
		for _, name := range names {
			one := must[[]api.String](t)(hand.Route(s.fr, s.c, 1, name))
			two := must[[]api.String](t)(hand.Route(s.fr, s.c, 1, name))
			kept := slices.Clone(two)
			for i := range one {
				one[i] = api.String{}
			}
			if !slices.Equal(two, kept) {
				t.Error("routes share memory")
			}
		}
		clear(names)
		clear(counts)
		if !slices.ContainsFunc(must[[]api.String](t)(hand.Names(s.fr, s.c)), func(n api.String) bool { return n.Loop > 0 }) || slices.Max(must[[]int](t)(hand.Loops(s.fr, s.c))) == 0 {
			t.Error("the state is not kept")
		}
	}
}

// R3: nil and empty lists are the same.
func TestEmpty(t *testing.T) {
	fr := standard(t)
	c := read(t, "10: 0.1 1.1 9.1 10.1")
	for _, op := range []api.Op{release(1), twist(1, true), drop(1), take(2, far(1, 0, 0), true), pick(2, far(1, 0, 0)), transfer(2, 1, true), exchange(1, 10, true)} {
		empty := op
		empty.Path = []api.Step{}
		one, e := scene{fr, c}.do(op)
		two, e2 := scene{fr, c}.do(empty)
		if e != api.OK || e2 != api.OK || !equal(one, two) {
			t.Errorf("%+v: %d, %d", op, e, e2)
		}
	}
	none := api.Frame{Fingers: []api.Finger{}, Loops: 3}
	if !hand.Valid(none) || !hand.Posed(none, api.Code{Letters: []api.Letter{}}) {
		t.Error("no fingers")
	}
	if _, _, e := hand.Do(none, api.Code{}, api.Op{}); e != api.ErrArg {
		t.Error(e)
	}
}

// kinked returns a posed code with n kinks above the axis, after the second letter.
func kinked(c api.Code, n int) api.Code {
	c = copied(c)
	for i := range n {
		kink := []api.Letter{{Kind: api.Cross, ID: i + 1, Sign: 1}, {Kind: api.Cross, ID: i + 1, Sign: 1, Over: true}}
		c.Letters = slices.Insert(c.Letters, 2, kink...)
	}
	return c
}

// P6.4: ErrLong, where a move is refused.
func TestLimits(t *testing.T) {
	fr := must[api.Frame](t)(hand.Standard(4))
	fr.Reach, fr.Loops = 40, 20
	var all []int
	for f := range 40 {
		all = append(all, f+1)
	}
	full := must[api.Code](t)(hand.Hang(fr, all...))
	for len(full.Letters) < 200 {
		f := 1 + len(full.Letters)/2%40
		full, _ = scene{fr, full}.do(pick(f, near(f, 0, 0)))
	}
	thumbs := must[api.Code](t)(hand.Hang(fr, 1, 1+9))
	double := must[api.Code](t)(hand.Hang(fr, 1, 2))
	double, _ = scene{fr, double}.do(pick(1, near(1, 0, 0)))
	for _, c := range []struct {
		c    api.Code
		op   api.Op
		want api.Errno
	}{
		{kinked(full, 100), release(3), api.OK},
		{kinked(full, 100), twist(3, true), api.ErrLong},
		{kinked(full, 100), pick(3, near(3, 0, 0)), api.ErrLong},
		{kinked(full, 100), take(40, near(3, 0, 0), true), api.ErrLong},
		{kinked(full, 100), transfer(40, 3, true), api.ErrLong},
		{kinked(full, 100), navaho(1), api.ErrLong},
		{kinked(full, 100), navaho(99), api.ErrArg},
		{kinked(full, 100), drop(3), api.OK},
		{kinked(full, 99), twist(3, true), api.OK},
		{kinked(full, 99), pick(3, near(3, 0, 0)), api.OK},
		{kinked(full, 99), navaho(1), api.ErrLong},
		{kinked(full, 98), navaho(1), api.ErrLong},
		{kinked(full, 97), navaho(1), api.OK},
		{kinked(thumbs, 100), twist(1, true), api.ErrLong},
		{kinked(thumbs, 99), twist(1, true), api.OK},
		{kinked(thumbs, 100), pick(10, far(10, 0, 0)), api.OK},
		{kinked(thumbs, 99), pick(15, far(10, 0, 0), over(near(10, 0, 0))), api.ErrLong},
		{kinked(thumbs, 98), pick(15, far(10, 0, 0), over(near(10, 0, 0))), api.OK},
		{kinked(thumbs, 98), pick(15, far(10, 0, 0)), api.ErrMove},
		{kinked(double, 99), navaho(1), api.ErrLong},
		{kinked(double, 98), navaho(1), api.OK},
		{kinked(double, 99), exchange(1, 2, true), api.ErrLong},
	} {
		if !hand.Posed(fr, c.c) {
			t.Fatalf("%s is not posed", code.Print(c.c))
		}
		got, e := scene{fr, c.c}.do(c.op)
		if _, e2 := hand.Expand(fr, c.c, c.op); e != c.want || e2 != c.want || e == api.OK && code.Check(got) != api.OK {
			t.Errorf("%d letters, %d crossings, %+v: %d, %d, not %d", len(c.c.Letters), code.Crossings(c.c), c.op, e, e2, c.want)
		}
	}
}

// P0.1, R2 and R5: no arguments make a function panic, and with an error a result is a zero value.
func TestAnyValue(t *testing.T) {
	r := rand.New(rand.NewSource(13))
	numbers := []int{math.MinInt, math.MinInt + 1, -400, -2, -1, 0, 1, 2, 3, 4, 5, 8, 10, 20, 40, 41, 400, math.MaxInt - 1, math.MaxInt}
	small := func() int {
		if r.Intn(6) == 0 {
			return numbers[r.Intn(len(numbers))]
		}
		return r.Intn(5)
	}
	anyString := func() api.String {
		return api.String{Finger: small(), Loop: small(), Far: r.Intn(2) == 0, Piece: small()}
	}
	all := samples()
	for range 20000 {
		s := all[r.Intn(len(all))]
		fr, c := s.fr, s.c
		if r.Intn(4) == 0 {
			fr = api.Frame{Fingers: slices.Clone(fr.Fingers), Reach: small(), Loops: small()}
			for i := range fr.Fingers {
				if r.Intn(8) == 0 {
					fr.Fingers[i] = api.Finger{Person: small(), Digit: small(), Right: r.Intn(2) == 0}
				}
			}
		}
		if r.Intn(4) == 0 {
			c = api.Code{Fingers: small()}
			for range r.Intn(6) {
				c.Letters = append(c.Letters, api.Letter{Kind: api.LetterKind(small()), Gate: small(), Rank: small(), ID: small(), Sign: small() - 1, Over: r.Intn(2) == 0})
			}
		}
		op := api.Op{Kind: api.OpKind(small() * r.Intn(3)), Finger: small(), From: anyString(), Over: r.Intn(2) == 0}
		for range r.Intn(3) {
			op.Path = append(op.Path, api.Step{At: anyString(), Over: r.Intn(2) == 0})
		}
		after, moves, e := hand.Do(fr, c, op)
		ops, e2 := hand.Expand(fr, c, op)
		ran, n, e3 := hand.Run(fr, c, op, op)
		if e != e2 || e != api.OK && (!equal(after, api.Code{}) || len(moves)+len(ops) > 0 || e3 != e || n != 0 || !equal(ran, api.Code{})) {
			t.Fatalf("%v, %+v: %d, %d, %d", s, op, e, e2, e3)
		}
		names, e := hand.Names(fr, c)
		counts, e2 := hand.Loops(fr, c)
		if e != e2 || hand.Posed(fr, c) != (e == api.OK) || e != api.OK && len(names)+len(counts) > 0 {
			t.Fatalf("%v: %d, %d", s, e, e2)
		}
		edge, e := hand.Edge(fr, c, op.From)
		route, e2 := hand.Route(fr, c, op.Finger, op.From)
		if e != api.OK && (edge != 0 || e2 == api.OK || len(route) > 0) || e == api.ErrNone && e2 != e && e2 != api.ErrArg {
			t.Fatalf("%v, %v: %d, %d", s, op.From, e, e2)
		}
		f := api.Finger{Person: small(), Digit: small(), Right: r.Intn(2) == 0}
		hand.Index(fr, f)
		hand.ParseName(hand.Name(f))
		hand.Hang(fr, small(), small(), small())
		hand.Opening(fr, api.OpeningKind(small()))
		hand.Standard(small())
	}
}
