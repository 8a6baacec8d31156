package show_test

import (
	"math/rand"
	"slices"
	"testing"

	"catscradle/api"
	"catscradle/code"
	"catscradle/hand"
	"catscradle/show"
)

// P9.7: operations that are done together, worked out by hand.
func TestTogetherExamples(t *testing.T) {
	fr := frame(t, "L1", "L2", "2L1", "2R1", "R2", "R1")
	const hung = "6: 0.1 1.1 2.1 3.1 3.2 4.1 5.1 6.1"
	release := func(f int) api.Op { return api.Op{Kind: api.OpRelease, Finger: f} }
	for _, x := range []struct {
		c, ops string
		want   string
		e      api.Errno
	}{
		{hung, "", hung, api.OK},
		{"6:", "", "6:", api.OK},
		{hung, "release L1", "6: 2.1 3.1 3.2 4.1 5.1 6.1", api.OK},
		{hung, "release L1; release R1", "6: 2.1 3.1 3.2 4.1", api.OK},
		{hung, "release R1; release 2L1; release L1; release 2R1", "6:", api.OK},
		{hung, "twist L1 over; release R1", "6: 1.1 0.1 1u+ 2.1 3.1 3.2 4.1 1o+", api.OK},
		{hung, "release L2", "", api.ErrNone},
		{hung, "release L1; release R2", "", api.ErrNone},
		{hung, "release L1; navaho 2L1", "", api.ErrNone},
		{hung, "release L1; release L2", "", api.ErrArg},
		{hung, "twist L1 over; twist L1 over", "", api.ErrArg},
		// The string of the loop that is let go can be taken only before that.
		{hung, "take R2 from L1 near loop 1 over; release L1", "", api.ErrReach},
		{hung, "release L1; take R2 from L1 near loop 1 over", "", api.ErrNone},
		{hung, "twist L1 over; twist 2R1 under; release 2L1; release R1", "6: 1.1 0.1 1u+ 2u- 4.1 3.1 2o- 1o+", api.OK},
	} {
		got, e := show.Together(fr, read(t, x.c), words(t, fr, x.ops)...)
		if e != x.e || e == api.OK && !same(t, got, read(t, x.want)) || e != api.OK && !equal(got, api.Code{}) {
			t.Errorf("%s: %s, %d, not %s, %d", x.ops, code.Print(got), e, x.want, x.e)
		}
	}
	for _, ops := range [][]api.Op{
		{release(0)}, {release(7)}, {release(-1)}, {release(1), release(7)}, {release(2), release(7)},
		{release(1), release(3), release(4), release(6), release(1)},
		{release(1), {Kind: 9, Finger: 6}},
		{{Finger: 1}},
	} {
		if got, e := show.Together(fr, read(t, hung), ops...); e != api.ErrArg || !equal(got, api.Code{}) {
			t.Errorf("%v: %s, %d", ops, code.Print(got), e)
		}
	}
}

// randomOps returns up to five operations for a scene, many of them of different hands.
func randomOps(r *rand.Rand, s scene) []api.Op {
	hands := map[api.Finger]bool{}
	var ops []api.Op
	for n := 1 + r.Intn(5); n > 0; n-- {
		op := randomOp(r, s)
		if op.Finger > s.c.Fingers {
			return ops
		}
		h := s.fr.Fingers[op.Finger-1]
		h.Digit = 0
		if _, _, e := hand.Do(s.fr, s.c, op); (hands[h] || e != api.OK) && r.Intn(8) > 0 {
			continue
		}
		hands[h] = true
		ops = append(ops, op)
	}
	return ops
}

// P9.7: Together follows the definition, and does not depend on the order.
func TestTogether(t *testing.T) {
	r := rand.New(rand.NewSource(10))
	counts, lengths := map[api.Errno]int{}, map[int]int{}
	differ := 0
	for range 2 {
		for _, s := range scenes() {
			ops := randomOps(r, s)
			want, f := slowTogether(s, ops)
			got, e := show.Together(s.fr, s.c, ops...)
			if e != f || !equal(got, want) {
				t.Fatalf("%v, %v: %s, %d, not %s, %d", s, ops, code.Print(got), e, code.Print(want), f)
			}
			counts[e]++
			if e == api.ErrReach && canAll(s, ops) {
				differ++
			}
			if e != api.OK {
				continue
			}
			lengths[len(ops)]++
			all := orders(ops)
			other, e := show.Together(s.fr, s.c, all[r.Intn(len(all))]...)
			if e != api.OK || !same(t, other, got) {
				t.Errorf("%v, %v: %s, in another order %s, %d", s, ops, code.Print(got), code.Print(other), e)
			}
		}
	}
	if counts[api.ErrArg] < 20 || counts[api.ErrReach] < 20 || counts[api.ErrNone] < 10 || lengths[2] < 20 || lengths[3] < 5 || differ < 10 {
		t.Error(counts, lengths, differ)
	}
}

// canAll reports whether operations can be done in every order.
func canAll(s scene, ops []api.Op) bool {
	for _, order := range orders(ops) {
		if _, _, e := hand.Run(s.fr, s.c, order...); e != api.OK {
			return false
		}
	}
	return true
}

// P9.7: the operations of all four hands are tried in all orders.
func TestTogetherFour(t *testing.T) {
	fr := frame(t, "L1", "R1", "2L1", "2R1")
	c := must[api.Code](t)(hand.Hang(fr, 1, 2, 3, 4))
	r := rand.New(rand.NewSource(11))
	counts := map[api.Errno]int{}
	for range 400 {
		var ops []api.Op
		for f := range 4 {
			op := randomOp(r, scene{fr, c})
			op.Finger = f + 1
			if r.Intn(4) > 0 {
				op = api.Op{Kind: api.OpTwist, Finger: f + 1, Over: r.Intn(2) == 0}
			}
			ops = append(ops, op)
		}
		r.Shuffle(4, func(i, j int) { ops[i], ops[j] = ops[j], ops[i] })
		want, f := slowTogether(scene{fr, c}, ops)
		got, e := show.Together(fr, c, ops...)
		if e != f || !equal(got, want) {
			t.Fatalf("%v: %s, %d, not %s, %d", ops, code.Print(got), e, code.Print(want), f)
		}
		counts[e]++
	}
	if counts[api.OK] < 50 || counts[api.ErrReach] < 50 {
		t.Error(counts)
	}
}

// P9.7: four operations are done together, but not five, even if all belong to different hands.
func TestTogetherMost(t *testing.T) {
	fr := frame(t, "L1", "R1", "2L1", "2R1", "3L1")
	c := must[api.Code](t)(hand.Hang(fr, 1, 2, 3, 4, 5))
	var ops []api.Op
	for f := range 5 {
		got, e := show.Together(fr, c, ops...)
		if want := must[api.Code](t)(hand.Hang(fr, []int{1, 2, 3, 4, 5}[f:]...)); e != api.OK || !same(t, got, want) {
			t.Errorf("%d operations: %s, %d", f, code.Print(got), e)
		}
		ops = append(ops, api.Op{Kind: api.OpRelease, Finger: f + 1})
	}
	if got, e := show.Together(fr, c, ops...); e != api.ErrArg || !equal(got, api.Code{}) {
		t.Errorf("%s, %d", code.Print(got), e)
	}
}

// crammed returns a posed code with n letters, 200 of which are kinks between the first two of its fingers, each of which has several loops.
func crammed(t *testing.T, fr api.Frame, n int) api.Code {
	t.Helper()
	c := must[api.Code](t)(hand.Hang(fr, 1, 2, 3, 4, 5, 6, 7, 8))
	for f := 1; len(c.Letters) < n-2*api.MaxCrossings; f = f%8 + 1 {
		next, _, e := hand.Do(fr, c, api.Op{Kind: api.OpPick, Finger: f, From: near(f, 0)})
		if e != api.OK {
			t.Fatal(e)
		}
		c = next
	}
	loop := kinks(1, api.MaxCrossings).Letters
	c.Letters = slices.Insert(c.Letters, 2, loop[1:len(loop)-1]...)
	return c
}

// P9.7: all orders are tried, also if only those fail that begin with one of the operations: a loop can be made only if another one was let go before.
func TestTogetherOrders(t *testing.T) {
	fr := frame(t, "L1", "R1", "2L1", "3L1", "3L2", "3L3", "3L4", "3L5")
	fr.Loops = 20
	room, full := crammed(t, fr, api.MaxLetters-2), crammed(t, fr, api.MaxLetters)
	ops := []api.Op{{Kind: api.OpRelease, Finger: 1}, {Kind: api.OpRelease, Finger: 2}, {Kind: api.OpPick, Finger: 3, From: near(3, 0)}, {Kind: api.OpRelease, Finger: 4}}
	for n := 2; n <= 4; n++ {
		for _, order := range orders(ops[:n]) {
			if n == 2 {
				order = append(order, ops[2])
			}
			if _, e := show.Together(fr, room, order...); e != api.OK {
				t.Errorf("%v: %d", order, e)
			}
			want := api.ErrReach
			if order[0].Kind == api.OpPick {
				want = api.ErrLong
			}
			if c, e := show.Together(fr, full, order...); e != want || !equal(c, api.Code{}) {
				t.Errorf("%v: %d, not %d", order, e, want)
			}
		}
	}
}

func do(ops ...api.Op) api.Act { return api.Act{Kind: api.ActDo, Ops: ops} }

func leave(person int) api.Act { return api.Act{Kind: api.ActLeave, Person: person} }

func enter(p api.Place, l ...api.Finger) api.Act {
	return api.Act{Kind: api.ActEnter, Fingers: l, At: p}
}

// P9.7: a performance worked out by hand: person 2 takes over the loops of person 1, who leaves.
func TestPlayExamples(t *testing.T) {
	s := two(t)
	all := frame(t, "2L1", "L1", "R1", "2R1")
	acts := []api.Act{
		enter(api.Place{}, fingers(t, "2L1")...),
		enter(api.Place{Gate: 3, Left: 1}, fingers(t, "2R1")...),
		do(words(t, all, "transfer 2L1 from L1 over; transfer 2R1 from R1 under")...),
		leave(1),
	}
	frames := []api.Frame{s.fr, frame(t, "2L1", "L1", "R1"), all, all, frame(t, "2L1", "2R1")}
	codes := []string{"2: 0.1 1.1 1.2 2.1", "3: 1.1 2.1 2.2 3.1", "4: 1.1 2.1 2.2 3.1", "4: 0.1 1.1 3.1 4.1", "2: 0.1 1.1 1.2 2.1"}
	for n := range acts {
		fr, c, done, e := show.Play(s.fr, s.c, acts[:n]...)
		if e != api.OK || done != n || !equalFrames(fr, frames[n]) || !same(t, c, read(t, codes[n])) {
			t.Errorf("%d acts: %v, %s, %d, %d", n, fr, code.Print(c), done, e)
		}
	}
	end, _, done, e := show.Play(s.fr, s.c, acts...)
	if e != api.OK || done != 4 || !equalFrames(end, frames[4]) {
		t.Errorf("%v, %d, %d", end, done, e)
	}
}

// P9.7: the error of the first act that is refused, and its index.
func TestPlayErrors(t *testing.T) {
	s := two(t)
	release := func(f int) api.Op { return api.Op{Kind: api.OpRelease, Finger: f} }
	out := do(release(1))
	free, inside := api.Place{Gate: 1, Left: 1}, api.Place{Gate: 1}
	in := enter(free, fingers(t, "2L1")...)
	with := func(act api.Act, change func(*api.Act)) api.Act {
		change(&act)
		return act
	}
	addOps := func(a *api.Act) { a.Ops = []api.Op{{}} }
	addFingers := func(a *api.Act) { a.Fingers = []api.Finger{{}} }
	addGate := func(a *api.Act) { a.At.Gate = 1 }
	addLeft := func(a *api.Act) { a.At.Left = -1 }
	addPerson := func(a *api.Act) { a.Person = 1 }
	for i, x := range []struct {
		acts []api.Act
		at   int
		want api.Errno
	}{
		{nil, 0, api.OK},
		{[]api.Act{{Kind: api.ActDo}}, 1, api.OK},
		{[]api.Act{{Kind: api.ActDo, Ops: []api.Op{}, Fingers: []api.Finger{}}}, 1, api.OK},
		{[]api.Act{out, do(release(2)), leave(1)}, 3, api.OK},
		{[]api.Act{in, leave(2), in, leave(2)}, 4, api.OK},
		{[]api.Act{{Kind: api.ActEnter, Fingers: fingers(t, "2L1"), At: free, Ops: []api.Op{}}, {Kind: api.ActLeave, Person: 2, Ops: []api.Op{}, Fingers: []api.Finger{}}}, 2, api.OK},
		{[]api.Act{{}}, 0, api.ErrArg},
		{[]api.Act{{Kind: 4}}, 0, api.ErrArg},
		{[]api.Act{{Kind: -1}}, 0, api.ErrArg},
		{[]api.Act{out, {Kind: 4}, leave(9)}, 1, api.ErrArg},
		{[]api.Act{with(out, addFingers)}, 0, api.ErrArg},
		{[]api.Act{with(out, addGate)}, 0, api.ErrArg},
		{[]api.Act{with(out, addLeft)}, 0, api.ErrArg},
		{[]api.Act{with(out, addPerson)}, 0, api.ErrArg},
		{[]api.Act{in, with(leave(2), addOps)}, 1, api.ErrArg},
		{[]api.Act{in, with(leave(2), addFingers)}, 1, api.ErrArg},
		{[]api.Act{in, with(leave(2), addGate)}, 1, api.ErrArg},
		{[]api.Act{in, with(leave(2), addLeft)}, 1, api.ErrArg},
		{[]api.Act{out, out, with(in, addOps)}, 1, api.ErrNone},
		{[]api.Act{with(in, addOps)}, 0, api.ErrArg},
		{[]api.Act{with(in, addPerson)}, 0, api.ErrArg},
		{[]api.Act{do(release(1), release(3))}, 0, api.ErrArg},
		{[]api.Act{do(release(1), release(2)), out}, 1, api.ErrNone},
		{[]api.Act{do(words(t, s.fr, "take R1 from L1 near loop 1 over; release L1")...)}, 0, api.ErrReach},
		{[]api.Act{enter(free)}, 0, api.ErrArg},
		{[]api.Act{in, in}, 1, api.ErrArg},
		{[]api.Act{enter(inside, fingers(t, "2L1")...)}, 0, api.ErrMove},
		{[]api.Act{leave(2)}, 0, api.ErrNone},
		{[]api.Act{leave(1)}, 0, api.ErrReach},
		{[]api.Act{out, leave(1)}, 1, api.ErrReach},
		// An act that is none is refused before it is tried.
		{[]api.Act{with(leave(1), addOps)}, 0, api.ErrArg},
		{[]api.Act{with(leave(3), addGate)}, 0, api.ErrArg},
		{[]api.Act{with(enter(inside, fingers(t, "2L1")...), addPerson)}, 0, api.ErrArg},
		// The string is off all fingers, so the code is not posed.
		{[]api.Act{do(words(t, s.fr, "twist L1 over; release R1")...), out}, 2, api.OK},
		{[]api.Act{do(words(t, s.fr, "twist L1 over; release R1")...), out, do()}, 2, api.ErrArg},
		{[]api.Act{do(words(t, s.fr, "twist L1 over; release R1")...), out, leave(1)}, 2, api.ErrArg},
		{[]api.Act{do(words(t, s.fr, "twist L1 over; release R1")...), out, in}, 2, api.ErrArg},
	} {
		fr, c, at, e := show.Play(s.fr, s.c, x.acts...)
		if e != x.want || at != x.at || e != api.OK && (!equalFrames(fr, api.Frame{}) || !equal(c, api.Code{})) {
			t.Errorf("case %d: %v, %s, %d, %d, not %d, %d", i, fr, code.Print(c), at, e, x.at, x.want)
		}
	}
}

// randomAct returns an act for a scene, many of which can be performed.
func randomAct(r *rand.Rand, s scene) api.Act {
	switch r.Intn(5) {
	case 0, 1, 2:
		return do(randomOps(r, s)...)
	case 3:
		l := newFingers(r)
		for i := range l {
			l[i].Person = 1 + r.Intn(4)
			if i > 0 {
				l[i].Person = l[0].Person
			}
		}
		places := s.places()
		return enter(places[r.Intn(len(places))], l...)
	}
	return leave(1 + r.Intn(4))
}

// stepped returns what an act makes of a scene, by the function of its kind.
func stepped(s scene, act api.Act) (scene, api.Errno) {
	var e api.Errno
	switch act.Kind {
	case api.ActDo:
		s.c, e = show.Together(s.fr, s.c, act.Ops...)
	case api.ActEnter:
		s.fr, s.c, e = show.Enter(s.fr, s.c, act.Fingers, act.At)
	case api.ActLeave:
		s.fr, s.c, e = show.Leave(s.fr, s.c, act.Person)
	}
	return s, e
}

// P9.7: Play performs acts one after the other, and after each of them all loops have fingers.
func TestPlay(t *testing.T) {
	r := rand.New(rand.NewSource(12))
	kinds, refused, loose := map[api.ActKind]int{}, map[api.Errno]int{}, 0
	for _, s := range scenes() {
		at := s
		var acts []api.Act
		for range 12 {
			act := randomAct(r, at)
			next, e := stepped(at, act)
			if e == api.OK && code.Crossings(next.c) > 12 {
				continue
			}
			fr, c, n, f := show.Play(s.fr, s.c, slices.Concat(acts, []api.Act{act})...)
			if e != api.OK {
				refused[e]++
				if f != e || n != len(acts) || !equalFrames(fr, api.Frame{}) || !equal(c, api.Code{}) {
					t.Fatalf("%v, %v, %v: %d at %d, not %d", s, acts, act, f, n, e)
				}
				continue
			}
			acts = append(acts, act)
			kinds[act.Kind]++
			if f != api.OK || n != len(acts) || !equalFrames(fr, next.fr) || !equal(c, next.c) {
				t.Fatalf("%v, %v: %v, %s, %d, %d, not %v", s, acts, fr, code.Print(c), n, f, next)
			}
			at = next
			if !held(t, at) {
				loose++
				break
			}
		}
	}
	if kinds[api.ActDo] < 200 || kinds[api.ActEnter] < 100 || kinds[api.ActLeave] < 30 || len(refused) < 4 || loose > 40 {
		t.Error(kinds, refused, loose)
	}
}

// held examines whether the frame is valid and each piece of string below the axis is a loop of a finger that stands on it, and reports whether the string is not off all fingers.
func held(t *testing.T, s scene) bool {
	t.Helper()
	if !hand.Valid(s.fr) || code.Check(s.c) != api.OK || s.c.Fingers != len(s.fr.Fingers) {
		t.Fatalf("%v", s)
	}
	if hand.Posed(s.fr, s.c) {
		return true
	}
	// Then only two passes are left, in one gate: there is no loop.
	if l := s.c.Letters; code.Passes(s.c) != 2 || l[0].Gate != l[1].Gate {
		t.Fatalf("a loop without a finger: %v", s)
	}
	return false
}
