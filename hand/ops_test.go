package hand_test

import (
	"math"
	"slices"
	"testing"

	"catscradle/api"
	"catscradle/code"
	"catscradle/hand"
)

// P6.4: operations done by hand, with their moves.
func TestDo(t *testing.T) {
	one, two := standard(t), frame(t, "L1", "R1")
	for _, c := range []struct {
		fr    api.Frame
		code  string
		op    api.Op
		want  string
		moves string
	}{
		{one, "10: 0.1 1.1 9.1 10.1", release(10), "10: 0.1 1.1", "tip-right 2, axis-cut 2"},
		{one, "10: 0.1 1.1", release(1), "10:", "tip-right 0, axis-cut 0"},
		{one, "10: 1.1 0.1", release(1), "10:", "tip-right 1, axis-cut 0"},
		{two, "2: 0.1 1.1 1u+ 1o+", release(1), "2: 1.1 1.2 1u+ 1o+", "tip-right 0"},
		{two, "2: 0.1 1.1 1u+ 1o+ 1.2 2.1", release(2), "2: 0.1 1.1 1u+ 1o+", "tip-right 4, axis-cut 4"},
		{one, "10: 0.1 1.1 4.1 5.1 5.2 6.1 9.1 10.1", pick(3, near(5, 1, 0)), "10: 0.1 1.1 2.1 3.1 4.1 5.1 5.2 6.1 9.1 10.1", "axis-make 1 3 0, tip-left 2"},
		{one, "10: 0.1 1.1 9.1 10.1", twist(1, true), "10: 1.1 0.1 1u+ 9.1 10.1 1o+", "tip-right 0, loop-make 0 over +, axis-slide 0 2, tip-left 1"},
		{one, "10: 0.1 1.1 9.1 10.1", twist(1, false), "10: 1.1 0.1 1o- 9.1 10.1 1u-", "tip-right 0, loop-make 0 under -, axis-slide 0 2, tip-left 1"},
		{one, "10: 10.1 9.1 1.1 0.1", twist(1, true), "10: 10.1 9.1 1u+ 0.1 1.1 1o+", "tip-right 3, loop-make 2 under +, axis-slide 2 4, tip-left 3"},
		{one, "10: 0.1 1.1", twist(1, true), "10: 1.1 0.1 1u+ 1o+", ""},
		{two, "2: 0.1 1.1 1.2 2.1", pick(1, near(2, 0, 0)), "2: 0.1 1.2 1.3 2.1 1.1 0.2", "axis-make 3 1 0, tip-left 5"},
		{two, "2: 0.1 1.2 1.3 2.1 1.1 0.2", navaho(1), "2: 1.2 2.1 1u- 1.1 0.1 2u+ 2o+ 1o-", "pair-make 0 4 left over, axis-make 1 1 0, tip-left 2, axis-slide 1 10, axis-cut 0, axis-slide 0 5, axis-cut 0"},
		{one, "10: 0.1 1.1 9.1 10.1", take(2, far(1, 0, 0), true), "10: 0.1 1.1 1.2 2.1 9.1 10.1", "axis-make 1 2 0, tip-left 2"},
		{one, "10: 0.1 1.1 9.1 10.1", transfer(2, 1, true), "10: 1.1 2.1 9.1 10.1", "axis-make 1 2 0, tip-left 2, tip-right 0, axis-cut 0"},
		{one, "10: 0.1 1.1 9.1 10.1", transfer(9, 10, false), "10: 0.1 1.1 8.1 9.1", ""},
		{one, "10: 0.1 1.1 1.2 2.1 9.1 10.1", exchange(1, 2, true), "10: 9.1 10.1 1o+ 2o- 1.2 2.1 2u- 1.1 0.1 1u+", ""},
		{one, "10: 0.1 1.1 9.1 10.1", drop(1), "10: 9.1 10.1", "tip-right 0, axis-cut 0"},
		{two, "2: 0.1 1.2 1.1 0.2", drop(1), "2:", "tip-right 3, axis-cut 2, tip-right 0, axis-cut 0"},
		{two, "2: 0.1 1.2 1u+ 0.2 1.1 1o+", drop(1), "2: 1.1 1.2 1u+ 1o+", "tip-right 3, axis-cut 3, tip-right 0"},
	} {
		want := read(t, c.want)
		got, moves, e := hand.Do(c.fr, read(t, c.code), c.op)
		if e != api.OK || !same(t, got, want) {
			t.Errorf("%+v of %s: %s, %d, not %s", c.op, c.code, code.Print(got), e, c.want)
		}
		if c.moves != "" && show(moves) != c.moves {
			t.Errorf("%+v of %s: %s, not %s", c.op, c.code, show(moves), c.moves)
		}
	}
}

// P6.4: what operations demand, in the order of errors.
func TestDemands(t *testing.T) {
	one := standard(t)
	narrow := api.Frame{Fingers: one.Fingers, Reach: 0, Loops: 1}
	first, bare := read(t, "10: 0.1 1.1 4.1 5.1 5.2 6.1 9.1 10.1"), read(t, "10:")
	twisted := read(t, "10: 1.1 0.1 1u+ 9.1 10.1 1o+")
	for _, c := range []struct {
		fr   api.Frame
		c    api.Code
		op   api.Op
		want api.Errno
	}{
		{one, first, api.Op{}, api.ErrArg},
		{one, first, api.Op{Finger: 1}, api.ErrArg},
		{one, first, api.Op{Kind: 9, Finger: 1}, api.ErrArg},
		{one, first, api.Op{Kind: math.MinInt, Finger: 1}, api.ErrArg},
		{one, first, release(0), api.ErrArg},
		{one, first, release(11), api.ErrArg},
		{one, first, drop(-1), api.ErrArg},
		{one, first, twist(math.MaxInt, true), api.ErrArg},
		{one, first, api.Op{Kind: api.OpRelease, Finger: 1, Over: true}, api.ErrArg},
		{one, first, api.Op{Kind: api.OpRelease, Finger: 1, From: near(1, 0, 0)}, api.ErrArg},
		{one, first, api.Op{Kind: api.OpRelease, Finger: 1, Path: []api.Step{{}}}, api.ErrArg},
		{one, first, api.Op{Kind: api.OpNavaho, Finger: 1, Over: true}, api.ErrArg},
		{one, first, api.Op{Kind: api.OpNavaho, Finger: 1, From: near(1, 0, 0)}, api.ErrArg},
		{one, first, api.Op{Kind: api.OpNavaho, Finger: 1, Path: []api.Step{{}}}, api.ErrArg},
		{one, first, api.Op{Kind: api.OpDrop, Finger: 1, Over: true}, api.ErrArg},
		{one, first, api.Op{Kind: api.OpDrop, Finger: 1, From: far(0, 0, 0)}, api.ErrArg},
		{one, first, api.Op{Kind: api.OpDrop, Finger: 1, Path: []api.Step{{}}}, api.ErrArg},
		{one, first, api.Op{Kind: api.OpTwist, Finger: 1, From: near(0, 0, 1)}, api.ErrArg},
		{one, first, api.Op{Kind: api.OpTwist, Finger: 1, Path: []api.Step{{}}}, api.ErrArg},
		{one, first, api.Op{Kind: api.OpPick, Finger: 1}, api.ErrArg},
		{one, first, api.Op{Kind: api.OpPick, Finger: 1, From: near(1, 0, 0), Over: true}, api.ErrArg},
		{one, first, pick(1, near(11, 1, 0)), api.ErrArg},
		{one, first, pick(1, near(1, -1, 0)), api.ErrArg},
		{one, first, pick(1, near(1, 1, -1)), api.ErrArg},
		{one, first, pick(1, near(1, 9, 0), over(near(0, 1, 0))), api.ErrArg},
		{one, first, pick(1, near(1, 1, 0), over(near(2, 1, 0)), over(near(1, -1, 0))), api.ErrArg},
		{one, first, pick(1, near(1, 1, 0), over(near(2, 1, 0)), over(near(1, 1, -1))), api.ErrArg},
		{one, first, take(1, near(0, 0, 0), true), api.ErrArg},
		{one, first, take(1, near(1, -1, 0), true), api.ErrArg},
		{one, first, take(1, near(1, 0, -1), true), api.ErrArg},
		{one, first, api.Op{Kind: api.OpTake, Finger: 1, From: near(1, 0, 0), Path: []api.Step{over(near(1, 0, 0))}}, api.ErrArg},
		{one, first, transfer(1, 0, true), api.ErrArg},
		{one, first, transfer(1, 11, true), api.ErrArg},
		{one, first, transfer(1, 1, true), api.ErrArg},
		{one, first, api.Op{Kind: api.OpTransfer, Finger: 1, From: near(5, 1, 0)}, api.ErrArg},
		{one, first, api.Op{Kind: api.OpTransfer, Finger: 1, From: near(5, 0, 1)}, api.ErrArg},
		{one, first, api.Op{Kind: api.OpTransfer, Finger: 1, From: far(5, 0, 0)}, api.ErrArg},
		{one, first, api.Op{Kind: api.OpTransfer, Finger: 1, From: near(5, 0, 0), Path: []api.Step{{}}}, api.ErrArg},
		{one, first, exchange(5, 5, false), api.ErrArg},
		{one, first, exchange(5, -1, false), api.ErrArg},
		{one, first, api.Op{Kind: api.OpExchange, Finger: 1, From: near(5, 1, 0)}, api.ErrArg},
		{one, first, api.Op{Kind: api.OpExchange, Finger: 1, From: far(5, 0, 0)}, api.ErrArg},
		{one, first, api.Op{Kind: api.OpExchange, Finger: 1, From: near(5, 0, 0), Path: []api.Step{{}}}, api.ErrArg},
		{api.Frame{Loops: 1}, api.Code{}, release(1), api.ErrArg},

		{one, first, release(2), api.ErrNone},
		{one, bare, release(1), api.ErrNone},
		{one, first, navaho(2), api.ErrNone},
		{one, first, navaho(1), api.ErrNone},
		{one, first, twist(4, true), api.ErrNone},
		{one, first, drop(4), api.ErrNone},
		{one, bare, drop(1), api.ErrNone},
		{one, bare, pick(1, near(1, 0, 0)), api.ErrNone},
		{narrow, first, pick(1, near(5, 2, 0), over(near(5, 2, 0))), api.ErrNone},
		{narrow, first, pick(1, near(5, 1, 0), over(near(5, 1, 1))), api.ErrNone},
		{one, first, take(1, near(2, 0, 0), true), api.ErrNone},
		{one, bare, take(1, near(2, 0, 0), true), api.ErrNone},
		{narrow, first, take(1, near(2, 0, 0), true), api.ErrNone},
		{one, first, transfer(1, 2, true), api.ErrNone},
		{narrow, first, transfer(1, 2, true), api.ErrNone},
		{one, first, exchange(1, 2, true), api.ErrNone},
		{one, first, exchange(2, 1, true), api.ErrNone},
		{narrow, first, exchange(1, 2, true), api.ErrNone},

		{narrow, first, pick(1, near(1, 0, 0)), api.ErrReach},
		{narrow, first, pick(1, near(5, 1, 0), over(near(5, 1, 0))), api.ErrReach},
		{narrow, first, pick(2, far(5, 1, 0), over(near(6, 1, 0))), api.ErrReach},
		{narrow, first, pick(2, near(6, 1, 0)), api.ErrMove},
		{narrow, first, pick(2, near(5, 1, 0)), api.OK},
		{narrow, first, take(9, near(5, 0, 0), false), api.ErrReach},
		{narrow, first, take(1, near(1, 0, 0), false), api.ErrReach},
		{narrow, first, transfer(1, 5, false), api.ErrReach},
		{narrow, first, transfer(3, 5, false), api.OK},
		{narrow, first, exchange(1, 5, false), api.ErrReach},

		{one, first, pick(9, near(5, 1, 0)), api.ErrMove},
		{one, first, pick(9, near(5, 1, 0), over(near(5, 1, 0))), api.ErrMove},
		{one, first, pick(9, near(6, 1, 0), over(near(6, 1, 0))), api.ErrMove},
		{one, first, pick(9, near(5, 1, 0), over(near(6, 1, 0)), over(far(5, 1, 0)), under(far(10, 1, 0))), api.ErrMove},
		{one, first, pick(9, near(5, 1, 0), over(near(1, 1, 0)), over(near(1, 1, 0)), under(near(6, 1, 0))), api.ErrMove},
		{one, first, pick(9, near(5, 1, 0), over(near(6, 0, 0))), api.OK},
		{one, first, pick(9, near(5, 0, 0), under(far(10, 1, 0))), api.OK},
		{one, twisted, pick(1, near(10, 1, 0), under(near(1, 1, 0))), api.OK},
	} {
		got, moves, e := hand.Do(c.fr, c.c, c.op)
		if e != c.want || e != api.OK && (!equal(got, api.Code{}) || len(moves) > 0) {
			t.Errorf("Do(%s, %+v): %s, %d, not %d", code.Print(c.c), c.op, code.Print(got), e, c.want)
		}
		ops, e := hand.Expand(c.fr, c.c, c.op)
		if e != c.want || (len(ops) == 0) != (e != api.OK) {
			t.Errorf("Expand(%s, %+v): %v, %d, not %d", code.Print(c.c), c.op, ops, e, c.want)
		}
	}
}

// P6.4: expansions, by hand.
func TestExpand(t *testing.T) {
	one := standard(t)
	first := read(t, "10: 0.1 1.1 4.1 5.1 5.2 6.1 9.1 10.1")
	double := read(t, "10: 0.1 1.2 1.1 0.2 9.1 10.1")
	for _, c := range []struct {
		c    api.Code
		op   api.Op
		want []api.Op
	}{
		{first, release(1), []api.Op{release(1)}},
		{double, navaho(1), []api.Op{navaho(1)}},
		{first, twist(1, true), []api.Op{twist(1, true)}},
		{first, pick(9, near(5, 0, 0), under(near(6, 0, 0))), []api.Op{pick(9, near(5, 0, 0), under(near(6, 0, 0)))}},
		{first, pick(9, near(5, 0, 0), under(far(10, 0, 0))), []api.Op{pick(9, near(5, 0, 0), under(far(10, 0, 0)))}},
		{first, take(9, near(5, 0, 0), true), []api.Op{pick(9, near(5, 0, 0), over(near(6, 1, 0)))}},
		{first, take(9, far(1, 1, 0), false), []api.Op{pick(9, far(1, 1, 0), under(near(6, 1, 0)))}},
		{first, take(3, near(5, 0, 0), false), []api.Op{pick(3, near(5, 0, 0))}},
		{first, transfer(2, 1, true), []api.Op{pick(2, far(1, 0, 0)), release(1)}},
		{first, transfer(9, 10, true), []api.Op{pick(9, far(10, 0, 0)), release(10)}},
		{first, transfer(4, 5, false), []api.Op{pick(4, near(5, 0, 0)), release(5)}},
		{first, transfer(7, 6, false), []api.Op{pick(7, near(6, 0, 0)), release(6)}},
		{first, transfer(9, 5, false), []api.Op{pick(9, far(5, 0, 0), under(near(6, 1, 0))), release(5)}},
		{first, exchange(1, 5, true), []api.Op{pick(1, near(5, 0, 0)), release(5), pick(5, far(1, 1, 0)), navaho(1)}},
		{first, drop(1), []api.Op{release(1)}},
		{double, drop(1), []api.Op{release(1), release(1)}},
	} {
		got, e := hand.Expand(one, c.c, c.op)
		if e != api.OK || !slices.EqualFunc(got, c.want, equalOps) {
			t.Errorf("%s, %+v: %+v, %d", code.Print(c.c), c.op, got, e)
		}
	}
}

// P6.4: expansions, compared with the table.
func TestExpansions(t *testing.T) {
	counts := map[api.OpKind]int{}
	for _, s := range samples() {
		for _, op := range someOps(s) {
			ops, e := hand.Expand(s.fr, s.c, op)
			want, wantE := slowExpand(t, s, op)
			if e != wantE || e == api.OK && !slices.EqualFunc(ops, want, equalOps) || e != api.OK && len(ops) > 0 {
				t.Fatalf("%v, %+v: %+v, %d, not %+v, %d", s, op, ops, e, want, wantE)
			}
			if e == api.OK {
				counts[op.Kind]++
			}
		}
	}
	for kind := api.OpRelease; kind <= api.OpDrop; kind++ {
		if counts[kind] < 50 {
			t.Errorf("%d operations of the kind %d", counts[kind], kind)
		}
	}
}

// slowExpand follows the table of expansions to the letter, with Do for what is elementary.
func slowExpand(t *testing.T, s scene, op api.Op) ([]api.Op, api.Errno) {
	f, g := op.Finger, op.From.Finger
	n := must[[]int](t)(hand.Loops(s.fr, s.c))
	side := func(of, toward, loop int) api.String {
		if (toward < of) == s.fr.Fingers[of-1].Right {
			return far(of, loop, 0)
		}
		return near(of, loop, 0)
	}
	var parts []api.Op
	switch op.Kind {
	case api.OpTake:
		route, e := hand.Route(s.fr, s.c, f, op.From)
		if e != api.OK {
			return nil, e
		}
		p := pick(f, op.From)
		for _, name := range route {
			p.Path = append(p.Path, api.Step{At: name, Over: op.Over})
		}
		parts = []api.Op{p}
	case api.OpTransfer:
		if n[g-1] == 0 {
			return nil, api.ErrNone
		}
		parts = []api.Op{take(f, side(g, f, 0), op.Over), release(g)}
	case api.OpExchange:
		if n[f-1] == 0 || n[g-1] == 0 {
			return nil, api.ErrNone
		}
		parts = []api.Op{transfer(f, g, op.Over), take(g, side(f, g, n[f-1]), !op.Over), navaho(f)}
	case api.OpDrop:
		if n[f-1] == 0 {
			return nil, api.ErrNone
		}
		parts = slices.Repeat([]api.Op{release(f)}, n[f-1])
	default:
		_, e := s.do(op)
		if e != api.OK {
			return nil, e
		}
		return []api.Op{op}, api.OK
	}
	var all []api.Op
	for _, part := range parts {
		ops, e := slowExpand(t, s, part)
		if e != api.OK {
			return nil, e
		}
		all = append(all, ops...)
		s.c, _ = s.do(part)
	}
	return all, api.OK
}

// P6.4: Run.
func TestRun(t *testing.T) {
	one, two := standard(t), frame(t, "L1", "R1")
	hung := read(t, "10: 0.1 1.1 9.1 10.1")
	kinked := read(t, "2: 0.1 1.1 1u+ 1o+")
	for _, c := range []struct {
		fr   api.Frame
		c    api.Code
		ops  []api.Op
		want string
		n    int
		e    api.Errno
	}{
		{one, hung, nil, "10: 0.1 1.1 9.1 10.1", 0, api.OK},
		{one, hung, []api.Op{release(10)}, "10: 0.1 1.1", 1, api.OK},
		{one, hung, []api.Op{release(10), release(1)}, "10:", 2, api.OK},
		{one, hung, []api.Op{release(10), release(10)}, "0:", 1, api.ErrNone},
		{one, hung, []api.Op{release(10), release(1), release(1)}, "0:", 2, api.ErrNone},
		{one, hung, []api.Op{release(10), {}, release(1)}, "0:", 1, api.ErrArg},
		{one, hung, []api.Op{transfer(2, 1, true), release(12)}, "0:", 1, api.ErrArg},
		{two, kinked, []api.Op{release(1)}, "2: 1.1 1.2 1u+ 1o+", 1, api.OK},
		{two, kinked, []api.Op{release(1), release(1)}, "0:", 1, api.ErrArg},
		{two, kinked, []api.Op{release(1), twist(1, true), navaho(0)}, "0:", 1, api.ErrArg},
	} {
		got, n, e := hand.Run(c.fr, c.c, c.ops...)
		if e != c.e || n != c.n || code.Print(got) != c.want {
			t.Errorf("Run(%s, %+v): %s, %d, %d", code.Print(c.c), c.ops, code.Print(got), n, e)
		}
	}
}
