package hand_test

import (
	"math/rand"
	"slices"
	"testing"

	"catscradle/api"
	"catscradle/code"
	"catscradle/hand"
	"catscradle/move"
)

// someOps returns operations for a scene, most of them possible ones, always the same ones.
func someOps(s scene) []api.Op {
	var all []api.Op
	for i := range s.c.Fingers {
		f := i + 1
		g := 1 + (f+len(s.c.Letters))%s.c.Fingers
		all = append(all, release(f), navaho(f), twist(f, true), twist(f, false), drop(f))
		if f != g {
			all = append(all, transfer(f, g, f%2 == 0), exchange(f, g, f%2 == 1))
		}
	}
	r := rand.New(rand.NewSource(int64(len(s.c.Letters))))
	for range 25 {
		op := randomOp(r, s)
		if op.Kind == api.OpPick || op.Kind == api.OpTake {
			all = append(all, op)
		}
	}
	return all
}

// each calls a function for operations that can be done, with what they lead to.
func each(t *testing.T, kinds []api.OpKind, least int, test func(s scene, op api.Op, after api.Code, moves []api.Move)) {
	t.Helper()
	counts := map[api.OpKind]int{}
	for _, s := range samples() {
		for _, op := range someOps(s) {
			if !slices.Contains(kinds, op.Kind) {
				continue
			}
			after, moves, e := hand.Do(s.fr, s.c, op)
			if e == api.OK {
				counts[op.Kind]++
				test(s, op, after, moves)
			}
		}
	}
	for _, kind := range kinds {
		if counts[kind] < least {
			t.Errorf("%d operations of the kind %d", counts[kind], kind)
		}
	}
}

var elementary = []api.OpKind{api.OpRelease, api.OpNavaho, api.OpPick, api.OpTwist}

var allKinds = append(elementary[:4:4], api.OpTake, api.OpTransfer, api.OpExchange, api.OpDrop)

// P6.4 and P0.2: the moves, replayed, lead to the code; the expansion consists of elementary operations, and does what the operation does.
func TestReplay(t *testing.T) {
	each(t, allKinds, 50, func(s scene, op api.Op, after api.Code, moves []api.Move) {
		end, n, e := move.Replay(s.c, moves)
		if e != api.OK || n != len(moves) || !equal(end, after) {
			t.Errorf("%v, %+v: %s leads to %s, %d, not %s", s, op, show(moves), code.Print(end), e, code.Print(after))
		}
		ops := must[[]api.Op](t)(hand.Expand(s.fr, s.c, op))
		current := s.c
		var all []api.Move
		for _, part := range ops {
			if !slices.Contains(elementary, part.Kind) {
				t.Errorf("%v, %+v: %+v is not elementary", s, op, part)
			}
			next, l, e := hand.Do(s.fr, current, part)
			if e != api.OK {
				t.Fatalf("%v, %+v: %+v has the error %d", s, op, part, e)
			}
			current, all = next, append(all, l...)
		}
		if !equal(current, after) || !slices.Equal(all, moves) {
			t.Errorf("%v, %+v: %+v does something else", s, op, ops)
		}
		ran, n, e := hand.Run(s.fr, s.c, ops...)
		if e != api.OK || n != len(ops) || !equal(ran, after) {
			t.Errorf("%v, %+v: Run of %+v, %s, %d, %d", s, op, ops, code.Print(ran), n, e)
		}
	})
}

// P6.6: what operations do to the numbers of loops and of crossings, and that they lead to posed codes.
func TestNumbers(t *testing.T) {
	offAll := 0
	each(t, allKinds, 50, func(s scene, op api.Op, after api.Code, _ []api.Move) {
		crossings := code.Crossings(after) - code.Crossings(s.c)
		if !hand.Posed(s.fr, after) {
			offAll++
			before := must[[]int](t)(hand.Loops(s.fr, s.c))
			gone := op.Kind == api.OpRelease && len(downs(s.c)) == 1 || op.Kind == api.OpDrop && before[op.Finger-1] == len(downs(s.c))
			gate := after.Letters[0].Gate
			word := must[[]int](t)(code.Word(after))
			if !gone || code.Crossings(after) == 0 || crossings != 0 || gate != op.Finger || !slices.Equal(word, []int{gate, gate}) {
				t.Errorf("%v, %+v: %s", s, op, code.Print(after))
			}
			return
		}
		before, now := must[[]int](t)(hand.Loops(s.fr, s.c)), must[[]int](t)(hand.Loops(s.fr, after))
		loops, made := 0, 0
		switch op.Kind {
		case api.OpRelease:
			loops = -1
		case api.OpNavaho:
			loops, made = -1, 2
		case api.OpPick:
			loops, made = 1, 2*len(op.Path)
		case api.OpTwist:
			made = 1
		case api.OpTake:
			loops, made = 1, 2*len(must[[]api.String](t)(hand.Route(s.fr, s.c, op.Finger, op.From)))
		case api.OpTransfer:
			before[op.From.Finger-1]--
			loops, made = 1, crossings
		case api.OpExchange:
			made = crossings
		case api.OpDrop:
			loops = -before[op.Finger-1]
		}
		before[op.Finger-1] += loops
		if !slices.Equal(before, now) || crossings != made {
			t.Errorf("%v, %+v: loops %v, not %v; %d crossings, not %d", s, op, now, before, crossings, made)
		}
	})
	if offAll < 10 {
		t.Errorf("the string is off all fingers %d times", offAll)
	}
}

// P6.6: the order in which the string is traveled does not matter.
func TestTraveled(t *testing.T) {
	r := rand.New(rand.NewSource(5))
	for _, s := range samples() {
		other := scene{s.fr, traveled(r, s.c)}
		for _, op := range someOps(s) {
			one, e := s.do(op)
			two, e2 := other.do(op)
			if e != e2 || e == api.OK && !same(t, one, two) {
				t.Fatalf("%+v of %v: %s, %d; of %s: %s, %d", op, s, code.Print(one), e, code.Print(other.c), code.Print(two), e2)
			}
		}
	}
}

// mirrored returns a scene and an operation reflected left to right.
func mirrored(s scene, op api.Op) (scene, api.Op) {
	fr := api.Frame{Reach: s.fr.Reach, Loops: s.fr.Loops}
	for _, f := range slices.Backward(s.fr.Fingers) {
		f.Right = !f.Right
		fr.Fingers = append(fr.Fingers, f)
	}
	c, _ := code.Mirror(s.c)
	k := s.c.Fingers
	at := func(s api.String) api.String {
		if s.Finger > 0 {
			s.Finger = k + 1 - s.Finger
		}
		return s
	}
	op.Finger = k + 1 - op.Finger
	op.From = at(op.From)
	var path []api.Step
	for _, step := range op.Path {
		path = append(path, api.Step{At: at(step.At), Over: step.Over})
	}
	op.Path = path
	// The string that led to the left pass leads to the right one.
	if op.Kind == api.OpTwist {
		op.Over = !op.Over
	}
	return scene{fr, c}, op
}

// Hands that are reflected do what is reflected.
func TestMirror(t *testing.T) {
	each(t, elementary, 50, func(s scene, op api.Op, after api.Code, _ []api.Move) {
		if !hand.Posed(s.fr, after) {
			return
		}
		want := must[api.Code](t)(code.Mirror(after))
		other, reflected := mirrored(s, op)
		got, e := other.do(reflected)
		if e != api.OK || !same(t, got, want) {
			t.Errorf("%v, %+v: reflected it is %s, %d, not %s", s, op, code.Print(got), e, code.Print(want))
		}
	})
}

// Over and under can be exchanged, but not for OpNavaho.
func TestSwap(t *testing.T) {
	each(t, []api.OpKind{api.OpRelease, api.OpPick, api.OpTwist, api.OpTake, api.OpTransfer, api.OpDrop}, 50, func(s scene, op api.Op, after api.Code, _ []api.Move) {
		swapped := scene{s.fr, must[api.Code](t)(code.Swap(s.c))}
		path := slices.Clone(op.Path)
		for i := range path {
			path[i].Over = !path[i].Over
		}
		op.Path = path
		switch op.Kind {
		case api.OpTwist, api.OpTake, api.OpTransfer:
			op.Over = !op.Over
		}
		got, e := swapped.do(op)
		if want := must[api.Code](t)(code.Swap(after)); e != api.OK || !same(t, got, want) {
			t.Errorf("%v, %+v: %s, %d", s, op, code.Print(got), e)
		}
	})
}

// P6.6: OpRelease after OpPick, and PairCut with the crossings of each element of the path, lead back.
func TestPickRelease(t *testing.T) {
	longest := 0
	each(t, []api.OpKind{api.OpPick}, 300, func(s scene, op api.Op, after api.Code, _ []api.Move) {
		current, e := (scene{s.fr, after}).do(release(op.Finger))
		if e != api.OK {
			t.Fatalf("%v, %+v: release has the error %d", s, op, e)
		}
		longest = max(longest, len(op.Path))
		// Elements have their crossings from the last one to the first one.
		for crossings := code.Crossings(current); crossings > code.Crossings(s.c); crossings -= 2 {
			cut := pairOf(t, current, crossings-1, crossings)
			current = must[api.Code](t)(move.Apply(current, cut))
		}
		if !same(t, current, s.c) {
			t.Errorf("%v, %+v: it leads back to %s", s, op, code.Print(current))
		}
	})
	if longest < 3 {
		t.Errorf("the longest path has %d elements", longest)
	}
}

// pairOf returns the possible PairCut with two crossings.
func pairOf(t *testing.T, c api.Code, x, y int) api.Move {
	t.Helper()
	for _, m := range must[[]api.Move](t)(move.Some(c, api.PairCut)) {
		p, q := c.Letters[m.A], c.Letters[(m.A+1)%len(c.Letters)]
		if min(p.ID, q.ID) == x && max(p.ID, q.ID) == y {
			return m
		}
	}
	t.Fatalf("no pair of %d and %d in %s", x, y, code.Print(c))
	return api.Move{}
}

// P6.4: OpPick makes the uppermost loop, whose strings cross the edges of the path in its order, over or under them as it says, and go on into the string that was picked.
func TestPicked(t *testing.T) {
	each(t, []api.OpKind{api.OpPick}, 300, func(s scene, op api.Op, after api.Code, moves []api.Move) {
		m := newChart(s)
		old := code.Crossings(s.c)
		all := loops(after)[op.Finger]
		for _, pass := range all[len(all)-1] {
			step := 1
			if slices.Contains(downs(after), pass) {
				step = -1
			}
			at := pass
			for i, e := range op.Path {
				at = (at + step + len(after.Letters)) % len(after.Letters)
				l := after.Letters[at]
				other := slices.IndexFunc(after.Letters, func(o api.Letter) bool { return o.Kind == api.Cross && o.ID == l.ID && o.Over != l.Over })
				from, to := oldEdge(after, other, old, op.Finger, all)
				edge := m.edge(e.At)
				if l.Kind != api.Cross || l.ID <= old || l.Over != e.Over || !joins(s.c, edge, from, to) {
					t.Fatalf("%v, %+v: %s, element %d", s, op, code.Print(after), i)
				}
			}
			from, to := oldEdge(after, at, old, op.Finger, all)
			if !joins(s.c, m.edge(op.From), from, to) {
				t.Fatalf("%v, %+v: %s, the string that is picked", s, op, code.Print(after))
			}
		}
		if len(moves) != len(op.Path)+2 {
			t.Errorf("%v, %+v: %s", s, op, show(moves))
		}
	})
}

// oldEdge returns the letters at the ends of the edge on which a letter was inserted by OpPick, as they are now.
func oldEdge(c api.Code, at, old, f int, all [][2]int) (api.Letter, api.Letter) {
	n := len(c.Letters)
	isNew := func(i int) bool {
		l := c.Letters[i]
		return l.Kind == api.Cross && l.ID > old || i == all[len(all)-1][0] || i == all[len(all)-1][1]
	}
	from, to := at, at
	for isNew(from) {
		from = (from + n - 1) % n
	}
	for isNew(to) {
		to = (to + 1) % n
	}
	return before(c.Letters[from], f), before(c.Letters[to], f)
}

// before returns what a letter was before a loop was added to a finger: the right passes in the gate of the finger have a greater rank now.
func before(l api.Letter, f int) api.Letter {
	if l.Kind == api.Pass && l.Gate == f {
		l.Rank--
	}
	return l
}

// joins reports whether an edge joins two letters.
func joins(c api.Code, edge int, from, to api.Letter) bool {
	// Left passes in the gate to the left of the finger keep their ranks, since the new one is the last there.
	return edge >= 0 && c.Letters[edge] == from && c.Letters[(edge+1)%len(c.Letters)] == to
}

// P6.4: a path that comes to no face twice can be gone, and what is no path cannot.
func TestPaths(t *testing.T) {
	r := rand.New(rand.NewSource(9))
	counts := map[[3]bool]int{}
	for _, s := range samples() {
		s.fr.Reach, s.fr.Loops = 40, 20
		m := newChart(s)
		for range 40 {
			if s.c.Fingers == 0 || len(s.c.Letters) == 0 {
				break
			}
			f := 1 + r.Intn(s.c.Fingers)
			op, ok := randomPick(r, s, f)
			if r.Intn(3) == 0 {
				op, ok = pick(f, randomString(r, s), over(randomString(r, s)), under(randomString(r, s))), true
			}
			if !ok || m.edge(op.From) < 0 || slices.ContainsFunc(op.Path, func(e api.Step) bool { return m.edge(e.At) < 0 }) {
				continue
			}
			var edges []int
			for _, step := range op.Path {
				edges = append(edges, m.edge(step.At))
			}
			is, once := m.isPath(f, edges, m.edge(op.From))
			_, e := s.do(op)
			counts[[3]bool{is, once, e == api.OK}]++
			if e != api.OK && e != api.ErrMove || once && e != api.OK || !is && e == api.OK {
				t.Errorf("%v, %+v: %d; a path %v, without a face twice %v", s, op, e, is, once)
			}
		}
	}
	for _, what := range [][3]bool{{true, true, true}, {false, false, false}, {true, false, false}} {
		if counts[what] < 20 {
			t.Error(counts)
		}
	}
}

// P6.4: OpNavaho lets the second loop go over the uppermost one, and off: what remains are the strings of both, the former over the latter.
func TestNavaho(t *testing.T) {
	each(t, []api.OpKind{api.OpNavaho}, 50, func(s scene, op api.Op, after api.Code, moves []api.Move) {
		kinds := []api.MoveKind{api.PairMake, api.AxisMake, api.TipLeft, api.AxisSlide, api.AxisCut, api.AxisSlide, api.AxisCut}
		for i, m := range moves {
			if m.Kind != kinds[i] {
				t.Fatalf("%v, %+v: %s", s, op, show(moves))
			}
		}
		// The two new crossings follow one another on the upper string, and lie next to the passes of the uppermost loop on the lower one.
		old := code.Crossings(s.c)
		all := loops(after)[op.Finger]
		top := all[len(all)-1]
		var ids []int
		for _, pass := range top {
			step := 1
			if slices.Contains(downs(after), pass) {
				step = -1
			}
			l := after.Letters[(pass+step+len(after.Letters))%len(after.Letters)]
			if l.Kind != api.Cross || l.ID <= old || l.Over {
				t.Fatalf("%v, %+v: %s", s, op, code.Print(after))
			}
			ids = append(ids, l.ID)
		}
		one := slices.IndexFunc(after.Letters, func(l api.Letter) bool { return l.ID == ids[0] && l.Over })
		two := slices.IndexFunc(after.Letters, func(l api.Letter) bool { return l.ID == ids[1] && l.Over })
		n := len(after.Letters)
		if (one+1)%n != two && (two+1)%n != one || after.Letters[one].Sign == after.Letters[two].Sign {
			t.Errorf("%v, %+v: %s", s, op, code.Print(after))
		}
	})
}

// P6.4: OpTwist crosses the two strings of the uppermost loop.
func TestTwisted(t *testing.T) {
	each(t, []api.OpKind{api.OpTwist}, 50, func(s scene, op api.Op, after api.Code, _ []api.Move) {
		all, were := loops(after)[op.Finger], loops(s.c)[op.Finger]
		right := all[len(all)-1][1]
		step, wasStep := 1, 1
		if slices.Contains(downs(after), right) {
			step = -1
		}
		oldLeft := were[len(were)-1][0]
		if slices.Contains(downs(s.c), oldLeft) {
			wasStep = -1
		}
		// The string that led to the left pass leads to the right one now, over the other one if the operation says so.
		l := after.Letters[(right+step+len(after.Letters))%len(after.Letters)]
		sign := -1
		if op.Over {
			sign = 1
		}
		if l.Kind != api.Cross || l.ID != code.Crossings(after) || l.Over != op.Over || l.Sign != sign || step != wasStep {
			t.Errorf("%v, %+v: %s", s, op, code.Print(after))
		}
	})
}
