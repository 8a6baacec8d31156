package move_test

import (
	"math"
	"math/rand"
	"slices"
	"strings"
	"testing"

	"catscradle/api"
	"catscradle/code"
	"catscradle/move"
)

// opposite returns the opposite kind.
func opposite(k api.MoveKind) api.MoveKind {
	pairs := []api.MoveKind{
		api.AxisCut, api.AxisMake, api.LoopCut, api.LoopMake, api.PairCut, api.PairMake, api.TipRight, api.TipLeft,
		api.AxisSlide, api.AxisSlide, api.Triangle, api.Triangle,
	}
	return pairs[slices.Index(pairs, k)^1]
}

// slowBack returns the first move of the opposite kind that leads from a code to one that is the same as another one.
func slowBack(t *testing.T, from, to api.Code, k api.MoveKind) api.Move {
	t.Helper()
	for _, m := range must[[]api.Move](t)(move.All(from)) {
		if m.Kind == opposite(k) && same(t, must[api.Code](t)(move.Apply(from, m)), to) {
			return m
		}
	}
	t.Fatalf("no move leads from %s to %s", code.Print(from), code.Print(to))
	return api.Move{}
}

// P3.3: Slack and Opposite.
func TestKinds(t *testing.T) {
	for _, k := range allKinds {
		if move.Slack(k) != (k != api.TipRight && k != api.TipLeft) {
			t.Error("Slack", word(k))
		}
		if o := move.Opposite(k); o != opposite(k) && !(o == k && (k == api.AxisSlide || k == api.Triangle)) || move.Opposite(o) != k {
			t.Error("Opposite", word(k), o)
		}
	}
	for _, k := range []api.MoveKind{0, 11, -1, math.MinInt, math.MaxInt} {
		if move.Slack(k) || move.Opposite(k) != 0 {
			t.Error("a kind that does not exist", k)
		}
	}
}

// P3.3: Inverse returns the first move that leads back.
func TestInverse(t *testing.T) {
	for _, c := range samples(12) {
		for _, m := range someOfEach(t, c, 4) {
			result := must[api.Code](t)(move.Apply(c, m))
			got, e := move.Inverse(c, m)
			if want := slowBack(t, result, c, m.Kind); e != api.OK || got != want {
				t.Fatalf("Inverse(%s, %s): %s, %d instead of %s", code.Print(c), move.Print(m), move.Print(got), e, move.Print(want))
			}
			if !same(t, must[api.Code](t)(move.Apply(result, got)), c) {
				t.Fatalf("Inverse(%s, %s) does not lead back", code.Print(c), move.Print(m))
			}
		}
	}
}

// P3.3: inverses of moves that are at the limits.
func TestInverseAtLimits(t *testing.T) {
	for _, c := range []struct {
		c       api.Code
		m, want string
	}{
		{snake(400), "axis-cut 398", "axis-make 0 1 1"},
		{snake(398), "axis-make 0 1 1", "axis-cut 0"},
		{kinks(4, 100), "loop-cut 1", "loop-make 0 over -"},
		{kinks(4, 99), "loop-make 0 over -", "loop-cut 1"},
	} {
		got, e := move.Inverse(c.c, readMove(t, c.m))
		result := must[api.Code](t)(move.Apply(c.c, readMove(t, c.m)))
		if e != api.OK || !same(t, must[api.Code](t)(move.Apply(result, got)), c.c) || move.Print(got) != c.want {
			t.Errorf("Inverse of %s: %s, %d", c.m, move.Print(got), e)
		}
	}
}

// P3.3: Inverse has the errors of Apply.
func TestInverseErrors(t *testing.T) {
	for i, c := range []struct {
		c api.Code
		m string
		e api.Errno
	}{
		{snake(400), "axis-make 0 1 1", api.ErrLong},
		{snake(402), "axis-cut 0", api.ErrLong},
		{snake(4), "loop-cut 1", api.ErrMove},
		{snake(4), "loop-cut 4", api.ErrArg},
		{snake(3), "axis-cut 1", api.ErrCode},
		{api.Code{Fingers: 3}, "axis-make 0 4 0", api.ErrArg},
		{api.Code{Fingers: 3}, "loop-make 0 over +", api.ErrArg},
	} {
		if got, e := move.Inverse(c.c, readMove(t, c.m)); e != c.e || got != (api.Move{}) {
			t.Errorf("%d: Inverse: %s, %d instead of %d", i, move.Print(got), e, c.e)
		}
	}
}

// readMoves reads moves that are separated by commas.
func readMoves(t *testing.T, s string) []api.Move {
	t.Helper()
	var l []api.Move
	for _, part := range strings.Split(s, ", ") {
		if part != "" {
			l = append(l, readMove(t, part))
		}
	}
	return l
}

// P3.4: Replay and Undo, the examples and errors.
func TestReplay(t *testing.T) {
	for _, c := range []struct {
		from, moves, to string
		n               int
		e               api.Errno
		undo            string
	}{
		{"1: 0.1 1.1", "tip-right 0, axis-cut 0", "1:", 2, api.OK, "axis-make 0 1 0, tip-left 0"},
		{"1: 0.1 1.1", "axis-cut 0", "0:", 0, api.ErrMove, ""},
		{"1: 0.1 1.1", "", "1: 0.1 1.1", 0, api.OK, ""},
		{"3:", "", "3:", 0, api.OK, ""},
		{"1: 0.1 1.1", "tip-right 0, axis-cut 0, axis-cut 0", "0:", 2, api.ErrArg, ""},
		{"1: 0.1 1.1", "tip-right 0, tip-right 0, axis-cut 7", "0:", 1, api.ErrMove, ""},
		{"2: 0.1 1.1", "loop-make 0 over +, loop-make 1 over -, loop-cut 2", "2: 0.1 1o+ 1u+ 1.1", 3, api.OK, "loop-make 1 over -, loop-cut 2, loop-cut 1"},
		{"2: 0.1 1.1", "loop-make 0 over +, tip-right 3", "2: 0.1 1o+ 1u+ 2.1", 2, api.OK, "tip-left 3, loop-cut 1"},
	} {
		from, l := read(t, c.from), readMoves(t, c.moves)
		got, n, e := move.Replay(from, l)
		if e != c.e || n != c.n || !equal(got, read(t, c.to)) {
			t.Errorf("Replay(%s; %s): %s, %d, %d", c.from, c.moves, code.Print(got), n, e)
		}
		back, e := move.Undo(from, l)
		if e != c.e || show(back) != c.undo {
			t.Errorf("Undo(%s; %s): %s, %d", c.from, c.moves, show(back), e)
		}
	}
	for _, c := range []api.Code{{Fingers: -1}, {Letters: []api.Letter{{}}}, snake(401)} {
		for _, l := range [][]api.Move{nil, {}, {{}}, {{Kind: api.AxisCut}, {Kind: api.AxisCut}}} {
			got, n, e := move.Replay(c, l)
			if e != code.Check(c) || n != 0 || !equal(got, api.Code{}) {
				t.Errorf("Replay of a code that is not valid: %s, %d, %d", code.Print(got), n, e)
			}
			if back, e := move.Undo(c, l); e != code.Check(c) || len(back) > 0 {
				t.Errorf("Undo of a code that is not valid: %s, %d", show(back), e)
			}
		}
	}
	full := []api.Move{{Kind: api.AxisCut}, {Kind: api.AxisMake, B: 1}, {Kind: api.LoopMake, Sign: 1}}
	if got, n, e := move.Replay(snake(400), full); e != api.ErrLong || n != 2 || !equal(got, api.Code{}) {
		t.Error("Replay beyond the limits:", n, e)
	}
	if back, e := move.Undo(snake(400), full); e != api.ErrLong || len(back) > 0 {
		t.Error("Undo beyond the limits:", e)
	}
}

// walk returns moves that can be made one after the other, and the codes before and after them.
func walk(t *testing.T, r *rand.Rand, c api.Code, n int) ([]api.Move, []api.Code) {
	t.Helper()
	codes := []api.Code{c}
	var l []api.Move
	for len(l) < n {
		possible := must[[]api.Move](t)(move.Some(c, allKinds[r.Intn(len(allKinds))]))
		if len(possible) == 0 {
			continue
		}
		m := possible[r.Intn(len(possible))]
		c = must[api.Code](t)(move.Apply(c, m))
		l = append(l, m)
		codes = append(codes, c)
	}
	return l, codes
}

// P3.4: Replay makes one move after the other, and Undo finds the first moves that lead back.
func TestUndo(t *testing.T) {
	r := rand.New(rand.NewSource(17))
	for _, c := range samples(10) {
		l, codes := walk(t, r, c, 8)
		got, n, e := move.Replay(c, l)
		if e != api.OK || n != len(l) || !equal(got, codes[len(l)]) {
			t.Fatalf("Replay(%s; %s): %s, %d, %d", code.Print(c), show(l), code.Print(got), n, e)
		}
		var want []api.Move
		current := got
		for i := len(l) - 1; i >= 0; i-- {
			m := slowBack(t, current, codes[i], l[i].Kind)
			want = append(want, m)
			current = must[api.Code](t)(move.Apply(current, m))
		}
		back, e := move.Undo(c, l)
		if e != api.OK || !slices.Equal(back, want) {
			t.Fatalf("Undo(%s; %s): %s, %d instead of %s", code.Print(c), show(l), show(back), e, show(want))
		}
		end, n, e := move.Replay(got, back)
		if e != api.OK || n != len(l) || !same(t, end, c) {
			t.Fatalf("Undo(%s; %s): %s leads to %s, %d", code.Print(c), show(l), show(back), code.Print(end), e)
		}
	}
}
