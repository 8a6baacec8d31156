package move_test

import (
	"math"
	"slices"
	"strings"
	"testing"

	"catscradle/api"
	"catscradle/code"
	"catscradle/move"
)

// P3.1: Apply, its examples, and each kind in place: at the end of the list, with other crossings, and from the other side.
func TestApply(t *testing.T) {
	for _, c := range []struct{ from, move, to string }{
		{"2: 0.1 1.1", "loop-make 0 over +", "2: 0.1 1o+ 1u+ 1.1"},
		{"2: 0.1 1o+ 1u+ 1.1", "loop-cut 1", "2: 0.1 1.1"},
		{"2: 0.1 1.1", "axis-make 0 0 1", "2: 0.1 0.2 0.3 1.1"},
		{"2: 0.1 1.1", "axis-make 1 0 0", "2: 0.3 1.1 0.1 0.2"},
		{"2: 0.1 1.1", "tip-right 1", "2: 0.1 2.1"},
		{"1: 0.1 1.1", "tip-right 0", "1: 1.1 1.2"},
		{"1: 1.1 1.2", "axis-cut 0", "1:"},
		{"2:", "axis-make 0 1 0", "2: 1.1 1.2"},

		{"1: 1.1 1.2", "axis-cut 1", "1:"},
		{"1: 1.2 1.1", "axis-cut 0", "1:"},
		{"1: 0.3 1.1 0.1 0.2", "axis-cut 2", "1: 0.1 1.1"},
		{"1: 0.2 0.3 1.1 0.1", "axis-cut 3", "1: 1.1 0.1"},
		{"1: 0.2 0.3 1.1 0.1", "axis-cut 0", "1: 1.1 0.1"},
		{"1: 1.4 1.3 1.2 1.1", "axis-cut 1", "1: 1.2 1.1"},
		{"1: 1.1 1u- 1o- 1.2 1.3 1.4", "axis-cut 3", "1: 1.1 1u- 1o- 1.2"},

		{"2: 0.1 1.1", "axis-make 0 1 0", "2: 0.1 1.1 1.2 1.3"},
		{"2: 0.1 1.1", "axis-make 0 0 0", "2: 0.3 0.2 0.1 1.1"},
		{"2: 0.1 1.1", "axis-make 0 1 1", "2: 0.1 1.3 1.2 1.1"},
		{"2: 0.1 1.1", "axis-make 0 2 0", "2: 0.1 2.2 2.1 1.1"},
		{"2: 0.1 1.1", "axis-make 1 0 1", "2: 0.1 1.1 0.3 0.2"},
		{"2: 0.1 1.1", "axis-make 1 2 0", "2: 0.1 1.1 2.1 2.2"},
		{"0:", "axis-make 0 0 0", "0: 0.1 0.2"},

		{"2: 0.1 1.1", "loop-make 1 under -", "2: 0.1 1.1 1u- 1o-"},
		{"2: 0.1 1.1", "loop-make 0 under +", "2: 0.1 1u+ 1o+ 1.1"},
		{"2: 0.1 1o+ 1u+ 1.1", "loop-make 1 over -", "2: 0.1 1o+ 2o- 2u- 1u+ 1.1"},
		{"2: 0.1 3o+ 3u+ 2u- 2o- 1u+ 1o+ 1.1", "loop-cut 3", "2: 0.1 2o+ 2u+ 1u+ 1o+ 1.1"},

		{"2: 0.1 1.1 1.2 2.1", "pair-make 0 2 right over", "2: 0.1 1o- 2o+ 1.1 1.2 2u+ 1u- 2.1"},
		{"2: 0.1 1.1 1.2 2.1", "pair-make 0 2 right under", "2: 0.1 1u+ 2u- 1.1 1.2 2o- 1o+ 2.1"},
		{"2: 0.1 1.1 1.2 2.1", "pair-make 2 0 right over", "2: 0.1 2u+ 1u- 1.1 1.2 1o- 2o+ 2.1"},
		{"2: 0.1 1.1 1.2 2.1", "pair-make 0 2 left over", ""},
		{"2: 0.1 1.1 1.2 2.1", "pair-make 0 1 right over", ""},
		{"2: 0.1 1.1 1.2 2.1", "pair-make 1 3 left over", "2: 0.1 1.1 1o+ 2o- 1.2 2.1 2u- 1u+"},
		{"2: 0.1 1.1 1.2 2.1", "pair-make 3 1 left under", "2: 0.1 1.1 2o+ 1o- 1.2 2.1 1u- 2u+"},
		{"2: 0.1 1.1 1o+ 2o- 1.2 2.1 2u- 1u+", "pair-cut 2 6", "2: 0.1 1.1 1.2 2.1"},
		{"0: 0.2 1u+ 2o+ 3o- 1o+ 2u+ 3u- 0.1", "pair-cut 2 5", "0: 0.2 1u+ 1o+ 0.1"},
		{"0: 0.2 1u+ 2o+ 3o- 1o+ 2u+ 3u- 0.1", "triangle 1 3 5", "0: 0.2 2o+ 1u+ 1o+ 3o- 3u- 2u+ 0.1"},
		{"2: 0.1 1o- 2o+ 0.4 0.3 3u+ 1u- 2u+ 3o+ 0.2", "triangle 1 5 7", "2: 0.1 2o+ 1o- 0.4 0.3 1u- 3u+ 3o+ 2u+ 0.2"},
		// All three edges go over another one.
		{"0: 0.1 1o+ 2u+ 3o+ 1u+ 2o+ 3u+ 0.2", "triangle 1 3 5", ""},
		// An edge joins the two pieces: they are kinks, one within the other.
		{"0: 0.1 1u- 2u+ 2o+ 1o- 0.2", "pair-cut 1 3", ""},

		{"1: 0.1 0.2 1u- 1o-", "axis-slide 1 3", "1: 0.2 1o- 1u- 0.1"},
		{"3: 1.1 1.2 2.1 1u- 2.3 2.4 1o- 2.2", "axis-slide 2 6", "3: 1.1 1.2 1u- 2.2 2.3 2.4 2.1 1o-"},
		{"2: 0.1 1u+ 1o+ 1.1", "axis-slide 0 2", ""},

		{"1: 0.1 1.1", "tip-right 1", ""},
		{"1: 0.1 0.2", "tip-right 1", "1: 0.1 1.1"},
		{"1: 0.1 0.2", "tip-right 0", ""},
		{"1: 1.1 1.2", "tip-left 0", "1: 0.1 1.1"},
		{"1: 1.1 1.2", "tip-left 1", ""},
		{"2: 0.1 2.1", "tip-left 0", ""},
		{"2: 0.1 1.1 1.2 2.1", "tip-right 2", "2: 0.1 1.1 2.1 2.2"},
		{"2: 0.1 1.1 1.2 2.1", "tip-right 1", ""},
		{"2: 0.1 1.1 1.2 2.1", "tip-left 1", "2: 0.1 0.2 1.1 2.1"},
		{"2: 0.1 1.1 1.2 2.1", "tip-left 2", ""},
		{"2: 0.1 1u+ 1o+ 1.1", "tip-left 2", ""},
		{"2: 0.1 2.1", "axis-cut 0", ""},
		{"2: 0.1 1o+ 1u+ 1.1", "loop-cut 0", ""},
	} {
		got, e := move.Apply(read(t, c.from), readMove(t, c.move))
		want := api.Code{}
		if c.to != "" {
			want = read(t, c.to)
		}
		if (e == api.OK) != (c.to != "") || e != api.OK && e != api.ErrMove || !equal(got, want) {
			t.Errorf("Apply(%s, %s): %s, %d instead of %s", c.from, c.move, code.Print(got), e, c.to)
		}
	}
}

// P3.1: the errors of Apply.
func TestApplyErrors(t *testing.T) {
	circle, kink := read(t, "2: 0.1 1.1"), read(t, "2: 0.1 1o+ 1u+ 1.1")
	for i, c := range []struct {
		c api.Code
		m api.Move
		e api.Errno
	}{
		{api.Code{Fingers: 41}, api.Move{}, api.ErrArg},
		{read(t, "2:"), api.Move{}, api.ErrArg},
		{api.Code{Letters: make([]api.Letter, 401)}, api.Move{Kind: 11}, api.ErrLong},
		{api.Code{Fingers: 2, Letters: []api.Letter{pass(0, 1)}}, api.Move{Kind: api.LoopMake, Sign: 1}, api.ErrCode},
		{circle, api.Move{Kind: 0}, api.ErrArg},
		{circle, api.Move{Kind: 11}, api.ErrArg},
		{circle, api.Move{Kind: -1}, api.ErrArg},
		{circle, api.Move{Kind: math.MaxInt}, api.ErrArg},
		{circle, api.Move{Kind: math.MinInt}, api.ErrArg},
		{circle, api.Move{Kind: api.LoopMake, A: 1, Sign: 1}, api.OK},
		{circle, api.Move{Kind: api.LoopMake, A: 1}, api.ErrArg},
		{circle, api.Move{Kind: api.LoopMake, A: 1, Sign: 2}, api.ErrArg},
		{circle, api.Move{Kind: api.LoopMake, A: 1, Sign: -2}, api.ErrArg},
		{circle, api.Move{Kind: api.LoopMake, A: 2, Sign: 1}, api.ErrArg},
		{circle, api.Move{Kind: api.LoopMake, A: -1, Sign: 1}, api.ErrArg},
		{circle, api.Move{Kind: api.AxisMake, A: 0, B: 1, C: 1}, api.OK},
		{circle, api.Move{Kind: api.AxisMake, A: 0, B: 1, C: 2}, api.ErrArg},
		{circle, api.Move{Kind: api.AxisMake, A: 0, B: 1, C: -1}, api.ErrArg},
		{circle, api.Move{Kind: api.AxisMake, A: 0, B: 3}, api.ErrArg},
		{circle, api.Move{Kind: api.AxisMake, A: 0, B: -1}, api.ErrArg},
		{circle, api.Move{Kind: api.AxisMake, A: 2}, api.ErrArg},
		{circle, api.Move{Kind: api.AxisMake, A: -1}, api.ErrArg},
		{circle, api.Move{Kind: api.PairMake, A: 1, B: 0}, api.ErrMove},
		{circle, api.Move{Kind: api.PairMake, A: 1, B: 1}, api.ErrArg},
		{circle, api.Move{Kind: api.PairMake, A: 1, B: 2}, api.ErrArg},
		{circle, api.Move{Kind: api.PairMake, A: 1, B: -1}, api.ErrArg},
		{circle, api.Move{Kind: api.PairMake, A: 2, B: 1}, api.ErrArg},
		{circle, api.Move{Kind: api.PairMake, A: -1, B: 1}, api.ErrArg},
		{kink, api.Move{Kind: api.PairCut, A: 0, B: 1}, api.ErrMove},
		{kink, api.Move{Kind: api.PairCut, A: 1, B: 1}, api.ErrArg},
		{kink, api.Move{Kind: api.PairCut, A: 2, B: 1}, api.ErrArg},
		{kink, api.Move{Kind: api.PairCut, A: 2, B: 4}, api.ErrArg},
		{kink, api.Move{Kind: api.PairCut, A: -1, B: 3}, api.ErrArg},
		{kink, api.Move{Kind: api.AxisSlide, A: 0, B: 2}, api.ErrMove},
		{kink, api.Move{Kind: api.AxisSlide, A: 2, B: 2}, api.ErrArg},
		{kink, api.Move{Kind: api.AxisSlide, A: 2, B: 0}, api.ErrArg},
		{kink, api.Move{Kind: api.AxisSlide, A: 2, B: 4}, api.ErrArg},
		{kink, api.Move{Kind: api.AxisSlide, A: -1, B: 0}, api.ErrArg},
		{kink, api.Move{Kind: api.Triangle, A: 0, B: 1, C: 3}, api.ErrMove},
		{kink, api.Move{Kind: api.Triangle, A: 0, B: 1, C: 1}, api.ErrArg},
		{kink, api.Move{Kind: api.Triangle, A: 1, B: 1, C: 2}, api.ErrArg},
		{kink, api.Move{Kind: api.Triangle, A: 2, B: 1, C: 3}, api.ErrArg},
		{kink, api.Move{Kind: api.Triangle, A: 0, B: 1, C: 4}, api.ErrArg},
		{kink, api.Move{Kind: api.Triangle, A: -1, B: 1, C: 2}, api.ErrArg},
		{kink, api.Move{Kind: api.LoopCut, A: 4}, api.ErrArg},
		{kink, api.Move{Kind: api.LoopCut, A: -1}, api.ErrArg},
		{kink, api.Move{Kind: api.AxisCut, A: 4}, api.ErrArg},
		{kink, api.Move{Kind: api.AxisCut, A: 1}, api.ErrMove},
		{kink, api.Move{Kind: api.TipRight, A: 1}, api.ErrMove},
		{kink, api.Move{Kind: api.TipRight, A: 4}, api.ErrArg},
		{kink, api.Move{Kind: api.TipRight, A: math.MinInt}, api.ErrArg},
		{kink, api.Move{Kind: api.TipLeft, A: 2}, api.ErrMove},
		{kink, api.Move{Kind: api.TipLeft, A: 0}, api.ErrMove},
		{kink, api.Move{Kind: api.TipLeft, A: -1}, api.ErrArg},
		{kink, api.Move{Kind: api.TipLeft, A: math.MaxInt}, api.ErrArg},
		// The last crossing keeps the last two passes.
		{read(t, "0: 0.1 1o+ 1u+ 0.2"), api.Move{Kind: api.AxisCut, A: 3}, api.ErrMove},
		{read(t, "0: 0.1 1o+ 1u+ 0.2 0.3 0.4"), api.Move{Kind: api.AxisCut, A: 4}, api.OK},
	} {
		got, e := move.Apply(c.c, c.m)
		if e != c.e || e != api.OK && !equal(got, api.Code{}) {
			t.Errorf("%d: Apply(%s, %s): %s, %d instead of %d", i, code.Print(c.c), move.Print(c.m), code.Print(got), e, c.e)
		}
	}
}

// P3.1: a field that a kind does not use must be zero.
func TestUnusedFields(t *testing.T) {
	used := map[api.MoveKind]string{
		api.AxisCut: "A", api.AxisMake: "ABC", api.AxisSlide: "AB", api.LoopCut: "A", api.LoopMake: "AOS",
		api.PairCut: "AB", api.PairMake: "ABLO", api.Triangle: "ABC", api.TipRight: "A", api.TipLeft: "A",
	}
	edits := map[string]func(m *api.Move){
		"B": func(m *api.Move) { m.B = 1 },
		"C": func(m *api.Move) { m.C = -1 },
		"L": func(m *api.Move) { m.Left = true },
		"O": func(m *api.Move) { m.Over = true },
		"S": func(m *api.Move) { m.Sign = 1 },
	}
	seen := map[api.MoveKind]bool{}
	for _, c := range samples(14) {
		for _, m := range someOfEach(t, c, 3) {
			seen[m.Kind] = true
			for field, edit := range edits {
				if strings.Contains(used[m.Kind], field) {
					continue
				}
				wrong := m
				edit(&wrong)
				if got, e := move.Apply(c, wrong); e != api.ErrArg || !equal(got, api.Code{}) {
					t.Fatalf("Apply(%s, %v): %d", code.Print(c), wrong, e)
				}
			}
		}
	}
	if len(seen) != len(used) {
		t.Error("some kinds were not tested", seen)
	}
}

// P3.1: the bare loop has one edge, which can only be pushed through the axis.
func TestBareLoop(t *testing.T) {
	bare := read(t, "2:")
	for _, k := range allKinds {
		for a := -1; a < 2; a++ {
			for b := -1; b < 4; b++ {
				for c := -1; c < 2; c++ {
					m := api.Move{Kind: k, A: a, B: b, C: c}
					got, e := move.Apply(bare, m)
					possible := k == api.AxisMake && a == 0 && b >= 0 && b <= 2 && c == 0
					want := api.Code{}
					if possible {
						want = api.Code{Fingers: 2, Letters: []api.Letter{pass(b, 1), pass(b, 2)}}
					}
					if possible != (e == api.OK) || !possible && e != api.ErrArg || !equal(got, want) {
						t.Errorf("Apply(2:, %v): %s, %d", m, code.Print(got), e)
					}
				}
			}
		}
	}
	for k, want := range map[int]string{
		0: "axis-make 0 0 0",
		1: "axis-make 0 0 0, axis-make 0 1 0",
		3: "axis-make 0 0 0, axis-make 0 1 0, axis-make 0 2 0, axis-make 0 3 0",
	} {
		if l, e := move.All(api.Code{Fingers: k}); e != api.OK || show(l) != want {
			t.Errorf("All of the bare loop with %d fingers: %s, %d", k, show(l), e)
		}
	}
}

// P3.1, P3.2: moves that exceed the limits are not among all moves, and a move that is not possible is that first.
func TestLimits(t *testing.T) {
	for _, c := range []struct {
		c       api.Code
		tooLong string
	}{
		{kinks(4, 98), ""},
		{kinks(4, 99), "pair-make"},
		{kinks(4, 100), "loop-make pair-make"},
		{snake(396), ""},
		{snake(398), "pair-make"},
		{snake(400), "axis-make loop-make pair-make"},
		{kinks(200, 98), ""},
		{kinks(202, 98), "pair-make"},
		{kinks(204, 98), "axis-make loop-make pair-make"},
	} {
		n := len(c.c.Letters)
		s := newSlow(t, c.c)
		for _, m := range []api.Move{
			{Kind: api.AxisCut, A: n - 1},
			{Kind: api.AxisMake, A: n - 1, B: 1},
			{Kind: api.AxisMake, A: n - 1, B: 1, C: 2},
			{Kind: api.LoopMake, A: 1, Sign: -1},
			{Kind: api.PairMake, A: n - 1, B: n - 3, Over: true},
			{Kind: api.PairMake, A: n - 1, B: n - 3, Left: true},
			{Kind: api.PairMake, A: n - 1, B: n - 2},
		} {
			want := api.OK
			if strings.Contains(c.tooLong, word(m.Kind)) {
				want = api.ErrLong
			}
			if !s.possible(m) {
				want = api.ErrMove
			}
			got, e := move.Apply(c.c, m)
			if e != want || e != api.OK && !equal(got, api.Code{}) || e == api.OK && code.Check(got) != api.OK {
				t.Errorf("%s on %d letters: %d instead of %d", move.Print(m), n, e, want)
			}
		}
		for _, k := range []api.MoveKind{api.AxisMake, api.LoopMake, api.PairMake} {
			l, e := move.Some(c.c, k)
			if e != api.OK || strings.Contains(c.tooLong, word(k)) != (len(l) == 0) {
				t.Errorf("%d moves of the kind %s on %d letters, %d", len(l), word(k), n, e)
			}
		}
	}
}

// P3.2: the examples of All and Some, kinds in any order, and errors.
func TestAllAndSome(t *testing.T) {
	for _, c := range []struct{ code, moves string }{
		{"1:", "axis-make 0 0 0, axis-make 0 1 0"},
		{"0: 0.1 0.2", "axis-cut 0, axis-cut 1, axis-make 0 0 0, axis-make 0 0 1, axis-make 0 0 2, axis-make 1 0 0, axis-make 1 0 1, axis-make 1 0 2, " +
			"loop-make 0 under -, loop-make 0 under +, loop-make 0 over -, loop-make 0 over +, loop-make 1 under -, loop-make 1 under +, loop-make 1 over -, loop-make 1 over +"},
	} {
		if l, e := move.All(read(t, c.code)); e != api.OK || show(l) != c.moves {
			t.Errorf("All(%s): %s, %d", c.code, show(l), e)
		}
	}
	for _, c := range samples(14) {
		all := must[[]api.Move](t)(move.All(c))
		for _, kinds := range [][]api.MoveKind{nil, {0, 11, -1, math.MaxInt}, {api.TipLeft, api.AxisCut, api.TipLeft}, {api.PairMake, api.LoopMake, api.AxisMake, 0}, allKinds} {
			var want []api.Move
			for _, m := range all {
				if slices.Contains(kinds, m.Kind) {
					want = append(want, m)
				}
			}
			if got, e := move.Some(c, kinds...); e != api.OK || !slices.Equal(got, want) {
				t.Fatalf("Some(%s, %v): %s, %d", code.Print(c), kinds, show(got), e)
			}
		}
	}
	for _, c := range []api.Code{{Fingers: -1}, {Letters: make([]api.Letter, 2)}, {Letters: make([]api.Letter, 401)}} {
		e := code.Check(c)
		if l, got := move.All(c); got != e || len(l) > 0 {
			t.Errorf("All: %s, %d instead of %d", show(l), got, e)
		}
		if l, got := move.Some(c); got != e || len(l) > 0 {
			t.Errorf("Some: %s, %d instead of %d", show(l), got, e)
		}
	}
}
