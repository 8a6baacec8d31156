package way_test

import (
	"math/rand"
	"slices"
	"testing"

	"catscradle/api"
	"catscradle/code"
	"catscradle/ease"
	"catscradle/hand"
	"catscradle/line"
	"catscradle/move"
	"catscradle/way"
)

// show returns moves as strings.
func show(l []api.Move) []string {
	var all []string
	for _, m := range l {
		all = append(all, move.Print(m))
	}
	return all
}

// moves reads moves that must be right.
func moves(t *testing.T, l ...string) []api.Move {
	t.Helper()
	var all []api.Move
	for _, s := range l {
		all = append(all, must[api.Move](t)(move.Parse(s)))
	}
	return all
}

// P8.4: proofs worked out by hand.
func TestTrickExamples(t *testing.T) {
	fr := standard(t)
	for _, c := range []struct {
		c, ops string
		limit  int
		path   []string
		e      api.Errno
	}{
		{"10: 0.1 1.1", "L1-", 10, nil, api.OK},
		{"10:", "", 1, nil, api.OK},
		{"10: 0.1 1.1 9.1 10.1", "L1- R1-", api.MaxClass, nil, api.OK},
		{"10: 0.1 1.1 9.1 10.1", "L1-", 10, nil, api.ErrOpen},
		{"10: 0.1 1.1", "", 10, nil, api.ErrOpen},
		{"10: 0.1 1.1", "L1~o", 10, nil, api.ErrOpen},
		// The string is off all fingers, with a kink that is left.
		{"10: 0.1 1.1", "L1~o L1-", 1, []string{"loop-cut 2", "axis-cut 0"}, api.OK},
		{"10: 0.1 1o+ 1u+ 1.1", "", 10, nil, api.ErrArg},
		// Errors of the film come before ErrOpen.
		{"10: 0.1 1.1", "L2-", 10, nil, api.ErrNone},
		{"10: 0.1 1.1", "L1- L1-", 10, nil, api.ErrNone},
		{"10: 0.1 1.1", "L1~o L1- L1-", 10, nil, api.ErrArg},
		// Errors of the limit come before those of the film.
		{"10: 0.1 1.1", "L1-", 0, nil, api.ErrArg},
		{"10: 0.1 1.1", "L1-", -1, nil, api.ErrArg},
		{"10: 0.1 1.1", "L1-", api.MaxClass + 1, nil, api.ErrArg},
		{"10: 0.1 1.1", "L2-", 0, nil, api.ErrArg},
	} {
		start, ops := read(t, c.c), signs(t, fr, c.ops)
		got, e := way.Trick(fr, start, c.limit, ops...)
		if e != c.e || !slices.Equal(show(got.Path), c.path) {
			t.Errorf("%s, %s: %v, %d", c.c, c.ops, got, e)
		}
		if e != api.OK {
			ops = nil
		}
		if !equalLists(got.Ops, ops) || way.Undone(fr, start, got) != (e == api.OK) {
			t.Errorf("%s, %s: %v, %v", c.c, c.ops, got.Ops, way.Undone(fr, start, got))
		}
	}
}

// P8.4: the opening A comes undone when all fingers let go, in whatever order.
func TestTrickOpening(t *testing.T) {
	fr := standard(t)
	c, ops, e := hand.Opening(fr, api.OpeningA)
	if e != api.OK {
		t.Fatal(e)
	}
	for _, s := range []string{"R2- L2- L1- L5- R5- R1-", "L1- R1- L5- R5- L2- R2-", "L5- L1- L2- R2- R1- R5-"} {
		series := slices.Concat(ops, signs(t, fr, s))
		got, e := way.Trick(fr, c, 100, series...)
		if e != api.OK || !equalLists(got.Ops, series) || !way.Undone(fr, c, got) {
			t.Errorf("%s: %v, %d", s, got, e)
		}
	}
	if got, e := way.Trick(fr, c, 100, ops...); e != api.ErrOpen || len(got.Ops) > 0 || len(got.Path) > 0 {
		t.Error(got, e)
	}
}

// P8.4: Trick returns the path of Bare, and Undone accepts it and tells that the word is that of the bare loop.
func TestTrick(t *testing.T) {
	r := rand.New(rand.NewSource(5))
	proofs, paths := 0, 0
	for range 3 {
		for _, s := range samples() {
			ops := s.series(r, r.Intn(3))
			film, _ := slowFilm(s.fr, s.c, ops)
			// All fingers let go, so that the string often comes undone.
			for end := film[len(film)-1]; r.Intn(8) > 0; end = film[len(film)-1] {
				l := slowChoices(s.fr, end, []api.OpKind{api.OpRelease})
				if len(l) == 0 {
					break
				}
				ops = append(ops, l[r.Intn(len(l))])
				film, _ = slowFilm(s.fr, s.c, ops)
			}
			last := film[len(film)-1]
			limit := 1 + r.Intn(20)
			path, f := ease.Bare(last, limit)
			got, e := way.Trick(s.fr, s.c, limit, ops...)
			if e != f || !slices.Equal(got.Path, path) || e == api.OK && !equalLists(got.Ops, ops) {
				t.Fatalf("%v, %v: %v, %d", s, ops, got, e)
			}
			if e != api.OK {
				continue
			}
			proofs++
			paths += min(1, len(path))
			word := must[[]int](t)(code.Word(last))
			if normal := must[[]int](t)(line.Normal(word)); !way.Undone(s.fr, s.c, got) || len(normal) > 0 {
				t.Errorf("%v, %v: the word %v", s, got, normal)
			}
		}
	}
	if proofs < 100 || paths < 50 {
		t.Errorf("%d proofs, %d with moves", proofs, paths)
	}
}

// P8.4: Undone refuses what is not a proof.
func TestUndone(t *testing.T) {
	fr := standard(t)
	thumb := read(t, "10: 0.1 1.1")
	twisted := signs(t, fr, "L1~o L1-")
	undone := moves(t, "loop-cut 2", "axis-cut 0")
	small, wrong := frame(t, "L1"), fr
	wrong.Loops = 0
	for i, c := range []struct {
		fr   api.Frame
		c    api.Code
		ops  []api.Op
		path []api.Move
		want bool
	}{
		{fr, thumb, signs(t, fr, "L1-"), nil, true},
		{fr, thumb, nil, nil, false},
		{fr, thumb, signs(t, fr, "L1- L1-"), nil, false},
		{fr, thumb, signs(t, fr, "L2-"), nil, false},
		{fr, thumb, []api.Op{{}}, nil, false},
		{fr, api.Code{Fingers: 10}, nil, nil, true},
		{fr, api.Code{Fingers: 9}, nil, nil, false},
		{small, read(t, "1: 0.1 1.1"), []api.Op{release(1)}, nil, true},
		{small, thumb, []api.Op{release(1)}, nil, false},
		{wrong, thumb, []api.Op{release(1)}, nil, false},
		// Not posed, and not valid.
		{fr, read(t, "10: 0.1 2.1"), nil, nil, false},
		{fr, read(t, "10: 4.1 4.2"), nil, moves(t, "axis-cut 0"), false},
		{fr, api.Code{Fingers: 10, Letters: thumb.Letters[:1]}, nil, nil, false},
		// The moves: of slack, in their order, to the end.
		{fr, thumb, twisted, undone, true},
		{fr, thumb, twisted, nil, false},
		{fr, thumb, twisted, undone[:1], false},
		{fr, thumb, twisted, undone[1:], false},
		{fr, thumb, twisted, moves(t, "axis-cut 0", "loop-cut 2"), false},
		{fr, thumb, twisted, append(moves(t, "loop-make 0 over +", "loop-cut 1"), undone...), true},
		{fr, thumb, twisted, append(slices.Clone(undone), moves(t, "axis-make 0 3 0")...), false},
		{fr, thumb, twisted, append(slices.Clone(undone), moves(t, "axis-make 0 3 0", "axis-cut 0")...), true},
		{fr, thumb, twisted, append(slices.Clone(undone), moves(t, "axis-cut 0")...), false},
		{fr, thumb, nil, moves(t, "tip-right 0", "axis-cut 0"), false},
		{fr, thumb, nil, moves(t, "tip-left 1", "axis-cut 0"), false},
		{fr, thumb, nil, moves(t, "axis-cut 0"), false},
		{fr, thumb, signs(t, fr, "L1-"), []api.Move{{}}, false},
		{fr, thumb, signs(t, fr, "L1-"), []api.Move{{Kind: 11}}, false},
		{fr, thumb, signs(t, fr, "L1-"), moves(t, "axis-make 0 3 0", "tip-left 0", "tip-right 0", "axis-cut 0"), false},
	} {
		if got := way.Undone(c.fr, c.c, api.Proof{Ops: c.ops, Path: c.path}); got != c.want {
			t.Errorf("case %d: %v", i, got)
		}
	}
}

// P8.4: the path of a proof begins at the normal form of the last code.
func TestUndoneNormal(t *testing.T) {
	fr := frame(t, "L1", "L2", "R1")
	r := rand.New(rand.NewSource(6))
	for range 50 {
		c := traveled(r, read(t, "3: 1.1 0.1 1u+ 2.1 3.1 1o+"))
		proof, e := way.Trick(fr, c, 50, release(3), release(1))
		if e != api.OK || !way.Undone(fr, c, proof) || !way.Undone(fr, traveled(r, c), proof) {
			t.Errorf("%s: %v, %d", code.Print(c), proof, e)
		}
	}
}
