package ease_test

import (
	"slices"
	"testing"

	"catscradle/api"
	"catscradle/code"
	"catscradle/ease"
	"catscradle/move"
)

// possible returns the possible moves of some kinds, picked from all moves.
func possible(t *testing.T, c api.Code, kinds ...api.MoveKind) []api.Move {
	t.Helper()
	var l []api.Move
	for _, m := range must[[]api.Move](t)(move.All(c)) {
		if slices.Contains(kinds, m.Kind) {
			l = append(l, m)
		}
	}
	return l
}

func slowReducing(t *testing.T, c api.Code) []api.Move {
	t.Helper()
	return possible(t, c, api.AxisCut, api.LoopCut, api.PairCut)
}

// slowReduce follows the definition to the letter.
func slowReduce(t *testing.T, c api.Code) (api.Code, []api.Move) {
	t.Helper()
	var moves []api.Move
	for len(slowReducing(t, c)) > 0 {
		first := slowReducing(t, c)[0]
		moves = append(moves, first)
		c = must[api.Code](t)(move.Apply(c, first))
	}
	return c, moves
}

// listed is a code of a class, and the level moves by which it was reached.
type listed struct {
	code api.Code
	way  []api.Move
}

// slowClass follows the definition to the letter. If stop holds for a code that is to be added, this code is the last one.
func slowClass(t *testing.T, x api.Code, limit int, stop func(api.Code) bool) ([]listed, bool) {
	t.Helper()
	l := []listed{{code: x}}
	for i := 0; i < len(l); i++ {
		for _, m := range possible(t, l[i].code, api.AxisSlide, api.Triangle) {
			next := must[api.Code](t)(move.Apply(l[i].code, m))
			there := slices.ContainsFunc(l, func(o listed) bool { return must[bool](t)(code.Same(o.code, next)) })
			if there {
				continue
			}
			if len(l) == limit {
				return l, false
			}
			l = append(l, listed{code: next, way: append(slices.Clone(l[i].way), m)})
			if stop(next) {
				return l, false
			}
		}
	}
	return l, true
}

// before reports whether a list of letters comes before another one.
func before(a, b []api.Letter) bool {
	for i := range min(len(a), len(b)) {
		if a[i] != b[i] {
			return letterBefore(a[i], b[i])
		}
	}
	return len(a) < len(b)
}

// letterBefore follows the order of letters of layer 2.
func letterBefore(a, b api.Letter) bool {
	switch {
	case a.Kind != b.Kind:
		return a.Kind == api.Pass
	case a.Kind == api.Pass && a.Gate != b.Gate:
		return a.Gate < b.Gate
	case a.Kind == api.Pass:
		return a.Rank < b.Rank
	case a.ID != b.ID:
		return a.ID < b.ID
	case a.Over != b.Over:
		return !a.Over
	}
	return a.Sign < b.Sign
}

// slowForm follows the definition to the letter.
func slowForm(t *testing.T, c api.Code, limit int) api.Form {
	t.Helper()
	current := normal(t, c)
	var path []api.Move
again:
	reduced, moves := slowReduce(t, current)
	path = append(path, moves...)
	l, whole := slowClass(t, reduced, limit, func(d api.Code) bool { return len(slowReducing(t, d)) > 0 })
	if last := l[len(l)-1]; len(slowReducing(t, last.code)) > 0 {
		path = append(path, last.way...)
		current = last.code
		goto again
	}
	least := l[0]
	for _, o := range l {
		if before(normal(t, o.code).Letters, normal(t, least.code).Letters) {
			least = o
		}
	}
	return api.Form{Code: normal(t, least.code), Path: append(path, least.way...), Whole: whole}
}

// P4.1: Reduce, compared with its definition.
func TestReduceSlow(t *testing.T) {
	for _, c := range samples() {
		want, moves := slowReduce(t, c)
		got, l, e := ease.Reduce(c)
		if e != api.OK || !equal(got, want) || !slices.Equal(l, moves) {
			t.Fatalf("Reduce(%s): %s; %s, not %s; %s", code.Print(c), code.Print(got), show(l), code.Print(want), show(moves))
		}
	}
}

// P4.2: Class, compared with its definition.
func TestClassSlow(t *testing.T) {
	for _, c := range samples() {
		for _, limit := range []int{1, 2, 3, 8, 40} {
			l, whole := slowClass(t, normal(t, c), limit, func(api.Code) bool { return false })
			var want []api.Code
			for _, o := range l {
				want = append(want, normal(t, o.code))
			}
			got, all := class(t, c, limit)
			if !slices.EqualFunc(got, want, equal) || all != whole {
				t.Fatalf("Class(%s, %d): %s, %v, not %s, %v", code.Print(c), limit, list(got), all, list(want), whole)
			}
		}
	}
}

// P4.3: Make, compared with the definition of the form.
func TestMakeSlow(t *testing.T) {
	for _, c := range samples() {
		for _, limit := range []int{1, 2, 3, 8, 40} {
			want := slowForm(t, c, limit)
			got := must[api.Form](t)(ease.Make(c, limit))
			if !equalForms(got, want) {
				t.Fatalf("Make(%s, %d): %s; %s; %v, not %s; %s; %v", code.Print(c), limit, code.Print(got.Code), show(got.Path), got.Whole, code.Print(want.Code), show(want.Path), want.Whole)
			}
		}
	}
}
