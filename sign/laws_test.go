package sign_test

import (
	"testing"

	"catscradle/api"
	"catscradle/code"
	"catscradle/move"
	"catscradle/sign"
)

// same fails unless two lists of terms are equal.
func same(t *testing.T, what string, got, want []api.Term) {
	t.Helper()
	if !sign.Equal(got, want) {
		t.Fatalf("%s: %s, not %s", what, sign.Print(got), sign.Print(want))
	}
}

// P5.4: the changes of terms commute with those of codes.
func TestCommute(t *testing.T) {
	terms, codes := must[[]api.Term](t), must[api.Code](t)
	for _, c := range samples() {
		k, l := c.Fingers, bracket(t, c)
		same(t, "Swap of "+code.Print(c), bracket(t, codes(code.Swap(c))), terms(sign.Flip(l)))
		same(t, "Mirror of "+code.Print(c), bracket(t, codes(code.Mirror(c))), terms(sign.Flip(terms(sign.Mirror(k, l)))))
		same(t, "Turn of "+code.Print(c), bracket(t, codes(code.Turn(c))), terms(sign.Turn(l)))
		for f := 1; f <= k; f++ {
			same(t, "Forget of "+code.Print(c), bracket(t, codes(code.Forget(c, f))), terms(sign.Forget(k, l, f)))
		}
	}
}

// times returns a list whose terms are multiplied by -A^n.
func times(l []api.Term, n int) []api.Term {
	result := copiedTerms(l)
	for i, term := range result {
		result[i].Low += n
		for j := range term.Coeffs {
			term.Coeffs[j] = -term.Coeffs[j]
		}
	}
	return result
}

// P5.5: what slack moves do to the bracket, and that they leave the sign.
func TestSlack(t *testing.T) {
	counts := map[api.MoveKind]int{}
	for _, c := range samples() {
		l, s := bracket(t, c), must[[]api.Term](t)(sign.Sign(c))
		for _, kind := range slackKinds() {
			moves := must[[]api.Move](t)(move.Some(c, kind))
			for i := 0; i < len(moves); i += 1 + len(moves)/6 {
				m := moves[i]
				d := must[api.Code](t)(move.Apply(c, m))
				counts[kind]++
				what := move.Print(m) + " of " + code.Print(c)
				same(t, "the sign after "+what, must[[]api.Term](t)(sign.Sign(d)), s)
				switch kind {
				case api.LoopMake:
					same(t, what, bracket(t, d), times(l, 3*m.Sign))
				case api.LoopCut:
					made := must[int](t)(sign.Writhe(c)) - must[int](t)(sign.Writhe(d))
					same(t, what, times(bracket(t, d), 3*made), l)
				default:
					same(t, what, bracket(t, d), l)
				}
			}
		}
	}
	for _, kind := range slackKinds() {
		if counts[kind] < 20 {
			t.Errorf("%d moves of the kind %d", counts[kind], kind)
		}
	}
}

// P5.5: tips change brackets, so that the test above is not an empty one.
func TestTips(t *testing.T) {
	changed := 0
	for _, c := range samples() {
		for _, m := range must[[]api.Move](t)(move.Some(c, api.TipRight, api.TipLeft)) {
			if !sign.Equal(bracket(t, must[api.Code](t)(move.Apply(c, m))), bracket(t, c)) {
				changed++
			}
		}
	}
	if changed < 100 {
		t.Error(changed)
	}
}

// P5.6: at A = -1, over and under make no difference.
func TestCrossingsAtMinusOne(t *testing.T) {
	changed := 0
	for _, c := range samples() {
		l := bracket(t, c)
		want := must[[]api.Term](t)(sign.At(l, -1))
		for id := 1; id <= code.Crossings(c); id++ {
			other := bracket(t, crossed(c, id))
			same(t, "crossed "+code.Print(c), must[[]api.Term](t)(sign.At(other, -1)), want)
			if !sign.Equal(l, other) {
				changed++
			}
		}
	}
	if changed < 100 {
		t.Error(changed)
	}
}
