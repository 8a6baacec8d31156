package sign_test

import (
	"math"
	"math/rand"
	"slices"
	"testing"

	"catscradle/api"
	"catscradle/code"
	"catscradle/ease"
	"catscradle/sign"
)

// P5.7: witnesses that do not hold, or are none.
func TestCheck(t *testing.T) {
	circle, other := read(t, "2: 0.1 1.1"), read(t, "2: 0.1 2.1")
	once, again := read(t, "1: 0.1 1u+ 1.1 0.2 1o+ 1.2"), read(t, "1: 0.1 1o- 1.1 0.2 1u- 1.2")
	many := braid(2, slices.Repeat([]int{1}, 13)...)
	kinked := must[api.Code](t)(code.Forget(kinks(2, 13), 1))
	bad := api.Code{Fingers: 2, Letters: []api.Letter{pass(0, 1)}}
	for i, c := range []struct {
		a, b api.Code
		w    api.Witness
		want bool
	}{
		{circle, other, api.Witness{Kind: api.WitnessWord, Fingers: []int{2}}, true},
		{circle, other, api.Witness{Kind: api.WitnessWord, Fingers: []int{1, 2}}, true},
		{circle, other, api.Witness{Kind: api.WitnessWord, Fingers: []int{1}}, false},
		{circle, other, api.Witness{Kind: api.WitnessWord}, false},
		{circle, other, api.Witness{Kind: api.WitnessSign, Fingers: []int{2}}, true},
		{circle, other, api.Witness{Kind: api.WitnessSign}, false},
		{circle, other, api.Witness{Fingers: []int{2}}, false},
		{circle, other, api.Witness{Kind: 3, Fingers: []int{2}}, false},
		{circle, other, api.Witness{Kind: math.MinInt, Fingers: []int{2}}, false},
		{circle, other, api.Witness{Kind: api.WitnessWord, Fingers: []int{2, 1}}, false},
		{circle, other, api.Witness{Kind: api.WitnessWord, Fingers: []int{2, 2}}, false},
		{circle, other, api.Witness{Kind: api.WitnessWord, Fingers: []int{0, 2}}, false},
		{circle, other, api.Witness{Kind: api.WitnessWord, Fingers: []int{2, 3}}, false},
		{circle, other, api.Witness{Kind: api.WitnessSign, Fingers: []int{-1, math.MaxInt}}, false},
		{circle, circle, api.Witness{Kind: api.WitnessWord, Fingers: []int{2}}, false},
		{circle, bad, api.Witness{Kind: api.WitnessWord, Fingers: []int{2}}, false},
		{bad, circle, api.Witness{Kind: api.WitnessSign, Fingers: []int{2}}, false},
		{circle, read(t, "3: 0.1 2.1"), api.Witness{Kind: api.WitnessWord, Fingers: []int{2}}, false},
		{once, again, api.Witness{Kind: api.WitnessSign, Fingers: []int{1}}, true},
		{once, again, api.Witness{Kind: api.WitnessWord, Fingers: []int{1}}, false},
		// A code without a sign differs from no other one in it; a code that is reduced may have one.
		{once, many, api.Witness{Kind: api.WitnessSign, Fingers: []int{1}}, false},
		{many, once, api.Witness{Kind: api.WitnessSign, Fingers: []int{1}}, false},
		{many, many, api.Witness{Kind: api.WitnessSign, Fingers: []int{1}}, false},
		{kinked, read(t, "0:"), api.Witness{Kind: api.WitnessSign}, false},
	} {
		if sign.Check(c.a, c.b, c.w) != c.want || sign.Check(c.b, c.a, c.w) != c.want {
			t.Errorf("%d: Check(%s, %s, %v) is %v", i, code.Print(c.a), code.Print(c.b), c.w, !c.want)
		}
	}
}

func equalVerdicts(a, b api.Verdict) bool {
	joints := slices.Equal(a.Joint.Left, b.Joint.Left) && slices.Equal(a.Joint.Right, b.Joint.Right)
	return a.Same == b.Same && a.Unlike == b.Unlike && joints && equalWitnesses(a.Witness, b.Witness)
}

// P5.7: examples.
func TestJudge(t *testing.T) {
	for _, c := range []struct {
		a, b  string
		limit int
		want  api.Verdict
	}{
		{"2: 0.1 1o+ 1u+ 1.1", "2: 1.1 0.1", 10, api.Verdict{Same: true, Joint: api.Joint{Left: []api.Move{{Kind: api.LoopCut, A: 1}}}}},
		{"2: 0.1 1.1", "2: 1.1 0.1", 1, api.Verdict{Same: true}},
		{"2: 0.1 1.1", "2: 0.1 2.1", 10, api.Verdict{Unlike: true, Witness: api.Witness{Kind: api.WitnessWord, Fingers: []int{2}}}},
		{"1: 0.1 1u+ 1.1 0.2 1o+ 1.2", "1: 0.1 1o- 1.1 0.2 1u- 1.2", 10, api.Verdict{Unlike: true, Witness: api.Witness{Kind: api.WitnessSign, Fingers: []int{1}}}},
		// The limit decides whether both codes have the same form.
		{"1: 0.1 1u+ 1.1 0.2 1o+ 1.2", "1: 0.1 1.2 1u+ 0.2 1.1 1o+", 1, api.Verdict{}},
		{"1: 0.1 1u+ 1.1 0.2 1o+ 1.2", "1: 0.1 1.2 1u+ 0.2 1.1 1o+", 2, api.Verdict{Same: true, Joint: api.Joint{Left: []api.Move{{Kind: api.AxisSlide, A: 0, B: 3}}}}},
		{"0:", "0:", api.MaxClass, api.Verdict{Same: true}},
	} {
		if got, e := sign.Judge(read(t, c.a), read(t, c.b), c.limit); e != api.OK || !equalVerdicts(got, c.want) {
			t.Errorf("Judge(%s, %s, %d): %v, %d, not %v", c.a, c.b, c.limit, got, e, c.want)
		}
	}
}

// P5.7: Judge is Join, and then Unlike; no verdict contradicts another one for another limit.
func TestJudgeSlow(t *testing.T) {
	counts := map[string]int{}
	for _, c := range couples(150) {
		a, b := c[0], c[1]
		w, unlike := sign.Unlike(a, b)
		for _, limit := range []int{1, 3, 20, 100} {
			got, e := sign.Judge(a, b, limit)
			j, joined := ease.Join(a, b, limit)
			want := api.Verdict{Same: joined == api.OK, Joint: j}
			if joined != api.OK && unlike == api.OK {
				want = api.Verdict{Unlike: true, Witness: w}
			}
			if e != api.OK || !equalVerdicts(got, want) {
				t.Fatalf("Judge(%s, %s, %d): %v, %d, not %v", code.Print(a), code.Print(b), limit, got, e, want)
			}
			if joined == api.OK && unlike == api.OK {
				t.Fatalf("%s and %s are joined and told apart by %v", code.Print(a), code.Print(b), w)
			}
			switch {
			case got.Same:
				counts["same"]++
			case got.Unlike:
				counts["unlike"]++
			default:
				counts["open"]++
			}
		}
	}
	if len(counts) < 3 || counts["open"] < 5 {
		t.Error(counts)
	}
}

// P5.7: codes that are joined by slack moves are not told apart.
func TestJoined(t *testing.T) {
	r := rand.New(rand.NewSource(29))
	for range 150 {
		a := knotted(r, 20, 26, 8)
		b := shaken(r, a, 40, 30, 9, slackKinds()...)
		if w, e := sign.Unlike(a, b); e != api.ErrOpen || w.Kind != 0 || len(w.Fingers) > 0 {
			t.Fatalf("Unlike(%s, %s): %v, %d", code.Print(a), code.Print(b), w, e)
		}
	}
}
