package move_test

import (
	"slices"
	"testing"

	"catscradle/api"
	"catscradle/code"
	"catscradle/line"
	"catscradle/move"
)

// writhe returns the sum of the signs of all crossings.
func writhe(c api.Code) int {
	sum := 0
	for _, l := range c.Letters {
		if l.Over {
			sum += l.Sign
		}
	}
	return sum
}

// winding returns the winding numbers of the word of a code.
func winding(t *testing.T, c api.Code) []int {
	t.Helper()
	return must[[]int](t)(line.Winding(c.Fingers, must[[]int](t)(code.Word(c))))
}

// P3.6: what moves change, and what they don't.
func TestSlack(t *testing.T) {
	changes := map[api.MoveKind][2]int{
		api.AxisCut: {-2, 0}, api.AxisMake: {2, 0}, api.LoopCut: {0, -1}, api.LoopMake: {0, 1}, api.PairCut: {0, -2}, api.PairMake: {0, 2},
	}
	for _, c := range samples(16) {
		around := winding(t, c)
		for _, m := range someOfEach(t, c, 40) {
			d := must[api.Code](t)(move.Apply(c, m))
			change := [2]int{code.Passes(d) - code.Passes(c), code.Crossings(d) - code.Crossings(c)}
			if change != changes[m.Kind] || c.Fingers != d.Fingers {
				t.Fatalf("%s changes %s to %s", move.Print(m), code.Print(c), code.Print(d))
			}
			signs := writhe(d) - writhe(c)
			if m.Kind == api.LoopCut || m.Kind == api.LoopMake {
				signs = signs*signs - 1
			}
			if signs != 0 {
				t.Fatalf("%s changes the signs of %s to those of %s", move.Print(m), code.Print(c), code.Print(d))
			}
			tips := 0
			for i, n := range winding(t, d) {
				tips += (n - around[i]) * (n - around[i])
			}
			if move.Slack(m.Kind) != (tips == 0) || tips > 1 {
				t.Fatalf("%s changes the winding numbers %v of %s to those of %s", move.Print(m), around, code.Print(c), code.Print(d))
			}
			if move.Slack(m.Kind) && !must[bool](t)(line.Same(must[[]int](t)(code.Word(c)), must[[]int](t)(code.Word(d)))) {
				t.Fatalf("%s changes the word of %s to that of %s", move.Print(m), code.Print(c), code.Print(d))
			}
		}
	}
}

// images are ways in which layer 2 changes a code, and whether they exchange left and right.
func images() map[string]func(api.Code) (api.Code, api.Errno) {
	return map[string]func(api.Code) (api.Code, api.Errno){
		"Start": lastStart, "Back": code.Back, "Swap": code.Swap, "Mirror": code.Mirror, "Turn": code.Turn,
	}
}

// lastStart returns the code that begins with the last pass that goes down.
func lastStart(c api.Code) (api.Code, api.Errno) {
	for i := len(c.Letters) - 1; i >= 0; i-- {
		if d, e := code.Start(c, i); e == api.OK {
			return d, e
		}
	}
	return c, api.OK
}

// P3.7: what moves lead from one code to another one, lead from its image to the image of the other one.
func TestImages(t *testing.T) {
	for _, c := range samples(12) {
		for _, m := range someOfEach(t, c, 2) {
			d := must[api.Code](t)(move.Apply(c, m))
			for name, image := range images() {
				kind := m.Kind
				if name == "Mirror" && !move.Slack(kind) {
					kind = move.Opposite(kind)
				}
				if _, found := leads(t, must[api.Code](t)(image(c)), must[api.Code](t)(image(d)), kind); !found {
					t.Fatalf("%s of %s: no move leads to that of %s", name, code.Print(c), code.Print(d))
				}
			}
		}
	}
}

// P3.7: what slack moves do does not depend on other fingers, and a tip over a finger does nothing without it.
func TestFingersForgotten(t *testing.T) {
	for _, c := range samples(12) {
		for _, m := range someOfEach(t, c, 2) {
			d := must[api.Code](t)(move.Apply(c, m))
			for f := range min(c.Fingers, 5) {
				one, two := must[api.Code](t)(code.Forget(c, f+1)), must[api.Code](t)(code.Forget(d, f+1))
				over := !move.Slack(m.Kind) && c.Letters[m.A].Gate == f+map[api.MoveKind]int{api.TipRight: 0, api.TipLeft: 1}[m.Kind]
				if over && !equal(one, two) {
					t.Fatalf("%s changes %s without finger %d", move.Print(m), code.Print(c), f+1)
				}
				if _, found := leads(t, one, two, m.Kind); !over && !found {
					t.Fatalf("%s and %s without finger %d: no move", code.Print(c), code.Print(d), f+1)
				}
			}
		}
	}
}

// P3.1, P3.7: moves do not depend on the numbers of crossings and on where a code begins.
func TestSameCodes(t *testing.T) {
	for _, c := range samples(12) {
		normal := must[api.Code](t)(code.Normal(c))
		for _, k := range allKinds {
			var results [2][]string
			for i, from := range []api.Code{c, normal} {
				for _, m := range must[[]api.Move](t)(move.Some(from, k)) {
					result := must[api.Code](t)(move.Apply(from, m))
					results[i] = append(results[i], code.Print(must[api.Code](t)(code.Normal(result))))
				}
				slices.Sort(results[i])
				results[i] = slices.Compact(results[i])
			}
			if !slices.Equal(results[0], results[1]) {
				t.Fatalf("%s leads from %s and from its normal form to different codes", word(k), code.Print(c))
			}
		}
	}
}
