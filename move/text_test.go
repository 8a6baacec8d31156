package move_test

import (
	"math"
	"strings"
	"testing"

	"catscradle/api"
	"catscradle/move"
)

// P3.5: Print, for any moves.
func TestPrint(t *testing.T) {
	all := api.Move{A: 1, B: -2, C: 30, Left: true, Over: true, Sign: 1}
	for k, want := range map[api.MoveKind]string{
		api.AxisCut:   "axis-cut 1",
		api.AxisMake:  "axis-make 1 -2 30",
		api.AxisSlide: "axis-slide 1 -2",
		api.LoopCut:   "loop-cut 1",
		api.LoopMake:  "loop-make 1 over +",
		api.PairCut:   "pair-cut 1 -2",
		api.PairMake:  "pair-make 1 -2 left over",
		api.Triangle:  "triangle 1 -2 30",
		api.TipRight:  "tip-right 1",
		api.TipLeft:   "tip-left 1",
		0:             "?",
		11:            "?",
		-1:            "?",
		math.MinInt:   "?",
		math.MaxInt:   "?",
	} {
		m := all
		m.Kind = k
		if s := move.Print(m); s != want {
			t.Errorf("Print of the kind %d: %s", k, s)
		}
	}
	for s, m := range map[string]api.Move{
		"loop-make 0 under -":           {Kind: api.LoopMake, Sign: -1},
		"loop-make 0 under ?":           {Kind: api.LoopMake},
		"loop-make -1 over ?":           {Kind: api.LoopMake, A: -1, Over: true, Sign: 2},
		"pair-make 0 7 right under":     {Kind: api.PairMake, B: 7, Sign: 5},
		"pair-make 0 7 right over":      {Kind: api.PairMake, B: 7, Over: true},
		"pair-make 0 7 left under":      {Kind: api.PairMake, B: 7, Left: true},
		"tip-left 9223372036854775807":  {Kind: api.TipLeft, A: math.MaxInt},
		"axis-cut -9223372036854775808": {Kind: api.AxisCut, A: math.MinInt},
	} {
		if got := move.Print(m); got != s {
			t.Errorf("Print(%v): %s", m, got)
		}
	}
}

// P3.5: Parse reads what Print returns, and nothing else.
func TestParse(t *testing.T) {
	for s, want := range map[string]api.Move{
		"axis-cut 0":                    {Kind: api.AxisCut},
		"axis-make 1 2 3":               {Kind: api.AxisMake, A: 1, B: 2, C: 3},
		"axis-slide 2 1":                {Kind: api.AxisSlide, A: 2, B: 1},
		"loop-cut 399":                  {Kind: api.LoopCut, A: 399},
		"loop-make 0 over +":            {Kind: api.LoopMake, Over: true, Sign: 1},
		"loop-make 10 under -":          {Kind: api.LoopMake, A: 10, Sign: -1},
		"pair-cut 0 0":                  {Kind: api.PairCut},
		"pair-make 3 3 left under":      {Kind: api.PairMake, A: 3, B: 3, Left: true},
		"pair-make 3 4 right over":      {Kind: api.PairMake, A: 3, B: 4, Over: true},
		"triangle 1 2 4":                {Kind: api.Triangle, A: 1, B: 2, C: 4},
		"tip-right 9223372036854775807": {Kind: api.TipRight, A: math.MaxInt},
		"tip-left 5":                    {Kind: api.TipLeft, A: 5},
	} {
		if m, e := move.Parse(s); e != api.OK || m != want || move.Print(m) != s {
			t.Errorf("Parse(%q): %v, %d", s, m, e)
		}
	}
	for _, s := range []string{
		"", " ", "?", "axis-cut", "axis-cut ", "axis-cut  0", " axis-cut 0", "axis-cut 0 ", "axis-cut 0 0", "axis-cut 00", "axis-cut 01", "axis-cut +1", "axis-cut -1", "axis-cut -0",
		"axis-cut x", "axis-cut 1x", "axis-cut 0x1", "axis-cut 1_0", "axis-cut 1.0", "axis-cut 9223372036854775808", "axis-cut 99999999999999999999", "axis-cut\t0", "axis-cut 0\n", "axis-cut\x000",
		"Axis-cut 0", "axiscut 0", "axis 0", "cut 0", "0 axis-cut", "? 0", "axis-make 0 0", "axis-make 0 0 0 0", "axis-make 0 -1 0", "axis-make 0 0 -1", "axis-slide 0", "axis-slide 0 1 2", "axis-slide 0 -2",
		"loop-make 0 over 1", "loop-make 0 over ?", "loop-make 0 over", "loop-make 0 + over", "loop-make 0 over + ", "loop-make 0 Over +", "loop-make 0 overt +", "loop-make 0 o +", "loop-make 0 over ++", "loop-make 0 over -1",
		"loop-make 0 left +", "loop-make over 0 +", "loop-make -1 over +", "pair-make 0 1 over left", "pair-make 0 1 left", "pair-make 0 1 left over +", "pair-make 0 1 true over", "pair-make 0 1 left un", "pair-make 0 1 ? over",
		"pair-make 0 -1 left over", "triangle 1 2", "triangle 1 2 4 5", "triangle 1,2,4", "triangle 1 2 -4", "tip-right", "tip-up 0", "tip-right 1 2", "tip-right \u0661", "tip-left \xff", strings.Repeat(" ", 5000), "tip-left " + strings.Repeat("9", 5000),
		"tip-left " + strings.Repeat("0", 5000) + "1", strings.Repeat("tip-left 1 ", 1000),
	} {
		if m, e := move.Parse(s); e != api.ErrText || m != (api.Move{}) {
			t.Errorf("Parse(%q): %v, %d", s, m, e)
		}
	}
}

// P3.5: Print and Parse invert each other on possible moves.
func TestParsePrint(t *testing.T) {
	for _, c := range samples(12) {
		for _, m := range must[[]api.Move](t)(move.All(c)) {
			if got, e := move.Parse(move.Print(m)); e != api.OK || got != m {
				t.Fatalf("Parse(%q): %v, %d", move.Print(m), got, e)
			}
		}
	}
}
