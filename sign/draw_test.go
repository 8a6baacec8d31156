package sign_test

import (
	"cmp"
	"math"
	"math/rand"
	"slices"
	"testing"

	"catscradle/api"
	"catscradle/code"
)

// arc is half a circle, above or below the axis, that is traveled from a point of the axis to another one.
type arc struct {
	from, to float64
	above    bool
}

func (a arc) middle() float64 { return (a.from + a.to) / 2 }

func (a arc) radius() float64 { return math.Abs(a.to-a.from) / 2 }

// meets returns where an arc crosses another one, if it does.
func (a arc) meets(b arc) (float64, bool) {
	within := func(x float64) bool { return min(a.from, a.to) < x && x < max(a.from, a.to) }
	if a.above != b.above || within(b.from) == within(b.to) {
		return 0, false
	}
	m, n, r, s := a.middle(), b.middle(), a.radius(), b.radius()
	return (r*r - s*s + n*n - m*m) / (2 * (n - m)), true
}

// direction returns the direction in which an arc is traveled above or below a point of the axis.
func (a arc) direction(x float64) (float64, float64) {
	height := math.Sqrt(a.radius()*a.radius() - (x-a.middle())*(x-a.middle()))
	if !a.above {
		height = -height
	}
	if a.to < a.from {
		return -1, (x - a.middle()) / height
	}
	return 1, -(x - a.middle()) / height
}

// drawn returns the code of a word, whose letters are drawn at random places of their gates and joined by half circles, which lie over each other at random.
func drawn(r *rand.Rand, k int, w []int) api.Code {
	var at []float64
	for _, gate := range w {
		at = append(at, float64(gate)+r.Float64())
	}
	var arcs []arc
	for i, from := range at {
		arcs = append(arcs, arc{from: from, to: at[(i+1)%len(at)], above: i%2 == 1})
	}
	c := api.Code{Fingers: k}
	names := map[[2]int]int{}
	over := map[[2]int]bool{}
	for i, a := range arcs {
		rank := 0
		for j, x := range at {
			if w[j] == w[i] && x <= at[i] {
				rank++
			}
		}
		c.Letters = append(c.Letters, pass(w[i], rank))
		var others []int
		for j, b := range arcs {
			if _, ok := a.meets(b); ok {
				others = append(others, j)
			}
		}
		slices.SortFunc(others, func(j, l int) int {
			one, _ := a.meets(arcs[j])
			two, _ := a.meets(arcs[l])
			return cmp.Compare(one, two)
		})
		if a.to < a.from {
			slices.Reverse(others)
		}
		for _, j := range others {
			both := [2]int{min(i, j), max(i, j)}
			if names[both] == 0 {
				names[both] = len(names) + 1
				over[both] = r.Intn(2) == 0
			}
			is := over[both] == (i < j)
			c.Letters = append(c.Letters, cross(names[both], is, signOf(a, arcs[j], is)))
		}
	}
	return c
}

// signOf returns the sign of the crossing of two arcs.
func signOf(a, b arc, over bool) int {
	x, _ := a.meets(b)
	dx, dy := a.direction(x)
	ex, ey := b.direction(x)
	// One who travels along a sees b lead to the left if this is positive.
	if (dx*ey-dy*ex > 0) == over {
		return 1
	}
	return -1
}

// randomDrawn returns the code of a random word with some crossings, but not too many.
func randomDrawn(r *rand.Rand, crossings int) api.Code {
	for {
		k := 1 + r.Intn(4)
		var w []int
		for range 2 * (1 + r.Intn(4)) {
			w = append(w, r.Intn(k+1))
		}
		if c := drawn(r, k, w); code.Crossings(c) > 0 && code.Crossings(c) <= crossings {
			return c
		}
	}
}

func TestDrawn(t *testing.T) {
	r := rand.New(rand.NewSource(5))
	for range 200 {
		if c := randomDrawn(r, 30); code.Check(c) != api.OK {
			t.Fatal(code.Print(c))
		}
	}
}
