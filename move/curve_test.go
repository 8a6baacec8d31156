package move_test

import (
	"math/rand"
	"slices"
	"testing"

	"catscradle/api"
	"catscradle/code"
	"catscradle/move"
)

// point is a point of the plane; the axis is the line y = 0.
type point struct{ x, y float64 }

// curve is a polygon in the plane, from which a code is read by measuring. Side i leads from point i to the next one.
type curve struct {
	points  []point
	fingers []float64
	heights []int // of the sides
}

// event is what a traveler along a curve meets.
type event struct {
	at     float64 // where on the side
	x      float64 // where on the axis
	down   bool
	sides  [2]int // of a crossing, in increasing order; of a pass, twice the same
	letter api.Letter
}

// randomCurve returns a random curve; it need not cross the axis.
func randomCurve(r *rand.Rand) curve {
	var c curve
	n := 3 + r.Intn(6)
	for range n {
		c.points = append(c.points, point{2*r.Float64() - 1, 2*r.Float64() - 1})
	}
	c.heights = r.Perm(n)
	for range r.Intn(5) {
		c.fingers = append(c.fingers, 2*r.Float64()-1)
	}
	slices.Sort(c.fingers)
	return c
}

// events returns what a traveler meets along all sides, without IDs and ranks.
func (c curve) events() []event {
	var all []event
	for i := range c.points {
		var here []event
		p, q := c.points[i], c.points[(i+1)%len(c.points)]
		if (p.y < 0) != (q.y < 0) {
			at := p.y / (p.y - q.y)
			x := p.x + at*(q.x-p.x)
			gate, _ := slices.BinarySearch(c.fingers, x)
			here = append(here, event{at: at, x: x, down: p.y > 0, sides: [2]int{i, i}, letter: pass(gate, 0)})
		}
		for j := range c.points {
			if e, ok := c.crossing(i, j); ok {
				here = append(here, e)
			}
		}
		slices.SortFunc(here, func(a, b event) int {
			if a.at < b.at {
				return -1
			}
			return 1
		})
		all = append(all, here...)
	}
	return all
}

// crossing returns the visit on side i of its crossing with side j.
func (c curve) crossing(i, j int) (event, bool) {
	n := len(c.points)
	if i == j || (i+1)%n == j || (j+1)%n == i {
		return event{}, false
	}
	p, q := c.points[i], c.points[(i+1)%n]
	a, b := c.points[j], c.points[(j+1)%n]
	v, w := point{q.x - p.x, q.y - p.y}, point{b.x - a.x, b.y - a.y}
	d := v.x*w.y - v.y*w.x
	s := ((a.x-p.x)*w.y - (a.y-p.y)*w.x) / d
	t := ((a.x-p.x)*v.y - (a.y-p.y)*v.x) / d
	if s < 0 || s > 1 || t < 0 || t > 1 {
		return event{}, false
	}
	over := c.heights[i] > c.heights[j]
	// One who travels along v sees w lead to the left if d is positive.
	sign := -1
	if (d > 0) == over {
		sign = 1
	}
	return event{at: s, sides: [2]int{min(i, j), max(i, j)}, letter: cross(0, over, sign)}, true
}

// code returns the code of a curve, false if it has none: if it has crossings and no pass.
func (c curve) code() (api.Code, bool) {
	all := c.events()
	result := api.Code{Fingers: len(c.fingers)}
	first := slices.IndexFunc(all, func(e event) bool { return e.down })
	if first < 0 {
		return result, len(all) == 0
	}
	ids := map[[2]int]int{}
	for _, e := range slices.Concat(all[first:], all[:first]) {
		l := e.letter
		if l.Kind == api.Cross {
			if ids[e.sides] == 0 {
				ids[e.sides] = len(ids) + 1
			}
			l.ID = ids[e.sides]
		}
		for _, o := range all {
			if l.Kind == api.Pass && o.letter == e.letter && o.x <= e.x {
				l.Rank++
			}
		}
		result.Letters = append(result.Letters, l)
	}
	return result, true
}

// with returns the curve with one point a part of the way to a goal.
func (c curve) with(i int, goal point, part float64) curve {
	c.points = slices.Clone(c.points)
	p := c.points[i]
	c.points[i] = point{p.x + part*(goal.x-p.x), p.y + part*(goal.y-p.y)}
	return c
}

// pairs returns the sides that cross each other.
func (c curve) pairs() map[[2]int]bool {
	all := map[[2]int]bool{}
	for _, e := range c.events() {
		if e.letter.Kind == api.Cross {
			all[e.sides] = true
		}
	}
	return all
}

// blocked reports whether a corner went through a side that lies above one of its sides and below the other one, as a string can't.
func blocked(before, after curve) bool {
	one, two := before.pairs(), after.pairs()
	var changed [][2]int
	for i := range before.points {
		for j := range i {
			if pair := [2]int{j, i}; one[pair] != two[pair] {
				changed = append(changed, pair)
			}
		}
	}
	if len(changed) != 2 {
		return false
	}
	// The side that both pairs have is the one that the corner went through.
	p, q := changed[0], changed[1]
	for i := range 2 {
		for j := range 2 {
			if h := before.heights; p[i] == q[j] && (h[p[1-i]] > h[p[i]]) != (h[q[1-j]] > h[q[j]]) {
				return true
			}
		}
	}
	return false
}

// folded reports whether two sides with a common corner turned through each other, by which many things happen at once.
func folded(before, after curve) bool {
	n := len(before.points)
	turn := func(c curve, i int) (float64, bool) {
		p, q, r := c.points[i], c.points[(i+1)%n], c.points[(i+2)%n]
		v, w := point{q.x - p.x, q.y - p.y}, point{r.x - q.x, r.y - q.y}
		return v.x*w.y - v.y*w.x, v.x*w.x+v.y*w.y < 0
	}
	for i := range n {
		one, back := turn(before, i)
		two, _ := turn(after, i)
		if back && (one < 0) != (two < 0) {
			return true
		}
	}
	return false
}

// leads reports whether a move of some kinds leads to a code that is the same as another one.
func leads(t *testing.T, from, to api.Code, kinds ...api.MoveKind) (api.Move, bool) {
	t.Helper()
	for _, m := range must[[]api.Move](t)(move.Some(from, kinds...)) {
		if same(t, must[api.Code](t)(move.Apply(from, m)), to) {
			return m, true
		}
	}
	return api.Move{}, false
}

// kindsFor returns the kinds of moves that change the numbers of passes and crossings as two codes differ.
func kindsFor(before, after api.Code) []api.MoveKind {
	m := code.Passes(after) - code.Passes(before)
	c := code.Crossings(after) - code.Crossings(before)
	switch [2]int{m, c} {
	case [2]int{2, 0}:
		return []api.MoveKind{api.AxisMake}
	case [2]int{-2, 0}:
		return []api.MoveKind{api.AxisCut}
	case [2]int{0, 1}:
		return []api.MoveKind{api.LoopMake}
	case [2]int{0, -1}:
		return []api.MoveKind{api.LoopCut}
	case [2]int{0, 2}:
		return []api.MoveKind{api.PairMake}
	case [2]int{0, -2}:
		return []api.MoveKind{api.PairCut}
	case [2]int{0, 0}:
		return []api.MoveKind{api.AxisSlide, api.Triangle, api.TipRight, api.TipLeft}
	}
	return nil
}

// differ reports whether the codes of two curves differ, also in that only one of them has one.
func differ(t *testing.T, a, b curve) bool {
	one, ok := a.code()
	two, okToo := b.code()
	return ok != okToo || ok && okToo && !same(t, one, two)
}

// twisted reports whether two moves make, or take away, a kink within a kink: what happens if a string is pushed across itself where nothing lies between.
func twisted(t *testing.T, from, to api.Code) bool {
	if code.Crossings(from) > code.Crossings(to) {
		from, to = to, from
	}
	for _, m := range must[[]api.Move](t)(move.Some(from, api.LoopMake)) {
		if _, found := leads(t, must[api.Code](t)(move.Apply(from, m)), to, api.LoopMake); found {
			return true
		}
	}
	return false
}

// checkEvent checks that a move leads over a place where the code changes, and returns its kind; 0 if a string can't go there, or not by one move.
func checkEvent(t *testing.T, before, after curve) api.MoveKind {
	t.Helper()
	from, ok := before.code()
	to, okToo := after.code()
	if !ok || !okToo {
		return 0
	}
	m, found := leads(t, from, to, kindsFor(from, to)...)
	if !found && !blocked(before, after) && !folded(before, after) && !twisted(t, from, to) {
		t.Errorf("no move leads from %s to %s", code.Print(from), code.Print(to))
	}
	return m.Kind
}

// P3.1, P3.2: whenever the code of a curve changes while one of its corners is moved, one of the moves leads from the code before to the code after.
func TestCurvesMove(t *testing.T) {
	const parts = 300
	r := rand.New(rand.NewSource(5))
	seen := map[api.MoveKind]int{}
	for range 250 {
		c := randomCurve(r)
		i, goal := r.Intn(len(c.points)), point{2*r.Float64() - 1, 2*r.Float64() - 1}
		for part := range parts {
			low, high := float64(part)/parts, float64(part+1)/parts
			if !differ(t, c.with(i, goal, low), c.with(i, goal, high)) {
				continue
			}
			for high-low > 1e-10 {
				middle := (low + high) / 2
				if differ(t, c.with(i, goal, low), c.with(i, goal, middle)) {
					high = middle
				} else {
					low = middle
				}
			}
			seen[checkEvent(t, c.with(i, goal, low), c.with(i, goal, high))]++
		}
	}
	for _, k := range allKinds {
		if seen[k] < 10 {
			t.Errorf("only %d moves of the kind %s were seen", seen[k], word(k))
		}
	}

}
