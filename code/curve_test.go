package code_test

import (
	"math/rand"
	"slices"
	"testing"

	"catscradle/api"
	"catscradle/code"
)

// point is a point of the plane; the axis is the line y = 0.
type point struct{ x, y float64 }

// curve is a polygon in the plane, from which a code is read by measuring.
type curve struct {
	points  []point
	fingers []float64
	over    map[[2]int]bool // for two sides, in increasing order, whether the first one lies over the other one
}

// event is what a traveler along a curve meets.
type event struct {
	at     float64 // where on the side
	x      float64 // where on the axis
	down   bool
	sides  [2]int // of a crossing; of a pass, twice the same
	letter api.Letter
}

// randomCurve returns a curve that crosses the axis, with not too many crossings.
func randomCurve(r *rand.Rand) curve {
	for {
		c := curve{over: map[[2]int]bool{}}
		n := 3 + r.Intn(9)
		for i := range n {
			c.points = append(c.points, point{2*r.Float64() - 1, 2*r.Float64() - 1})
			for j := range i {
				c.over[[2]int{j, i}] = r.Intn(2) == 0
			}
		}
		for range r.Intn(7) {
			c.fingers = append(c.fingers, 2*r.Float64()-1)
		}
		slices.Sort(c.fingers)
		if slices.ContainsFunc(c.events(), event.isDown) {
			return c
		}
	}
}

func (e event) isPass() bool { return e.letter.Kind == api.Pass }

func (e event) isDown() bool { return e.isPass() && e.down }

// side returns the ends of a side.
func (c curve) side(i int) (point, point) {
	return c.points[i], c.points[(i+1)%len(c.points)]
}

// events returns what a traveler meets along all sides, without IDs and ranks.
func (c curve) events() []event {
	var all []event
	for i := range c.points {
		var here []event
		p, q := c.side(i)
		if (p.y < 0) != (q.y < 0) {
			at := p.y / (p.y - q.y)
			x := p.x + at*(q.x-p.x)
			here = append(here, event{at: at, x: x, down: p.y > 0, sides: [2]int{i, i}, letter: pass(c.gate(x), 0)})
		}
		for j := range c.points {
			if e, ok := c.crossing(i, j); ok {
				here = append(here, e)
			}
		}
		slices.SortFunc(here, func(a, b event) int {
			if a.at < b.at {
				return -1
			}
			return 1
		})
		all = append(all, here...)
	}
	return all
}

// gate returns the gate of a point of the axis.
func (c curve) gate(x float64) int {
	gate, _ := slices.BinarySearch(c.fingers, x)
	return gate
}

// crossing returns the visit on side i of its crossing with side j.
func (c curve) crossing(i, j int) (event, bool) {
	n := len(c.points)
	if i == j || (i+1)%n == j || (j+1)%n == i {
		return event{}, false
	}
	p, q := c.side(i)
	a, b := c.side(j)
	v, w := point{q.x - p.x, q.y - p.y}, point{b.x - a.x, b.y - a.y}
	d := v.x*w.y - v.y*w.x
	s := ((a.x-p.x)*w.y - (a.y-p.y)*w.x) / d
	t := ((a.x-p.x)*v.y - (a.y-p.y)*v.x) / d
	if s < 0 || s > 1 || t < 0 || t > 1 {
		return event{}, false
	}
	sides := [2]int{min(i, j), max(i, j)}
	over := c.over[sides] == (i < j)
	// One who travels along v sees w lead to the left if d is positive.
	sign := -1
	if (d > 0) == over {
		sign = 1
	}
	return event{at: s, sides: sides, letter: cross(0, over, sign)}, true
}

// letters returns the letters of some events, which are in the order of travel: the ranks are counted on the axis, and crossings are numbered by their sides.
func letters(all []event) []api.Letter {
	var result []api.Letter
	for _, e := range all {
		l := e.letter
		smaller := map[[2]int]bool{}
		for _, o := range all {
			if e.isPass() && o.isPass() && o.letter.Gate == l.Gate && o.x <= e.x {
				l.Rank++
			}
			if !o.isPass() && (o.sides[0] < e.sides[0] || o.sides[0] == e.sides[0] && o.sides[1] <= e.sides[1]) {
				smaller[o.sides] = true
			}
		}
		if !e.isPass() {
			l.ID = len(smaller)
		}
		result = append(result, l)
	}
	return result
}

// begin returns the events from the first pass on that goes down.
func begin(all []event) []event {
	i := slices.IndexFunc(all, event.isDown)
	return slices.Concat(all[i:], all[:i])
}

// code returns the code of a curve, which begins with the first pass that goes down.
func (c curve) code() api.Code {
	return api.Code{Fingers: len(c.fingers), Letters: letters(begin(c.events()))}
}

// back returns the code of a curve that is traveled backwards.
func (c curve) back() api.Code {
	all := begin(c.events())
	slices.Reverse(all)
	for i := range all {
		all[i].down = !all[i].down
	}
	return api.Code{Fingers: len(c.fingers), Letters: letters(begin(all))}
}

// moved returns the curve after its points, fingers and crossings were changed.
func (c curve) moved(x, y float64, swapped bool) curve {
	result := curve{over: map[[2]int]bool{}}
	for _, p := range c.points {
		result.points = append(result.points, point{x * p.x, y * p.y})
	}
	for _, f := range c.fingers {
		result.fingers = append(result.fingers, x*f)
	}
	slices.Sort(result.fingers)
	for sides, over := range c.over {
		result.over[sides] = over != swapped
	}
	return result
}

// curves returns random curves.
func curves() []curve {
	r := rand.New(rand.NewSource(11))
	var all []curve
	for range 400 {
		all = append(all, randomCurve(r))
	}
	return all
}

// P2.1: codes that are read from curves are valid.
func TestCurvesAreValid(t *testing.T) {
	passes, crossings := 0, 0
	for _, c := range curves() {
		got := c.code()
		if e := code.Check(got); e != api.OK {
			t.Errorf("%s: %d", code.Print(got), e)
		}
		passes = max(passes, code.Passes(got))
		crossings = max(crossings, code.Crossings(got))
	}
	if passes < 8 || crossings < 15 {
		t.Error("the curves are too simple", passes, crossings)
	}
}

// P2.4: Back, Swap, Mirror and Turn are what happens to the curve.
func TestCurvesChange(t *testing.T) {
	for _, c := range curves() {
		from := c.code()
		got, e := code.Back(from)
		want(t, "Back of "+code.Print(from), got, e, c.back(), api.OK)
		got, e = code.Swap(from)
		want(t, "Swap of "+code.Print(from), got, e, c.moved(1, 1, true).code(), api.OK)
		got, e = code.Mirror(from)
		want(t, "Mirror of "+code.Print(from), got, e, c.moved(-1, 1, false).code(), api.OK)
		turned := c.moved(1, -1, true)
		// The turned curve begins where the first one began.
		first := slices.IndexFunc(c.events(), event.isDown)
		all := turned.events()
		all = begin(slices.Concat(all[first:], all[:first]))
		got, e = code.Turn(from)
		want(t, "Turn of "+code.Print(from), got, e, api.Code{Fingers: len(c.fingers), Letters: letters(all)}, api.OK)
	}
}

// P2.5: Forget and Insert are what happens if fingers are taken away from a curve, and put into it.
func TestCurvesFingers(t *testing.T) {
	for _, c := range curves() {
		from := c.code()
		for i := range c.fingers {
			less := c
			less.fingers = slices.Delete(slices.Clone(c.fingers), i, i+1)
			got, e := code.Forget(from, i+1)
			want(t, "Forget of "+code.Print(from), got, e, less.code(), api.OK)
		}
		for place, x := range c.places() {
			more := c
			more.fingers = slices.Insert(slices.Clone(c.fingers), place.Gate, x)
			got, e := code.Insert(from, place)
			want(t, "Insert of "+code.Print(from), got, e, more.code(), api.OK)
		}
	}
}

// places returns a point of each place of a curve.
func (c curve) places() map[api.Place]float64 {
	stops := slices.Concat([]float64{-3}, c.fingers, []float64{3})
	var passes []float64
	for _, e := range c.events() {
		if e.isPass() {
			passes = append(passes, e.x)
		}
	}
	stops = append(stops, passes...)
	slices.Sort(stops)
	result := map[api.Place]float64{}
	for i, stop := range stops[1:] {
		x := (stops[i] + stop) / 2
		place := api.Place{Gate: c.gate(x)}
		for _, p := range passes {
			if p < x && c.gate(p) == place.Gate {
				place.Left++
			}
		}
		result[place] = x
	}
	return result
}

// around returns how often a curve goes around a point that does not lie on it: by the crossings with the ray to the right.
func (c curve) around(p point) int {
	turns := 0
	for i := range c.points {
		a, b := c.side(i)
		if (a.y < p.y) == (b.y < p.y) {
			continue
		}
		x := a.x + (p.y-a.y)/(b.y-a.y)*(b.x-a.x)
		if x > p.x && b.y > a.y {
			turns++
		} else if x > p.x {
			turns--
		}
	}
	return turns
}

// P2.2: the curve goes equally often around all places of a face.
func TestCurvesFaces(t *testing.T) {
	for _, c := range curves() {
		places := c.places()
		for _, f := range must[[]api.Face](t)(code.Faces(c.code())) {
			for _, p := range f.Places {
				one, two := c.around(point{places[f.Places[0]], 0}), c.around(point{places[p], 0})
				if one != two {
					t.Errorf("%s: %d and %d turns around places of the face %v", code.Print(c.code()), one, two, f)
				}
			}
		}
	}
}
