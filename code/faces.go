package code

import (
	"slices"

	"catscradle/api"
)

// Faces returns the faces of a code.
func Faces(c api.Code) ([]api.Face, api.Errno) {
	d, e := draw(c)
	if e != api.OK {
		return nil, e
	}
	var faces []api.Face
	for _, darts := range d.walks() {
		faces = append(faces, d.face(darts))
	}
	return faces, api.OK
}

// face returns the description of the face with some darts.
func (d *diagram) face(darts []int) api.Face {
	f := api.Face{Above: d.above[darts[0]/2], Darts: slices.Clone(darts)}
	for _, dart := range darts {
		end := d.end(dart)
		if d.Letters[end].Kind != api.Pass {
			continue
		}
		gaps := d.gapsAfter(end, f.Above)
		for _, gap := range gaps {
			d.meet(&f, gap)
		}
		if len(gaps) == 2 {
			f.Outer = true
		}
	}
	return f
}

// gapsAfter returns the gaps along which one walks who comes to a pass, from above or from below, and turns left: two of them at infinity.
func (d *diagram) gapsAfter(pass int, above bool) []int {
	spot, last := d.spots[pass], len(d.axis)
	switch {
	case above && spot+1 == last:
		return []int{last, 0}
	case above:
		return []int{spot + 1}
	case spot == 0:
		return []int{0, last}
	}
	return []int{spot}
}

// meet adds the places and fingers of a gap to a face: from left to right above the axis, from right to left below.
func (d *diagram) meet(f *api.Face, gap int) {
	places, fingers := d.gap(gap)
	if !f.Above {
		slices.Reverse(places)
		slices.Reverse(fingers)
	}
	f.Places = append(f.Places, places...)
	f.Fingers = append(f.Fingers, fingers...)
}

// gap returns the places and the fingers, from left to right, between the pass with some index on the axis and the pass before it. Gap 0 lies to the left of all passes, the last gap to the right of them.
func (d *diagram) gap(s int) ([]api.Place, []int) {
	var from api.Place
	if s > 0 {
		l := d.Letters[d.axis[s-1]]
		from = api.Place{Gate: l.Gate, Left: l.Rank}
	}
	to := d.Fingers
	if s < len(d.axis) {
		to = d.Letters[d.axis[s]].Gate
	}
	places := []api.Place{from}
	var fingers []int
	for gate := from.Gate + 1; gate <= to; gate++ {
		places = append(places, api.Place{Gate: gate})
		fingers = append(fingers, gate)
	}
	return places, fingers
}
