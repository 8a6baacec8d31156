package code

import "catscradle/api"

// diagram is the map of a code: the string and the axis, and the vertices where they meet.
type diagram struct {
	api.Code
	above  []bool // for each edge, whether it lies above the axis
	axis   []int  // the letters that are passes, from left to right
	spots  []int  // for each pass, its index in axis
	others []int  // for each visit of a crossing, the other visit
}

// condition is a part of what makes a code valid, and the error of a code that lacks it.
type condition struct {
	holds   func() bool
	lacking api.Errno
}

// draw returns the map of a code, or what is wrong with the code.
func draw(c api.Code) (*diagram, api.Errno) {
	d := &diagram{Code: c}
	// Each condition relies on those before it, and adds its part to the map.
	for _, next := range []condition{
		{d.short, api.ErrLong},
		{d.fingered, api.ErrArg},
		{d.closed, api.ErrCode},
		{d.plain, api.ErrCode},
		{d.ordered, api.ErrCode},
		{d.paired, api.ErrCode},
		{d.flat, api.ErrCode},
	} {
		if !next.holds() {
			return nil, next.lacking
		}
	}
	return d, api.OK
}

// short reports whether a code keeps to the limits of letters and crossings.
func (d *diagram) short() bool {
	return len(d.Letters) <= api.MaxLetters && count(d.Code, api.Cross) <= 2*api.MaxCrossings
}

// fingered reports whether a code has a possible number of fingers.
func (d *diagram) fingered() bool {
	return d.Fingers >= 0 && d.Fingers <= api.MaxFingers
}

// closed reports whether the code is the bare loop, or begins with a pass and has as many passes that go down as up. It notes on which side of the axis each edge lies.
func (d *diagram) closed() bool {
	d.above = make([]bool, len(d.Letters))
	above := true
	for i, l := range d.Letters {
		if l.Kind == api.Pass {
			above = !above
		}
		d.above[i] = above
	}
	return len(d.Letters) == 0 || d.Letters[0].Kind == api.Pass && above
}

// plain reports whether each letter is a pass or a cross, with numbers in their ranges, and has zero values in the fields that its kind does not use.
func (d *diagram) plain() bool {
	for _, l := range d.Letters {
		pass := api.Letter{Kind: api.Pass, Gate: l.Gate, Rank: l.Rank}
		cross := api.Letter{Kind: api.Cross, ID: l.ID, Sign: l.Sign, Over: l.Over}
		isPass := l == pass && l.Gate >= 0 && l.Gate <= d.Fingers
		isCross := l == cross && (l.Sign == 1 || l.Sign == -1)
		if !isPass && !isCross {
			return false
		}
	}
	return true
}

// ordered reports whether each gate has the ranks from 1 on, each once. It notes the order of the passes on the axis.
func (d *diagram) ordered() bool {
	counts := gates(d.Code)
	before := make([]int, len(counts))
	for g := range d.Fingers {
		before[g+1] = before[g] + counts[g]
	}
	taken := make([]bool, before[d.Fingers]+counts[d.Fingers])
	d.axis = make([]int, len(taken))
	d.spots = make([]int, len(d.Letters))
	for i, l := range d.Letters {
		if l.Kind != api.Pass {
			continue
		}
		spot := before[l.Gate] + l.Rank - 1
		if l.Rank < 1 || l.Rank > counts[l.Gate] || taken[spot] {
			return false
		}
		taken[spot] = true
		d.axis[spot], d.spots[i] = i, spot
	}
	return true
}

// paired reports whether the IDs are those from 1 on, and each crossing is visited once under and once over, with equal signs. It notes the visits.
func (d *diagram) paired() bool {
	crossings := Crossings(d.Code)
	d.others = make([]int, len(d.Letters))
	visits := make(map[int]int, crossings)
	for i, l := range d.Letters {
		if l.Kind != api.Cross {
			continue
		}
		first, again := visits[l.ID]
		if !again {
			if l.ID < 1 || l.ID > crossings {
				return false
			}
			visits[l.ID] = i
			continue
		}
		// Letter 0 is a pass, so 0 stands for no visit.
		if d.others[first] != 0 || d.Letters[first] != otherStrand(l) {
			return false
		}
		d.others[first], d.others[i] = i, first
	}
	// No ID is there three times, so each one is there twice.
	return true
}

// flat reports whether the diagram can be drawn in the plane, as the bare loop can, which has no map.
func (d *diagram) flat() bool {
	return len(d.Letters) == 0 || len(d.walks()) == len(d.axis)+Crossings(d.Code)+2
}

// walks returns the darts of each face in the order of a walk that begins with its least dart; the faces are in the order of these.
func (d *diagram) walks() [][]int {
	met := make([]bool, 2*len(d.Letters))
	darts := make([]int, 0, len(met))
	var all [][]int
faces:
	for first := range met {
		from := len(darts)
		for dart := first; len(darts) == from || dart != first; dart = d.left(dart) {
			if met[dart] {
				continue faces
			}
			met[dart] = true
			darts = append(darts, dart)
		}
		all = append(all, darts[from:])
	}
	return all
}

// left returns the next dart of the string for one who comes along a dart, turns left at its end, and follows the axis, if that is where he comes to, to the next pass.
func (d *diagram) left(dart int) int {
	edge, backwards := dart/2, dart%2 == 1
	end := d.end(dart)
	l := d.Letters[end]
	if l.Kind == api.Cross {
		same := l.Over == (l.Sign == 1)
		return d.leave(d.others[end], backwards == same)
	}
	step := -1
	if d.above[edge] {
		step = 1
	}
	passes := len(d.axis)
	next := d.axis[(d.spots[end]+step+passes)%passes]
	// The edge after a pass leads to the side to which the pass goes, the edge before it to the other side.
	return d.leave(next, d.above[next] != d.above[edge])
}

// end returns the letter to which a dart leads.
func (d *diagram) end(dart int) int {
	if dart%2 == 1 {
		return dart / 2
	}
	return (dart/2 + 1) % len(d.Letters)
}

// leave returns the dart that leads away from a letter, forwards or backwards.
func (d *diagram) leave(letter int, backwards bool) int {
	if !backwards {
		return 2 * letter
	}
	n := len(d.Letters)
	return 2*((letter+n-1)%n) + 1
}
