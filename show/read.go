package show

import (
	"slices"

	"catscradle/api"
	"catscradle/code"
)

// Read returns the code that is read from a picture.
func Read(p api.Picture) (api.Code, api.Errno) {
	passes, e := measure(p)
	if e != api.OK {
		return api.Code{}, e
	}
	s := sketch{passes: passes}
	for gate, n := range p.Gates {
		for rank := 1; rank <= n; rank++ {
			s.vertices = append(s.vertices, vertex{letter: api.Letter{Kind: api.Pass, Gate: gate, Rank: rank}})
		}
	}
	if !s.join(p.Above, false) || !s.join(p.Below, true) {
		return api.Code{}, api.ErrCode
	}
	arrivals := s.travel()
	if len(arrivals) != passes+2*(len(s.vertices)-passes) {
		return api.Code{}, api.ErrCode
	}
	return code.Rename(api.Code{Fingers: p.Fingers, Letters: s.letters(arrivals)})
}

// measure returns the number of passes of a picture, or what is wrong with the numbers of its passes and crossings.
func measure(p api.Picture) (int, api.Errno) {
	if p.Fingers < 0 || p.Fingers > api.MaxFingers || len(p.Gates) != p.Fingers+1 || slices.Min(p.Gates) < 0 {
		return 0, api.ErrArg
	}
	passes := 0
	for _, n := range p.Gates {
		// What is left is compared, since a sum could overflow.
		if n > api.MaxLetters-passes {
			return 0, api.ErrLong
		}
		passes += n
	}
	crosses := 0
	for _, rows := range [][]api.Row{p.Above, p.Below} {
		for _, row := range rows {
			if row.Kind == api.RowCross {
				crosses++
			}
		}
	}
	if crosses > api.MaxCrossings || passes+2*crosses > api.MaxLetters {
		return 0, api.ErrLong
	}
	return passes, api.OK
}

// end is an end of a pass or of a crossing.
type end struct {
	vertex int
	side   int
}

// The ends of a pass, which are opposite to each other as those of one strand at a crossing are.
const (
	upper = 0
	lower = 2
)

// vertex is a pass or a crossing of a picture, and what its ends are joined with. Those of a crossing are numbered clockwise for one who sees the row upright.
type vertex struct {
	letter api.Letter // what a traveler meets; for a crossing without Sign, and with Over for one who goes along the ends 0 and 2
	joined [4]end
	below  bool
}

// sketch is what has been read of a picture: the passes, from left to right, and then the crossings.
type sketch struct {
	vertices []vertex
	passes   int
}

// join joins the ends of the string above or below the axis. It reports whether all rows are possible, and leave no end open.
func (s *sketch) join(rows []api.Row, below bool) bool {
	side := upper
	if below {
		side = lower
	}
	var front []end
	for pass := range s.passes {
		front = append(front, end{pass, side})
	}
	for _, row := range rows {
		if !fits(row, len(front)) {
			return false
		}
		taken := front[row.At : row.At+width(row)]
		var rest []end
		if row.Kind == api.RowCap {
			s.tie(taken[0], taken[1])
		} else {
			rest = s.cross(taken, row.Over, below)
		}
		front = slices.Replace(front, row.At, row.At+len(taken), rest...)
	}
	return len(front) == 0
}

// fits reports whether a row is possible at a front of n ends.
func fits(row api.Row, n int) bool {
	isCap := row.Kind == api.RowCap && row.In == 0 && !row.Over
	isCross := row.Kind == api.RowCross && row.In >= 1 && row.In <= 4
	return (isCap || isCross) && row.At >= 0 && row.At <= n-width(row)
}

// width returns how many ends a row joins or replaces.
func width(row api.Row) int {
	if row.Kind == api.RowCap {
		return 2
	}
	return row.In
}

// cross makes a crossing, joins ends from left to right with it, and returns its other ends.
func (s *sketch) cross(taken []end, over, below bool) []end {
	at := len(s.vertices)
	s.vertices = append(s.vertices, vertex{letter: api.Letter{Kind: api.Cross, ID: at - s.passes + 1, Over: over}, below: below})
	for i, other := range taken {
		s.tie(end{at, (4 - i) % 4}, other)
	}
	var rest []end
	for side := 1; side <= 4-len(taken); side++ {
		rest = append(rest, end{at, side})
	}
	return rest
}

// tie joins two ends.
func (s *sketch) tie(a, b end) {
	s.vertices[a.vertex].joined[a.side] = b
	s.vertices[b.vertex].joined[b.side] = a
}

// travel returns the ends at which one arrives who goes down through the leftmost pass, until one is there again; none without passes.
func (s *sketch) travel() []end {
	if s.passes == 0 {
		return nil
	}
	start := end{0, upper}
	arrivals := []end{start}
	for {
		at := arrivals[len(arrivals)-1]
		next := s.vertices[at.vertex].joined[opposite(at.side)]
		if next == start {
			return arrivals
		}
		arrivals = append(arrivals, next)
	}
}

// opposite returns the end of the same strand at a pass or a crossing.
func opposite(side int) int { return (side + 2) % 4 }

// letters returns what a traveler meets who arrives at some ends: all passes, and all crossings twice.
func (s *sketch) letters(arrivals []end) []api.Letter {
	// For each vertex, at which end one arrives on the strand that lies over for one who sees the row upright, and at which on the other one.
	overs, unders := make([]int, len(s.vertices)), make([]int, len(s.vertices))
	for _, at := range arrivals {
		if s.isOver(at) {
			overs[at.vertex] = at.side
		} else {
			unders[at.vertex] = at.side
		}
	}
	var letters []api.Letter
	for _, at := range arrivals {
		v := s.vertices[at.vertex]
		l := v.letter
		if l.Kind == api.Cross {
			// The sign is the same for one who sees the rows below upright, as they are turned.
			l.Sign = -1
			if unders[at.vertex] == (overs[at.vertex]+3)%4 {
				l.Sign = 1
			}
			l.Over = s.isOver(at) != v.below
		}
		letters = append(letters, l)
	}
	return letters
}

// isOver reports whether an end is one of the strand that lies over, for one who sees the row upright.
func (s *sketch) isOver(at end) bool {
	return s.vertices[at.vertex].letter.Over == (at.side%2 == 0)
}
