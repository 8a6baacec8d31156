package show_test

import (
	"math"
	"slices"
	"strconv"

	"catscradle/api"
	"catscradle/code"
	"catscradle/hand"
)

// dart is an edge, forwards or backwards.
type dart struct {
	edge int
	back bool
}

func (d dart) reverse() dart { return dart{d.edge, !d.back} }

// end returns the letter to which a dart leads.
func (d dart) end(c api.Code) int {
	if d.back {
		return d.edge
	}
	return (d.edge + 1) % len(c.Letters)
}

// out returns the dart that leaves a letter.
func out(c api.Code, letter int, back bool) dart {
	if back {
		return dart{(letter + len(c.Letters) - 1) % len(c.Letters), true}
	}
	return dart{letter, false}
}

// turnLeft follows the table of layer 2 at a crossing.
func turnLeft(c api.Code, d dart) dart {
	visit := d.end(c)
	l := c.Letters[visit]
	other := slices.IndexFunc(c.Letters, func(o api.Letter) bool { return o.ID == l.ID && o.Kind == api.Cross && o.Over != l.Over })
	if l.Over {
		return out(c, other, d.back == (l.Sign == 1))
	}
	return out(c, other, d.back == (l.Sign == -1))
}

// slowRows follows the definition of the rows above.
func slowRows(c api.Code) []api.Row {
	front := slowFront(c)
	var rows []api.Row
	crossed := map[int]bool{}
	for len(front) > 0 {
		if at := slowCap(front); at >= 0 {
			rows = append(rows, lid(at))
			front = slices.Concat(front[:at], front[at+2:])
			continue
		}
		at, in := -1, 0
		for i, d := range front {
			l := c.Letters[d.end(c)]
			if l.Kind != api.Cross || crossed[l.ID] {
				continue
			}
			if n := slowRun(c, front[i:]); n > in {
				at, in = i, n
			}
		}
		first := c.Letters[front[at].end(c)]
		crossed[first.ID] = true
		rows = append(rows, cross(at, in, first.Over))
		var rest []dart
		along := front[at]
		for len(rest) < 4-in {
			rest = append(rest, turnLeft(c, along))
			along = rest[len(rest)-1].reverse()
		}
		front = slices.Concat(front[:at], rest, front[at+in:])
	}
	return rows
}

// slowFront returns the darts that leave the passes upwards, gate by gate and rank by rank.
func slowFront(c api.Code) []dart {
	var front []dart
	for gate := range c.Fingers + 1 {
		for rank := 1; rank <= len(c.Letters); rank++ {
			i := slices.Index(c.Letters, api.Letter{Kind: api.Pass, Gate: gate, Rank: rank})
			if i < 0 {
				continue
			}
			passes := 0
			for _, l := range c.Letters[:i] {
				if l.Kind == api.Pass {
					passes++
				}
			}
			front = append(front, out(c, i, passes%2 == 0))
		}
	}
	return front
}

// slowCap returns the index of the first pair of neighbors that are one edge, -1 if there is none.
func slowCap(front []dart) int {
	for i := 0; i+1 < len(front); i++ {
		if front[i].edge == front[i+1].edge {
			return i
		}
	}
	return -1
}

// slowRun returns the greatest number of darts, from the first one on, that are a run.
func slowRun(c api.Code, darts []dart) int {
	isRun := func(n int) bool {
		for i, d := range darts[:n] {
			l, first := c.Letters[d.end(c)], c.Letters[darts[0].end(c)]
			if l.Kind != api.Cross || l.ID != first.ID || i > 0 && turnLeft(c, d) != darts[i-1].reverse() {
				return false
			}
		}
		return true
	}
	n := len(darts)
	for !isRun(n) {
		n--
	}
	return n
}

// slowDraw returns the picture of a valid code.
func slowDraw(c api.Code) api.Picture {
	p := api.Picture{Fingers: c.Fingers, Gates: make([]int, c.Fingers+1)}
	for _, l := range c.Letters {
		if l.Kind == api.Pass {
			p.Gates[l.Gate]++
		}
	}
	turned, _ := code.Turn(c)
	p.Above, p.Below = slowRows(c), slowRows(turned)
	return p
}

// point is a point of the plane; the axis is the line y = 0.
type point struct{ x, y float64 }

// sheet is a picture that is laid out in the plane, seen from above.
type sheet struct {
	points []point
	links  [][]int        // for each point, those with which it is joined
	passes []api.Letter   // what the first points are
	over   map[int][2]int // for each point that is a crossing, two opposite points of the strand that lies over
}

func (s *sheet) add(x, y float64, from ...int) int {
	at := len(s.points)
	s.points = append(s.points, point{x, y})
	s.links = append(s.links, nil)
	for _, other := range from {
		s.links[at] = append(s.links[at], other)
		s.links[other] = append(s.links[other], at)
	}
	return at
}

// lay lays rows out, on the side of the axis that y says. It reports whether they are possible and leave no strand.
func (s *sheet) lay(rows []api.Row, y float64) bool {
	var front []int
	for i := range s.passes {
		front = append(front, i)
	}
	for number, row := range rows {
		isCap := row.Kind == api.RowCap && row.In == 0 && !row.Over
		isCross := row.Kind == api.RowCross && row.In > 0 && row.In < 5
		in, made := row.In, 4-row.In
		if isCap {
			in, made = 2, 0
		}
		if !isCap && !isCross || row.At < 0 || row.At >= len(front) || row.At+in > len(front) {
			return false
		}
		height := y * float64(number+1)
		taken := front[row.At : row.At+in]
		center := s.add(float64(row.At)+float64(in-1)/2, height, taken...)
		var next []int
		for i, from := range front[:row.At] {
			next = append(next, s.add(float64(i), height+y/2, from))
		}
		for range made {
			next = append(next, s.add(float64(len(next)), height+y/2, center))
		}
		for _, from := range front[row.At+in:] {
			next = append(next, s.add(float64(len(next)), height+y/2, from))
		}
		if isCross {
			strand := 0
			if row.Over != (y > 0) {
				strand = 1
			}
			around := s.around(center)
			first := slices.Index(around, taken[0]) + strand
			s.over[center] = [2]int{around[first%4], around[(first+2)%4]}
		}
		front = next
	}
	return len(front) == 0
}

// around returns the points that are joined with a point, counterclockwise.
func (s *sheet) around(at int) []int {
	angle := func(i int) float64 {
		return math.Atan2(s.points[i].y-s.points[at].y, s.points[i].x-s.points[at].x)
	}
	l := slices.Clone(s.links[at])
	slices.SortFunc(l, func(a, b int) int {
		if angle(a) < angle(b) {
			return -1
		}
		return 1
	})
	return l
}

// trace travels along the string of a sheet, down through the first pass, and measures what it meets.
func (s *sheet) trace() []api.Letter {
	at, from := 0, s.links[0][0]
	if s.points[from].y < 0 {
		from = s.links[0][1]
	}
	first, start := at, from
	names := map[int]int{}
	entered := map[int]map[bool]int{} // for each crossing and each of its strands, from where it was entered
	var centers []int
	var letters []api.Letter
	for {
		around := s.around(at)
		opposite := around[(slices.Index(around, from)+len(around)/2)%len(around)]
		strands, isCross := s.over[at]
		switch {
		case at < len(s.passes):
			letters, centers = append(letters, s.passes[at]), append(centers, at)
		case isCross:
			over := slices.Contains(strands[:], from)
			if names[at] == 0 {
				names[at] = len(names) + 1
				entered[at] = map[bool]int{}
			}
			entered[at][over] = from
			letters, centers = append(letters, api.Letter{Kind: api.Cross, ID: names[at], Over: over}), append(centers, at)
		}
		at, from = opposite, at
		if at == first && from == start {
			break
		}
	}
	for i, center := range centers {
		if letters[i].Kind != api.Cross {
			continue
		}
		// Who comes from the first one of four points that are in counterclockwise order has the second one to the right.
		around := s.around(center)
		right := around[(slices.Index(around, entered[center][true])+1)%4]
		letters[i].Sign = -1
		if entered[center][false] == right {
			letters[i].Sign = 1
		}
	}
	return letters
}

// slowRead lays a picture out, whose numbers of passes and crossings must be within their bounds, and reads its code.
func slowRead(p api.Picture) (api.Code, bool) {
	s := sheet{over: map[int][2]int{}}
	for gate, n := range p.Gates {
		for rank := range n {
			s.passes = append(s.passes, api.Letter{Kind: api.Pass, Gate: gate, Rank: rank + 1})
			s.add(float64(len(s.points)), 0)
		}
	}
	if !s.lay(p.Above, 1) || !s.lay(p.Below, -1) {
		return api.Code{}, false
	}
	c := api.Code{Fingers: p.Fingers}
	if len(s.passes) == 0 {
		return c, true
	}
	c.Letters = s.trace()
	return c, len(c.Letters) == len(s.passes)+2*len(s.over)
}

// slowGrid writes the lines of a picture that can be read.
func slowGrid(p api.Picture) []string {
	side := func(rows []api.Row, arch byte) []string {
		front := 0
		for _, n := range p.Gates {
			front += n
		}
		var lines []string
		for _, row := range rows {
			line := ""
			last, sign := row.At+row.In-1, arch
			if row.Kind == api.RowCap {
				last = row.At + 1
			} else if row.Over {
				sign = '+'
			} else {
				sign = '-'
			}
			for i := range front {
				if i > 0 {
					line += " "
				}
				if i >= row.At && i <= last {
					line += string(sign)
				} else {
					line += "|"
				}
			}
			lines = append(lines, line)
			if row.Kind == api.RowCap {
				front -= 2
			} else {
				front += 4 - 2*row.In
			}
		}
		return lines
	}
	above, axis := side(p.Above, '^'), ""
	for gate, n := range p.Gates {
		if gate > 0 {
			axis += " " + strconv.Itoa(gate)
		}
		for range n {
			axis += " |"
		}
	}
	slices.Reverse(above)
	if axis != "" {
		axis = axis[1:]
	}
	return slices.Concat(above, []string{axis}, side(p.Below, 'v'))
}

// orders returns all orders of some operations.
func orders(ops []api.Op) [][]api.Op {
	if len(ops) == 0 {
		return [][]api.Op{nil}
	}
	var all [][]api.Op
	for i, first := range ops {
		for _, rest := range orders(slices.Concat(ops[:i], ops[i+1:])) {
			all = append(all, append([]api.Op{first}, rest...))
		}
	}
	return all
}

// slowTogether follows the definition of operations that are done together, for a frame and a posed code.
func slowTogether(s scene, ops []api.Op) (api.Code, api.Errno) {
	if len(ops) > 4 {
		return api.Code{}, api.ErrArg
	}
	hands := map[string]bool{}
	for _, op := range ops {
		if op.Finger < 1 || op.Finger > s.c.Fingers {
			return api.Code{}, api.ErrArg
		}
		f := s.fr.Fingers[op.Finger-1]
		name := strconv.Itoa(f.Person) + strconv.FormatBool(f.Right)
		if hands[name] {
			return api.Code{}, api.ErrArg
		}
		hands[name] = true
	}
	want, _, e := hand.Run(s.fr, s.c, ops...)
	if e != api.OK {
		return api.Code{}, e
	}
	for _, order := range orders(ops) {
		other, _, e := hand.Run(s.fr, s.c, order...)
		if e != api.OK {
			return api.Code{}, api.ErrReach
		}
		if same, _ := code.Same(other, want); !same {
			return api.Code{}, api.ErrReach
		}
	}
	return want, api.OK
}
