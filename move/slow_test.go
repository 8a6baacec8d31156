package move_test

import (
	"slices"
	"testing"

	"catscradle/api"
	"catscradle/code"
	"catscradle/move"
)

// slow is a code, and what the table of moves needs to know of it.
type slow struct {
	c     api.Code
	n     int
	faces []api.Face
}

func newSlow(t *testing.T, c api.Code) slow {
	t.Helper()
	return slow{c, len(c.Letters), must[[]api.Face](t)(code.Faces(c))}
}

func (s slow) letter(i int) api.Letter { return s.c.Letters[i%s.n] }

func (s slow) isPass(i int) bool { return s.letter(i).Kind == api.Pass }

// passes returns the number of passes of a gate.
func (s slow) passes(gate int) int {
	n := 0
	for _, l := range s.c.Letters {
		if l.Kind == api.Pass && l.Gate == gate {
			n++
		}
	}
	return n
}

// face returns the face with a dart.
func (s slow) face(dart int) api.Face {
	return s.faces[slices.IndexFunc(s.faces, func(f api.Face) bool { return slices.Contains(f.Darts, dart) })]
}

// bounded reports whether a face has exactly one dart of each of some edges, and so many places.
func (s slow) bounded(places int, edges ...int) bool {
	return slices.ContainsFunc(s.faces, func(f api.Face) bool {
		for _, e := range edges {
			if slices.Contains(f.Darts, 2*e) == slices.Contains(f.Darts, 2*e+1) {
				return false
			}
		}
		return len(f.Darts) == len(edges) && len(f.Places) == places
	})
}

// possible reports whether a move is possible, with fields that are in their ranges.
func (s slow) possible(m api.Move) bool {
	p, q := s.letter(m.A), s.letter(m.A+1)
	switch m.Kind {
	case api.AxisCut:
		if !s.isPass(m.A) || !s.isPass(m.A+1) || p.Gate != q.Gate {
			return false
		}
		return (p.Rank-q.Rank)*(p.Rank-q.Rank) == 1 && (code.Passes(s.c) > 2 || code.Crossings(s.c) == 0)
	case api.AxisMake:
		return slices.ContainsFunc(s.faces, func(f api.Face) bool {
			edge := slices.Contains(f.Darts, 2*m.A) || slices.Contains(f.Darts, 2*m.A+1)
			return edge && slices.Contains(f.Places, api.Place{Gate: m.B, Left: m.C})
		})
	case api.AxisSlide:
		for _, i := range []int{m.A, m.A + 1} {
			for _, j := range []int{m.B, m.B + 1} {
				p, x := s.letter(i), s.letter(2*m.A+1-i)
				q, y := s.letter(j), s.letter(2*m.B+1-j)
				passes := p.Kind == api.Pass && q.Kind == api.Pass
				crosses := x.Kind == api.Cross && y.Kind == api.Cross && x.ID == y.ID && x.Over != y.Over
				if passes && crosses && s.bounded(1, m.A, m.B) {
					return true
				}
			}
		}
		return false
	case api.LoopCut:
		return !s.isPass(m.A) && !s.isPass(m.A+1) && p.ID == q.ID
	case api.LoopMake:
		return true
	}
	return s.possibleOfMore(m)
}

func (s slow) possibleOfMore(m api.Move) bool {
	p, q := s.letter(m.A), s.letter(m.A+1)
	switch m.Kind {
	case api.PairCut:
		r, o := s.letter(m.B), s.letter(m.B+1)
		for _, l := range []api.Letter{p, q, r, o} {
			if l.Kind != api.Cross {
				return false
			}
		}
		crossings := p.ID == r.ID && q.ID == o.ID || p.ID == o.ID && q.ID == r.ID
		levels := p.Over == q.Over && r.Over == o.Over && p.Over != r.Over
		joined := m.B-m.A == 2 || m.A+s.n-m.B == 2
		return crossings && levels && !joined && s.bounded(0, m.A, m.B)
	case api.PairMake:
		dart := 2*m.A + 1
		if m.Left {
			dart = 2 * m.A
		}
		f := s.face(dart)
		return slices.Contains(f.Darts, 2*m.B) || slices.Contains(f.Darts, 2*m.B+1)
	case api.Triangle:
		levels, visits := map[string]int{}, map[int]int{}
		for _, e := range []int{m.A, m.B, m.C} {
			i, j := s.letter(e), s.letter(e+1)
			if i.Kind != api.Cross || j.Kind != api.Cross {
				return false
			}
			visits[i.ID]++
			visits[j.ID]++
			levels[map[bool]string{true: "o", false: "u"}[i.Over]+map[bool]string{true: "o", false: "u"}[j.Over]]++
		}
		different := m.A+1 != m.B && m.B+1 != m.C && (m.C+1)%s.n != m.A
		for _, n := range visits {
			different = different && n == 2
		}
		return different && levels["oo"] > 0 && levels["uu"] > 0 && s.bounded(0, m.A, m.B, m.C)
	case api.TipRight:
		return s.isPass(m.A) && p.Gate < s.c.Fingers && p.Rank == s.passes(p.Gate)
	}
	return s.isPass(m.A) && p.Gate > 0 && p.Rank == 1
}

// letterAt is a letter with the direction of a pass: d, u or nothing.
type letterAt struct {
	api.Letter
	direction string
}

// apply does what the table says of a possible move: letters are marked to be left out, or followed by others, or put elsewhere.
func (s slow) apply(m api.Move) api.Code {
	out, after := map[int]bool{}, map[int][]letterAt{}
	from := make([]int, s.n)
	letters := make([]letterAt, s.n)
	directions := []string{"u", "d"}
	passes := 0
	for i, l := range s.c.Letters {
		from[i] = i
		letters[i] = letterAt{l, ""}
		if l.Kind == api.Pass {
			passes++
			letters[i].direction = directions[passes%2]
		}
	}
	switch m.Kind {
	case api.AxisCut:
		out[m.A], out[(m.A+1)%s.n] = true, true
		s.rank(letters, letters[m.A].Gate, max(letters[m.A].Rank, letters[(m.A+1)%s.n].Rank), -2)
	case api.AxisMake:
		after[m.A] = s.newPasses(letters, m)
		s.rank(letters, m.B, m.C, 2)
	case api.LoopCut, api.PairCut:
		for i, l := range s.c.Letters {
			out[i] = l.Kind == api.Cross && (l.ID == s.letter(m.A).ID || l.ID == s.letter(m.A+1).ID)
		}
		s.renumber(letters, s.letter(m.A).ID, s.letter(m.A+1).ID)
	case api.LoopMake:
		id := code.Crossings(s.c) + 1
		after[m.A] = []letterAt{{cross(id, m.Over, m.Sign), ""}, {cross(id, !m.Over, m.Sign), ""}}
	case api.PairMake:
		s.pair(after, m)
	case api.TipRight:
		s.rank(letters, letters[m.A].Gate+1, 0, 1)
		letters[m.A].Gate, letters[m.A].Rank = letters[m.A].Gate+1, 1
	case api.TipLeft:
		s.rank(letters, letters[m.A].Gate, 1, -1)
		letters[m.A].Gate, letters[m.A].Rank = letters[m.A].Gate-1, s.passes(letters[m.A].Gate-1)+1
	default:
		s.put(letters, from, m)
	}
	var list []letterAt
	for i := range from {
		if !out[i] {
			list = append(list, letters[from[i]])
		}
		list = append(list, after[i]...)
	}
	result := api.Code{Fingers: s.c.Fingers}
	for len(list) > 0 && list[0].direction != "d" {
		list = append(list[1:], list[0])
	}
	for _, l := range list {
		result.Letters = append(result.Letters, l.Letter)
	}
	return result
}

// rank changes the ranks of a gate that are greater than one.
func (s slow) rank(letters []letterAt, gate, above, by int) {
	for i, l := range s.c.Letters {
		if l.Kind == api.Pass && l.Gate == gate && l.Rank > above {
			letters[i].Rank = l.Rank + by
		}
	}
}

// renumber closes the gaps in the IDs that one or two crossings leave.
func (s slow) renumber(letters []letterAt, one, two int) {
	for i, l := range s.c.Letters {
		if l.ID > one {
			letters[i].ID--
		}
		if l.ID > two && one != two {
			letters[i].ID--
		}
	}
}

// newPasses returns the passes that are inserted into an edge.
func (s slow) newPasses(letters []letterAt, m api.Move) []letterAt {
	low, high := letterAt{pass(m.B, m.C+1), ""}, letterAt{pass(m.B, m.C+2), ""}
	place := api.Place{Gate: m.B, Left: m.C}
	left := slices.Contains(s.face(2*m.A).Places, place)
	above := s.face(2 * m.A).Above
	first, second := high, low
	if !above && left || above && !left {
		first, second = low, high
	}
	// The next pass says on which side of the axis the edge lies.
	next := m.A + 1
	for !s.isPass(next) {
		next++
	}
	first.direction = letters[next%s.n].direction
	second.direction = map[string]string{"d": "u", "u": "d"}[first.direction]
	return []letterAt{first, second}
}

// pair notes the visits of two new crossings.
func (s slow) pair(after map[int][]letterAt, m api.Move) {
	dart := 2*m.A + 1
	if m.Left {
		dart = 2 * m.A
	}
	leftOfB := slices.Contains(s.face(dart).Darts, 2*m.B)
	sameSide := leftOfB == m.Left
	sign := 1
	for _, changed := range []bool{!m.Over, !m.Left, !sameSide} {
		if changed {
			sign = -sign
		}
	}
	id := code.Crossings(s.c) + 1
	x, y := letterAt{cross(id, m.Over, sign), ""}, letterAt{cross(id+1, m.Over, -sign), ""}
	after[m.A] = []letterAt{x, y}
	x.Over, y.Over = !m.Over, !m.Over
	if sameSide {
		after[m.B] = []letterAt{y, x}
	} else {
		after[m.B] = []letterAt{x, y}
	}
}

// put notes which letters exchange their positions, and lets passes exchange their ranks.
func (s slow) put(letters []letterAt, from []int, m api.Move) {
	var ranks []int
	edges := []int{m.A, m.B}
	if m.Kind == api.Triangle {
		edges = append(edges, m.C)
	}
	for _, e := range edges {
		i, j := e, (e+1)%s.n
		from[i], from[j] = j, i
		ranks = append(ranks, s.c.Letters[i].Rank+s.c.Letters[j].Rank)
	}
	for i, e := range edges {
		for _, j := range []int{e, (e + 1) % s.n} {
			if m.Kind == api.AxisSlide && letters[j].Kind == api.Pass {
				letters[j].Rank = ranks[1-i]
			}
		}
	}
}

// slowMoves returns all moves whose fields are in their ranges, in order.
func (s slow) moves() []api.Move {
	var all []api.Move
	add := func(m api.Move) { all = append(all, m) }
	for _, k := range allKinds {
		for a := range s.n {
			switch k {
			case api.AxisMake:
				for gate := range s.c.Fingers + 1 {
					for left := range s.passes(gate) + 1 {
						add(api.Move{Kind: k, A: a, B: gate, C: left})
					}
				}
			case api.AxisSlide, api.PairCut:
				for b := a + 1; b < s.n; b++ {
					add(api.Move{Kind: k, A: a, B: b})
				}
			case api.LoopMake:
				for _, over := range []bool{false, true} {
					add(api.Move{Kind: k, A: a, Over: over, Sign: -1})
					add(api.Move{Kind: k, A: a, Over: over, Sign: 1})
				}
			case api.PairMake:
				for b := range s.n {
					for i := range 4 {
						if a != b {
							add(api.Move{Kind: k, A: a, B: b, Left: i > 1, Over: i%2 == 1})
						}
					}
				}
			case api.Triangle:
				for b := a + 1; b < s.n; b++ {
					for c := b + 1; c < s.n; c++ {
						add(api.Move{Kind: k, A: a, B: b, C: c})
					}
				}
			default:
				add(api.Move{Kind: k, A: a})
			}
		}
	}
	return all
}

// P3.1, P3.2: All returns the moves that the table says, Apply does what it says, and refuses all other moves.
func TestTable(t *testing.T) {
	done := map[api.MoveKind]int{}
	for _, c := range samples(18) {
		if len(c.Letters) == 0 {
			continue
		}
		s := newSlow(t, c)
		var possible []api.Move
		for _, m := range s.moves() {
			got, e := move.Apply(c, m)
			if !s.possible(m) {
				if e != api.ErrMove || !equal(got, api.Code{}) {
					t.Fatalf("Apply(%s, %s): %s, %d", code.Print(c), move.Print(m), code.Print(got), e)
				}
				continue
			}
			possible = append(possible, m)
			done[m.Kind]++
			if want := s.apply(m); e != api.OK || !equal(got, want) {
				t.Fatalf("Apply(%s, %s): %s, %d instead of %s", code.Print(c), move.Print(m), code.Print(got), e, code.Print(want))
			}
			if e := code.Check(got); e != api.OK {
				t.Fatalf("Apply(%s, %s): %s is not valid", code.Print(c), move.Print(m), code.Print(got))
			}
		}
		if all := must[[]api.Move](t)(move.All(c)); !slices.Equal(all, possible) {
			t.Fatalf("All(%s): %s instead of %s", code.Print(c), show(all), show(possible))
		}
	}
	for _, k := range allKinds {
		if done[k] < 20 {
			t.Errorf("only %d possible moves of the kind %s", done[k], word(k))
		}
	}

}
