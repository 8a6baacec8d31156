package move

import (
	"slices"

	"catscradle/api"
	"catscradle/code"
)

func (b *board) loopCuts(a int) []api.Move {
	p, q := b.letters(a)
	if p.Kind != api.Cross || q.Kind != api.Cross || p.ID != q.ID {
		return nil
	}
	return []api.Move{{Kind: api.LoopCut, A: a}}
}

func (b *board) cutLoop(m api.Move) []step {
	return uncross(b.steps(), b.Letters[m.A].ID)
}

func (b *board) loopMakes(a int) []api.Move {
	var moves []api.Move
	for _, over := range [2]bool{false, true} {
		for _, sign := range [2]int{-1, 1} {
			moves = append(moves, api.Move{Kind: api.LoopMake, A: a, Over: over, Sign: sign})
		}
	}
	return moves
}

func (b *board) makeLoop(m api.Move) []step {
	id := code.Crossings(b.Code) + 1
	return insert(b.steps(), m.A+1, visit(id, m.Over, m.Sign), visit(id, !m.Over, m.Sign))
}

func (b *board) pairCuts(a int) []api.Move {
	var moves []api.Move
	for _, ring := range b.rings(a, 2, 0) {
		if b.parts(ring[0], ring[1]) {
			moves = append(moves, api.Move{Kind: api.PairCut, A: ring[0], B: ring[1]})
		}
	}
	return moves
}

// parts reports whether two edges join the same two crossings, one edge over the other one, and have no end that an edge joins to an end of the other one.
func (b *board) parts(one, two int) bool {
	p, q := b.letters(one)
	r, s := b.letters(two)
	if p.Kind != api.Cross || q.Kind != api.Cross || r.Kind != api.Cross || s.Kind != api.Cross {
		return false
	}
	crossings := p.ID == r.ID && q.ID == s.ID || p.ID == s.ID && q.ID == r.ID
	over := p.Over == q.Over && r.Over == s.Over && p.Over != r.Over
	n := len(b.Letters)
	return crossings && over && (one+2)%n != two && (two+2)%n != one
}

func (b *board) cutPair(m api.Move) []step {
	p, q := b.letters(m.A)
	return uncross(b.steps(), p.ID, q.ID)
}

func (b *board) pairMakes(a int) []api.Move {
	var moves []api.Move
	for _, left := range [2]bool{false, true} {
		for _, dart := range b.beside(a, left).Darts {
			if dart/2 == a {
				continue
			}
			for _, over := range [2]bool{false, true} {
				moves = append(moves, api.Move{Kind: api.PairMake, A: a, B: dart / 2, Left: left, Over: over})
			}
		}
	}
	slices.SortFunc(moves, order)
	return moves
}

func (b *board) makePair(m api.Move) []step {
	sameSide := b.side(m.A, m.Left) == b.side(m.B, m.Left)
	sign := -1
	if (m.Over == sameSide) == m.Left {
		sign = 1
	}
	id := code.Crossings(b.Code) + 1
	x, y := visit(id, m.Over, sign), visit(id+1, m.Over, -sign)
	first, second := visit(id, !m.Over, sign), visit(id+1, !m.Over, -sign)
	if sameSide {
		first, second = second, first
	}
	// The letters after the greater edge come first, so that the indexes before it stay.
	if m.A > m.B {
		return insert(insert(b.steps(), m.A+1, x, y), m.B+1, first, second)
	}
	return insert(insert(b.steps(), m.B+1, first, second), m.A+1, x, y)
}

func (b *board) triangles(a int) []api.Move {
	var moves []api.Move
	for _, ring := range b.rings(a, 3, 0) {
		if b.lie(ring) {
			moves = append(moves, api.Move{Kind: api.Triangle, A: ring[0], B: ring[1], C: ring[2]})
		}
	}
	return moves
}

// lie reports whether three edges have all visits of three crossings at their ends, and one edge lies over the others, and another one under them.
func (b *board) lie(ring []int) bool {
	visits, crossings := map[api.Letter]bool{}, map[int]bool{}
	top, bottom := false, false
	for _, edge := range ring {
		p, q := b.letters(edge)
		if p.Kind != api.Cross || q.Kind != api.Cross {
			return false
		}
		visits[p], visits[q] = true, true
		crossings[p.ID], crossings[q.ID] = true, true
		top = top || p.Over && q.Over
		bottom = bottom || !p.Over && !q.Over
	}
	return len(visits) == 6 && len(crossings) == 3 && top && bottom
}

func (b *board) turnTriangle(m api.Move) []step {
	return b.exchange(b.steps(), m.A, m.B, m.C)
}
