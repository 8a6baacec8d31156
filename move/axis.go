package move

import (
	"slices"

	"catscradle/api"
	"catscradle/code"
)

func (b *board) axisCuts(a int) []api.Move {
	p, q := b.letters(a)
	passes := p.Kind == api.Pass && q.Kind == api.Pass
	neighbors := p.Gate == q.Gate && (p.Rank == q.Rank+1 || q.Rank == p.Rank+1)
	if !passes || !neighbors || code.Passes(b.Code) == 2 && code.Crossings(b.Code) > 0 {
		return nil
	}
	return []api.Move{{Kind: api.AxisCut, A: a}}
}

func (b *board) cutAxis(m api.Move) []step {
	i, j := b.ends(m.A)
	p, q := b.Letters[i], b.Letters[j]
	list := b.steps()
	shift(list, p.Gate, max(p.Rank, q.Rank), -2)
	// The list is a circle: the later letter is removed first, so that the index of the other one stays.
	list = slices.Delete(list, max(i, j), max(i, j)+1)
	return slices.Delete(list, min(i, j), min(i, j)+1)
}

func (b *board) axisMakes(a int) []api.Move {
	var moves []api.Move
	for _, p := range b.reach(a) {
		moves = append(moves, api.Move{Kind: api.AxisMake, A: a, B: p.Gate, C: p.Left})
	}
	slices.SortFunc(moves, order)
	return moves
}

// reach returns the places on the rims of the faces beside an edge; all places for the bare loop.
func (b *board) reach(edge int) []api.Place {
	if !b.bare() {
		return slices.Concat(b.beside(edge, true).Places, b.beside(edge, false).Places)
	}
	var places []api.Place
	for gate := range b.Fingers + 1 {
		places = append(places, api.Place{Gate: gate})
	}
	return places
}

func (b *board) makeAxis(m api.Move) []step {
	low := api.Letter{Kind: api.Pass, Gate: m.B, Rank: m.C + 1}
	high := api.Letter{Kind: api.Pass, Gate: m.B, Rank: m.C + 2}
	if b.bare() {
		return []step{{low, true}, {high, false}}
	}
	left := b.beside(m.A, true)
	above := left.Above
	first, second := low, high
	if slices.Contains(left.Places, api.Place{Gate: m.B, Left: m.C}) == above {
		first, second = high, low
	}
	list := b.steps()
	shift(list, m.B, m.C, 2)
	return insert(list, m.A+1, step{first, above}, step{second, !above})
}

func (b *board) axisSlides(a int) []api.Move {
	var moves []api.Move
	for _, ring := range b.rings(a, 2, 1) {
		if b.slides(ring[0], ring[1]) {
			moves = append(moves, api.Move{Kind: api.AxisSlide, A: ring[0], B: ring[1]})
		}
	}
	return moves
}

// slides reports whether two edges lead from a pass each to the two visits of a crossing.
func (b *board) slides(one, two int) bool {
	_, x, ok := b.passAndVisit(one)
	_, y, okToo := b.passAndVisit(two)
	return ok && okToo && x != y && b.Letters[x].ID == b.Letters[y].ID
}

// passAndVisit returns the index of the pass and that of the visit of a crossing which an edge joins, if it joins such letters.
func (b *board) passAndVisit(edge int) (int, int, bool) {
	i, j := b.ends(edge)
	if b.Letters[j].Kind == api.Pass {
		i, j = j, i
	}
	return i, j, b.Letters[i].Kind == api.Pass && b.Letters[j].Kind == api.Cross
}

func (b *board) slideAxis(m api.Move) []step {
	p, _, _ := b.passAndVisit(m.A)
	q, _, _ := b.passAndVisit(m.B)
	list := b.steps()
	list[p].Rank, list[q].Rank = list[q].Rank, list[p].Rank
	return b.exchange(list, m.A, m.B)
}
