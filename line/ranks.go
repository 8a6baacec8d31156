package line

import (
	"cmp"

	"catscradle/api"
)

// Ranks returns the ranks of a reduced word: the places of its letters within their gates, if the curve does not cross itself.
func Ranks(w []int) ([]int, api.Errno) {
	if e := check(api.MaxFingers, w); e != api.OK {
		return nil, e
	}
	if !Reduced(w) {
		return nil, api.ErrArg
	}
	// Without crossings, the strands leave only one order to each gate. If some word has ranks, they are these; whether they are ranks must still be tested.
	ranks, parted := onlyRanks(w)
	if !parted || !drawn(positions(w, ranks)) {
		return nil, api.ErrNone
	}
	return ranks, api.OK
}

// onlyRanks returns, for each letter of a reduced word, one more than the number of letters of its gate that must lie to its left, and whether all strands part. These are the numbers from 1 on for each gate, because order compares strands as lexicographic order does: where they part.
func onlyRanks(w []int) ([]int, bool) {
	ranks := make([]int, len(w))
	parted := true
pairs:
	for p := range w {
		ranks[p]++
		for q := range p {
			if w[p] != w[q] {
				continue
			}
			switch order(w, p, q) {
			case -1:
				ranks[q]++
			case 1:
				ranks[p]++
			default:
				parted = false
				break pairs
			}
		}
	}
	return ranks, parted
}

// order returns -1 if the letter p must lie to the left of the letter q of the same gate, 1 if it must lie to its right, and 0 if their strands never part. It follows both strands, below the axis at first: arcs between the same gates are nested, so that the order changes with each of them, until one strand turns off before the other one.
func order(w []int, p, q int) int {
	side := 1
	for i := 1; i < len(w); i++ {
		from, one, two := along(w, p, i-1), along(w, p, i), along(w, q, i)
		if one != two {
			return side * cmp.Compare(ahead(from, two), ahead(from, one))
		}
		side = -side
	}
	return 0
}

// ahead returns how far a gate lies to the right of another one, where the axis is a circle that is closed far away. Of two strands side by side that do not cross, the right one leads to the gate that is less far ahead.
func ahead(from, to int) int {
	gates := api.MaxFingers + 1
	return (to - from + gates) % gates
}

// positions returns numbers that are ordered as the letters are on the axis: by gates, and within a gate by ranks.
func positions(w, ranks []int) []int {
	result := make([]int, len(w))
	for i, gate := range w {
		result[i] = gate*(api.MaxLetters+1) + ranks[i]
	}
	return result
}

// drawn reports whether neither two lower nor two upper arcs cross.
func drawn(at []int) bool {
	return !tangled(arcs(at, 0)) && !tangled(arcs(at, 1))
}

// arc is an arc from its left end to its right end.
type arc struct{ left, right int }

// arcs returns the arcs that join each second position, from the first one on, with the next one.
func arcs(at []int, first int) []arc {
	var result []arc
	for i := first; i < len(at); i += 2 {
		one, two := at[i], at[(i+1)%len(at)]
		result = append(result, arc{min(one, two), max(one, two)})
	}
	return result
}

// tangled reports whether two of the arcs cross.
func tangled(l []arc) bool {
	for i, a := range l {
		for _, b := range l[:i] {
			if a.within(b.left) != a.within(b.right) {
				return true
			}
		}
	}
	return false
}

// within reports whether a position lies between the ends of an arc.
func (a arc) within(at int) bool {
	return a.left < at && at < a.right
}
