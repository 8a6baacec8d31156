package move

import (
	"slices"

	"catscradle/api"
	"catscradle/code"
)

// Inverse returns the move that leads back from the result of a move.
func Inverse(c api.Code, m api.Move) (api.Move, api.Errno) {
	result, e := Apply(c, m)
	if e != api.OK {
		return api.Move{}, e
	}
	back, _ := lead(result, c, Opposite(m.Kind))
	return back, api.OK
}

// Replay applies moves one after the other.
func Replay(c api.Code, l []api.Move) (api.Code, int, api.Errno) {
	return replay(c, l, func(api.Code) {})
}

// Undo returns the moves that lead back from the result of some moves.
func Undo(c api.Code, l []api.Move) ([]api.Move, api.Errno) {
	var before []api.Code
	current, _, e := replay(c, l, func(c api.Code) { before = append(before, c) })
	if e != api.OK {
		return nil, e
	}
	var moves []api.Move
	for i := len(l) - 1; i >= 0; i-- {
		var back api.Move
		back, current = lead(current, before[i], Opposite(l[i].Kind))
		moves = append(moves, back)
	}
	return moves, api.OK
}

// replay applies moves one after the other, and hands out the code before each of them.
func replay(c api.Code, l []api.Move, hand func(api.Code)) (api.Code, int, api.Errno) {
	if e := code.Check(c); e != api.OK {
		return api.Code{}, 0, e
	}
	current := api.Code{Fingers: c.Fingers, Letters: slices.Clone(c.Letters)}
	for i, m := range l {
		next, e := lay(current).apply(m)
		if e != api.OK {
			return api.Code{}, i, e
		}
		hand(current)
		current = next
	}
	return current, len(l), api.OK
}

// lead returns the first move of a kind that leads to a code that is the same as another one, and what it leads to.
func lead(from, to api.Code, kind api.MoveKind) (api.Move, api.Code) {
	var first api.Move
	var result api.Code
	b, goal := lay(from), outline(to)
search:
	for a := range b.starts() {
		for _, m := range b.find(kind, a) {
			next := b.do(m)
			// Outlines are compared first, since that takes much less time.
			if slices.Equal(outline(next), goal) && isSame(next, to) {
				first, result = m, next
				break search
			}
		}
	}
	return first, result
}

// isSame reports whether two valid codes are the same.
func isSame(one, two api.Code) bool {
	same, _ := code.Same(one, two)
	return same
}

// outline returns the letters of a code, without their IDs, as one meets them who goes down through the leftmost pass. Codes that are the same have equal outlines.
func outline(c api.Code) []api.Letter {
	first, step, down := 0, 1, true
	for i, l := range c.Letters {
		if l.Kind != api.Pass {
			continue
		}
		leftmost := c.Letters[first]
		if l.Gate < leftmost.Gate || l.Gate == leftmost.Gate && l.Rank < leftmost.Rank {
			first, step = i, -1
			if down {
				step = 1
			}
		}
		down = !down
	}
	n := len(c.Letters)
	letters := make([]api.Letter, n)
	for i := range letters {
		letters[i] = c.Letters[(first+step*i+n)%n]
		letters[i].ID = 0
	}
	return letters
}
