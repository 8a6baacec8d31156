package line

import (
	"iter"
	"slices"

	"catscradle/api"
)

// Words returns an iterator over all normal forms of n letters that are valid for k fingers, in lexicographic order.
func Words(k, n int) iter.Seq[[]int] {
	return func(yield func([]int) bool) {
		if k < 0 || k > api.MaxFingers || n < 0 || n%2 != 0 || n > api.MaxLetters {
			return
		}
		if n == 0 {
			yield([]int{})
			return
		}
		g := grower{last: k, length: n, yield: yield}
		for down := range k + 1 {
			for up := down + 1; up <= k; up++ {
				g.word = []int{down, up}
				if !g.grow(2) {
					return
				}
			}
		}
	}
}

// grower lengthens the beginning of a normal form by two letters at a time.
type grower struct {
	last   int
	length int
	word   []int
	yield  func([]int) bool
}

// grow yields all normal forms with the beginning that the word is, and reports whether more of them are wanted. The beginning repeats its first letters, as many as the period says; the last repetition may be cut off. No rotation that starts within the beginning is less than it, as far as it goes.
func (g *grower) grow(period int) bool {
	at := len(g.word)
	if at == g.length {
		// A repetition that is cut off makes the rotation less that starts with it. The word must also be reduced where it closes.
		if at%period != 0 || g.word[at-1] == g.word[0] {
			return true
		}
		return g.yield(slices.Clone(g.word))
	}
	for down := g.word[at-period]; down <= g.last; down++ {
		for up := range g.last + 1 {
			g.word = append(g.word[:at], down, up)
			repeats := slices.Compare(g.word[at:], g.word[at-period:at-period+2])
			if repeats < 0 || !g.hopeful() {
				continue
			}
			next := period
			if repeats > 0 {
				next = at + 2
			}
			if !g.grow(next) {
				return false
			}
		}
	}
	return true
}

// hopeful reports whether the last two letters of the word differ from each other and from the letter before them, and the reverse that starts with the last letter is not less than the word. That is known before the word is complete, because a reduced word differs from its reverse in the first half.
func (g *grower) hopeful() bool {
	last := len(g.word) - 1
	if g.word[last] == g.word[last-1] || g.word[last-1] == g.word[last-2] {
		return false
	}
	for i, gate := range g.word {
		if back := g.word[last-i]; back != gate {
			return back > gate
		}
	}
	return true
}
