package sign

import (
	"maps"
	"slices"
	"strings"

	"catscradle/api"
	"catscradle/line"
)

// maxCoeffs is the greatest number of coefficients of a list of terms. They fill the greatest result of a single call that the document promises, of 2^31 - 1 bytes.
const maxCoeffs = (1<<31 - 1) / 8

// sum is a sum of products, each of which has its printed words as its key.
type sum map[string]product

// product is a product of words, in their order, and a polynomial.
type product struct {
	words  [][]int
	factor polynomial[int]
}

// add adds a product of words, in any order, and a polynomial. The words are kept, but not changed.
func (s sum) add(words [][]int, factor polynomial[int]) {
	slices.SortFunc(words, compareWords)
	key := printWords(words)
	s[key] = product{words, add(s[key].factor, factor)}
}

// terms returns a sum as a proper list of terms; ErrLong if it has too many coefficients.
func (s sum) terms() ([]api.Term, api.Errno) {
	keys := slices.SortedFunc(maps.Keys(s), func(a, b string) int { return compareLists(s[a].words, s[b].words) })
	var l []api.Term
	room := maxCoeffs
	for _, key := range keys {
		p := s[key].factor
		if len(p) == 0 {
			continue
		}
		coeffs, ok := p.coeffs(room)
		if !ok {
			return nil, api.ErrLong
		}
		room -= len(coeffs)
		l = append(l, api.Term{Words: copied(s[key].words), Low: p[0].exponent, Coeffs: coeffs})
	}
	return l, api.OK
}

// change returns a proper list in which each word and each polynomial is changed, as a proper list again. A word that becomes empty becomes a factor.
func change(l []api.Term, word func([]int) []int, factor func(polynomial[int]) polynomial[int]) ([]api.Term, api.Errno) {
	total := sum{}
	for _, t := range l {
		p := factor(of(t))
		var words [][]int
		for _, w := range t.Words {
			if changed := word(w); len(changed) > 0 {
				words = append(words, changed)
			} else {
				p = p.looped()
			}
		}
		total.add(words, p)
	}
	return total.terms()
}

// copied returns words that share no memory with each other or with the given ones.
func copied(words [][]int) [][]int {
	var result [][]int
	for _, w := range words {
		result = append(result, slices.Clone(w))
	}
	return result
}

// printWords returns words as a string.
func printWords(words [][]int) string {
	if len(words) == 0 {
		return "-"
	}
	var parts []string
	for _, w := range words {
		parts = append(parts, line.Print(w))
	}
	return strings.Join(parts, ",")
}
