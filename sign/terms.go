package sign

import (
	"cmp"
	"slices"
	"strconv"
	"strings"

	"catscradle/api"
	"catscradle/line"
)

// Proper reports whether a list of terms is proper.
func Proper(l []api.Term) bool {
	for i, t := range l {
		if !good(t) || i > 0 && compareLists(l[i-1].Words, t.Words) >= 0 {
			return false
		}
	}
	return true
}

// Equal reports whether two lists of terms are equal.
func Equal(a, b []api.Term) bool {
	return slices.EqualFunc(a, b, func(one, two api.Term) bool {
		return compareLists(one.Words, two.Words) == 0 && one.Low == two.Low && slices.Equal(one.Coeffs, two.Coeffs)
	})
}

// Print returns a list of terms as a string.
func Print(l []api.Term) string {
	var b strings.Builder
	for i, t := range l {
		if i > 0 {
			b.WriteString("; ")
		}
		b.WriteString(printWords(t.Words))
		b.WriteString(": ")
		b.WriteString(strconv.Itoa(t.Low))
		b.WriteByte(':')
		for _, n := range t.Coeffs {
			b.WriteByte(' ')
			b.WriteString(strconv.Itoa(n))
		}
	}
	return b.String()
}

// Flip replaces A by its inverse.
func Flip(l []api.Term) ([]api.Term, api.Errno) {
	if !fits(api.MaxFingers, l) {
		return nil, api.ErrArg
	}
	return change(l, slices.Clone[[]int], polynomial[int].flipped)
}

// Mirror replaces words by those of mirror images.
func Mirror(k int, l []api.Term) ([]api.Term, api.Errno) {
	if !fits(k, l) {
		return nil, api.ErrArg
	}
	// The words have been examined, so there are no errors here and below.
	return change(l, func(w []int) []int {
		mirrored, _ := line.Mirror(k, w)
		normal, _ := line.Normal(mirrored)
		return normal
	}, unchanged)
}

// Turn replaces words by turned ones.
func Turn(l []api.Term) ([]api.Term, api.Errno) {
	if !fits(api.MaxFingers, l) {
		return nil, api.ErrArg
	}
	return change(l, func(w []int) []int {
		turned, _ := line.Turn(w)
		normal, _ := line.Normal(turned)
		return normal
	}, unchanged)
}

// Forget replaces words by those without a finger.
func Forget(k int, l []api.Term, f int) ([]api.Term, api.Errno) {
	if !fits(k, l) || f < 1 || f > k {
		return nil, api.ErrArg
	}
	return change(l, func(w []int) []int {
		rest, _ := line.Forget(k, w, f)
		return rest
	}, unchanged)
}

// At replaces A by 1 or -1.
func At(l []api.Term, a int) ([]api.Term, api.Errno) {
	if !fits(api.MaxFingers, l) || a != 1 && a != -1 {
		return nil, api.ErrArg
	}
	return change(l, slices.Clone[[]int], func(p polynomial[int]) polynomial[int] { return p.at(a) })
}

// unchanged returns the same polynomial.
func unchanged(p polynomial[int]) polynomial[int] { return p }

// good reports whether a term can be one of a proper list.
func good(t api.Term) bool {
	n := len(t.Coeffs)
	if n == 0 || t.Coeffs[0] == 0 || t.Coeffs[n-1] == 0 {
		return false
	}
	for _, w := range t.Words {
		normal, e := line.Normal(w)
		if e != api.OK || len(w) == 0 || !slices.Equal(normal, w) {
			return false
		}
	}
	return slices.IsSortedFunc(t.Words, compareWords)
}

// fits reports whether a list is proper, and its words are valid for k fingers.
func fits(k int, l []api.Term) bool {
	if k < 0 || k > api.MaxFingers || !Proper(l) {
		return false
	}
	for _, t := range l {
		for _, w := range t.Words {
			if !line.Valid(k, w) {
				return false
			}
		}
	}
	return true
}

// compareWords compares two words by their lengths, and then letter by letter.
func compareWords(a, b []int) int {
	return cmp.Or(cmp.Compare(len(a), len(b)), slices.Compare(a, b))
}

// compareLists compares two lists of words by their lengths, and then word by word.
func compareLists(a, b [][]int) int {
	return cmp.Or(cmp.Compare(len(a), len(b)), slices.CompareFunc(a, b, compareWords))
}
