package ease

import (
	"cmp"
	"slices"

	"catscradle/api"
)

// Compare compares two codes.
func Compare(a, b api.Code) int {
	return cmp.Or(
		cmp.Compare(a.Fingers, b.Fingers),
		cmp.Compare(visits(a), visits(b)),
		cmp.Compare(len(a.Letters), len(b.Letters)),
		slices.CompareFunc(a.Letters, b.Letters, compareLetters),
	)
}

// Least returns the index of the least code.
func Least(l ...api.Code) int {
	least := -1
	for i, c := range l {
		if least < 0 || Compare(c, l[least]) < 0 {
			least = i
		}
	}
	return least
}

// visits returns the number of letters of the kind Cross.
func visits(c api.Code) int {
	n := 0
	for _, l := range c.Letters {
		if l.Kind == api.Cross {
			n++
		}
	}
	return n
}

// compareLetters compares two letters field by field.
func compareLetters(a, b api.Letter) int {
	return cmp.Or(
		cmp.Compare(a.Kind, b.Kind),
		cmp.Compare(a.Gate, b.Gate),
		cmp.Compare(a.Rank, b.Rank),
		cmp.Compare(a.ID, b.ID),
		cmp.Compare(number(a.Over), number(b.Over)),
		cmp.Compare(a.Sign, b.Sign),
	)
}

// number returns the place of a truth value in the order: false comes before true.
func number(is bool) int {
	if is {
		return 1
	}
	return 0
}
