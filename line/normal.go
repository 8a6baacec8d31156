package line

import (
	"cmp"
	"slices"

	"catscradle/api"
)

// Normal returns the normal form of a word.
func Normal(w []int) ([]int, api.Errno) {
	if e := check(api.MaxFingers, w); e != api.OK {
		return nil, e
	}
	return least(reduce(w)), api.OK
}

// Same reports whether two words have equal normal forms.
func Same(a, b []int) (bool, api.Errno) {
	one, e := Normal(a)
	if e != api.OK {
		return false, e
	}
	two, e := Normal(b)
	if e != api.OK {
		return false, e
	}
	return slices.Equal(one, two), api.OK
}

// reduce returns the reduced word of a word; it begins with a letter that crosses downwards.
func reduce(w []int) []int {
	stack := make([]int, 0, len(w))
	for _, gate := range w {
		top := len(stack) - 1
		if top >= 0 && stack[top] == gate {
			stack = stack[:top]
		} else {
			stack = append(stack, gate)
		}
	}
	cut := 0
	for cut < len(stack)/2 && stack[cut] == stack[len(stack)-1-cut] {
		cut++
	}
	rest := stack[cut : len(stack)-cut]
	// Each pair of ends that is cut away changes the direction of the first letter.
	if cut%2 == 1 {
		return slices.Concat(rest[1:], rest[:1])
	}
	return rest
}

// least returns the least one among the rotations of a word and of its reverse. The rotations of the reverse are those that start at odd indexes and go backwards.
func least(w []int) []int {
	compare := func(one, two int) int {
		for i := range w {
			if order := cmp.Compare(along(w, one, i), along(w, two, i)); order != 0 {
				return order
			}
		}
		return 0
	}
	start := 0
	for other := range w {
		if compare(other, start) < 0 {
			start = other
		}
	}
	result := make([]int, len(w))
	for i := range w {
		result[i] = along(w, start, i)
	}
	return result
}
