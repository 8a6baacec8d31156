package line

import (
	"slices"

	"catscradle/api"
)

// Reverse returns the word of the curve that is traveled in the opposite direction.
func Reverse(w []int) ([]int, api.Errno) {
	if e := check(api.MaxFingers, w); e != api.OK {
		return nil, e
	}
	result := slices.Clone(w)
	slices.Reverse(result)
	return result, api.OK
}

// Mirror returns the word of the curve that is reflected left to right.
func Mirror(k int, w []int) ([]int, api.Errno) {
	if e := check(k, w); e != api.OK {
		return nil, e
	}
	result := make([]int, len(w))
	for i, gate := range w {
		result[i] = k - gate
	}
	return result, api.OK
}

// Turn returns the word of the curve that is reflected top to bottom.
func Turn(w []int) ([]int, api.Errno) {
	if e := check(api.MaxFingers, w); e != api.OK {
		return nil, e
	}
	if len(w) == 0 {
		return nil, api.OK
	}
	return slices.Concat(w[1:], w[:1]), api.OK
}

// Forget returns the normal form of a word for k fingers after finger f is taken away.
func Forget(k int, w []int, f int) ([]int, api.Errno) {
	if e := check(k, w); e != api.OK {
		return nil, e
	}
	if f < 1 || f > k {
		return nil, api.ErrArg
	}
	rest := slices.Clone(w)
	for i, gate := range w {
		if gate >= f {
			rest[i] = gate - 1
		}
	}
	return Normal(rest)
}

// Circle returns the word of a curve around the fingers i to j.
func Circle(i, j int) ([]int, api.Errno) {
	if i < 1 || i > j || j > api.MaxFingers {
		return nil, api.ErrArg
	}
	return []int{i - 1, j}, api.OK
}
