// Package line computes with words: closed curves in the plane, described by the gates between fingers through which they cross the axis. It is layer 1.
package line

import "catscradle/api"

// Valid reports whether w is a word that is valid for k fingers.
func Valid(k int, w []int) bool {
	if k < 0 || k > api.MaxFingers || len(w) > api.MaxLetters || len(w)%2 != 0 {
		return false
	}
	for _, gate := range w {
		if gate < 0 || gate > k {
			return false
		}
	}
	return true
}

// Reduced reports whether w is a word without two equal neighbors.
func Reduced(w []int) bool {
	if !Valid(api.MaxFingers, w) {
		return false
	}
	for i, gate := range w {
		if gate == w[(i+1)%len(w)] {
			return false
		}
	}
	return true
}

// check returns the first error of a list that should be a word for k fingers.
func check(k int, w []int) api.Errno {
	if len(w) > api.MaxLetters {
		return api.ErrLong
	}
	if !Valid(k, w) {
		return api.ErrArg
	}
	return api.OK
}

// along returns the letter that a traveler reaches after some steps, if he starts at a letter and crosses the axis downwards there: forwards from an even index, backwards from an odd one. There are at most len(w) steps.
func along(w []int, start, steps int) int {
	directions := [2]int{1, -1}
	return w[(start+directions[start%2]*steps+len(w))%len(w)]
}
