package line_test

import (
	"math/rand"
	"slices"
	"testing"

	"catscradle/api"
	"catscradle/line"
)

func list(w ...int) []int { return w }

// fill returns a list of n equal elements.
func fill(n, x int) []int { return slices.Repeat([]int{x}, n) }

// want reports a result that is not the expected one; with an error, the result must be empty.
func want(t *testing.T, name string, got []int, e api.Errno, result []int, err api.Errno) {
	t.Helper()
	if e != err || !slices.Equal(got, result) {
		t.Errorf("%s: %v, %d instead of %v, %d", name, got, e, result, err)
	}
}

// normal returns the normal form of a word that must have one.
func normal(t *testing.T, w []int) []int {
	t.Helper()
	result, e := line.Normal(w)
	if e != api.OK {
		t.Fatalf("Normal(%v): %d", w, e)
	}
	return result
}

// lists returns all lists of n letters from 0 to k, in lexicographic order.
func lists(k, n int) [][]int {
	if n == 0 {
		return [][]int{nil}
	}
	var all [][]int
	for _, short := range lists(k, n-1) {
		for letter := range k + 1 {
			all = append(all, append(slices.Clone(short), letter))
		}
	}
	return all
}

// samples returns words for 4 fingers: all short ones of few gates, and some longer ones that are partly not reduced.
func samples() [][]int {
	all := slices.Concat(lists(4, 2), lists(2, 4), lists(1, 6), [][]int{nil})
	r := rand.New(rand.NewSource(7))
	for range 600 {
		w := make([]int, 2*r.Intn(15))
		for i := range w {
			w[i] = r.Intn(5)
		}
		all = append(all, w, padded(r, w))
	}
	return all
}

// padded returns a word into which pairs of equal letters are put.
func padded(r *rand.Rand, w []int) []int {
	for range r.Intn(6) {
		letter := r.Intn(5)
		w = slices.Insert(slices.Clone(w), r.Intn(len(w)+1), letter, letter)
	}
	return w
}
