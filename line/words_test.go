package line_test

import (
	"math"
	"slices"
	"testing"

	"catscradle/line"
)

// P1.7: Words yields the normal forms among all lists, in their order.
func TestWordsAreAllNormalForms(t *testing.T) {
	for _, c := range [][2]int{{0, 2}, {1, 2}, {2, 2}, {5, 2}, {1, 4}, {2, 4}, {4, 4}, {1, 10}, {2, 6}, {3, 6}, {2, 8}, {2, 10}, {3, 8}} {
		var all [][]int
		for _, w := range lists(c[0], c[1]) {
			if line.Reduced(w) && slices.Equal(normal(t, w), w) {
				all = append(all, w)
			}
		}
		var got [][]int
		for w := range line.Words(c[0], c[1]) {
			got = append(got, w)
		}
		if !slices.EqualFunc(got, all, slices.Equal) {
			t.Errorf("Words(%d, %d): %v instead of %v", c[0], c[1], got, all)
		}
	}
}

// P1.7: the examples.
func TestWordsExamples(t *testing.T) {
	for _, c := range []struct {
		k, n int
		want [][]int
	}{
		{1, 2, [][]int{{0, 1}}},
		{2, 2, [][]int{{0, 1}, {0, 2}, {1, 2}}},
		{1, 4, [][]int{{0, 1, 0, 1}}},
		{0, 0, [][]int{nil}},
		{40, 0, [][]int{nil}},
		{0, 2, nil},
		{0, 400, nil},
	} {
		var got [][]int
		for w := range line.Words(c.k, c.n) {
			got = append(got, w)
		}
		if !slices.EqualFunc(got, c.want, slices.Equal) {
			t.Errorf("Words(%d, %d): %v", c.k, c.n, got)
		}
	}
}

// P1.7: nothing for other numbers; the iterator is never nil.
func TestWordsOfNothing(t *testing.T) {
	for _, c := range [][2]int{{-1, 2}, {-1, 0}, {41, 2}, {41, 0}, {3, 3}, {3, 1}, {3, -2}, {3, 402}, {math.MinInt, math.MaxInt}, {math.MaxInt, math.MinInt}, {2, math.MinInt}, {2, math.MaxInt - 1}} {
		words := line.Words(c[0], c[1])
		if words == nil {
			t.Fatalf("Words(%d, %d) is nil", c[0], c[1])
		}
		for w := range words {
			t.Errorf("Words(%d, %d): %v", c[0], c[1], w)
			break
		}
	}
}

// P1.7: an iterator can be left, used again, and used while it is used.
func TestWordsAgain(t *testing.T) {
	words := line.Words(3, 6)
	all := slices.Collect(words)
	seen := 0
	for range words {
		seen++
		if seen == 5 {
			break
		}
	}
	if seen != 5 || !slices.EqualFunc(slices.Collect(words), all, slices.Equal) {
		t.Errorf("the second use differs")
	}
	i := 0
	for w := range words {
		if !slices.Equal(w, all[i]) {
			t.Fatalf("word %d is %v, not %v", i, w, all[i])
		}
		i++
		// What becomes of a word that was yielded must not change the next ones.
		for j := range w {
			w[j] = -1
		}
		for inner := range words {
			if !slices.Equal(inner, all[0]) {
				t.Fatalf("the first word is %v", inner)
			}
			break
		}
	}
	if i != len(all) {
		t.Errorf("%d words instead of %d", i, len(all))
	}
}

// P1.7: the words after one another can be had, however many there are of them.
func TestWordsOfGreatestLength(t *testing.T) {
	for _, k := range []int{1, 2, 3, 40} {
		var last []int
		count := 0
		for w := range line.Words(k, 400) {
			if count%100 == 0 && !slices.Equal(normal(t, w), w) {
				t.Fatalf("%v is not a normal form", w)
			}
			if count == 0 && !slices.Equal(w, slices.Repeat([]int{0, 1}, 200)) {
				t.Errorf("the first word is %v", w)
			}
			if slices.Compare(last, w) >= 0 {
				t.Fatalf("%v comes after %v", w, last)
			}
			last = w
			count++
			if count == 2000 {
				break
			}
		}
		if k == 1 && count != 1 || k > 1 && count != 2000 {
			t.Errorf("%d words for %d fingers", count, k)
		}
	}
}
