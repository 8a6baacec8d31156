package line_test

import (
	"math/rand"
	"slices"
	"testing"

	"catscradle/api"
	"catscradle/line"
)

// P1.6: Circle.
func TestCircle(t *testing.T) {
	for _, c := range []struct {
		i, j int
		want []int
		e    api.Errno
	}{
		{2, 3, list(1, 3), api.OK},
		{1, 1, list(0, 1), api.OK},
		{1, 40, list(0, 40), api.OK},
		{40, 40, list(39, 40), api.OK},
		{3, 2, nil, api.ErrArg},
		{0, 2, nil, api.ErrArg},
		{1, 41, nil, api.ErrArg},
		{41, 41, nil, api.ErrArg},
		{-3, -2, nil, api.ErrArg},
	} {
		got, e := line.Circle(c.i, c.j)
		want(t, "Circle", got, e, c.want, c.e)
	}
	for i := 1; i <= 40; i++ {
		for j := i; j <= 40; j++ {
			w, _ := line.Circle(i, j)
			numbers, e := line.Winding(40, w)
			around := slices.Concat(fill(i-1, 0), fill(j-i+1, 1), fill(40-j, 0))
			want(t, "Winding of a circle", numbers, e, around, api.OK)
		}
	}
}

// P1.6: Ranks, its examples, edges and errors.
func TestRanks(t *testing.T) {
	for _, c := range []struct {
		w, want []int
		e       api.Errno
	}{
		{list(0, 2), list(1, 1), api.OK},
		{list(0, 1, 2, 3), list(1, 1, 1, 1), api.OK},
		{list(0, 3, 1, 2, 3, 1), list(1, 2, 2, 1, 1, 1), api.OK},
		{list(40, 0), list(1, 1), api.OK},
		{nil, nil, api.OK},
		{list(0, 1, 0, 1), nil, api.ErrNone},
		{list(0, 2, 1, 3), nil, api.ErrNone},
		{list(0, 1, 0, 2), nil, api.ErrNone},
		{list(0, 1, 2, 0, 1, 2), nil, api.ErrNone},
		{list(0, 0), nil, api.ErrArg},
		{list(0, 1, 2, 0), nil, api.ErrArg},
		{list(0, 1, 0, 1, 1, 0), nil, api.ErrArg},
		{list(0), nil, api.ErrArg},
		{list(0, 41), nil, api.ErrArg},
		{list(-1, 0), nil, api.ErrArg},
		{fill(402, 0), nil, api.ErrLong},
	} {
		got, e := line.Ranks(c.w)
		want(t, "Ranks("+line.Print(c.w)+")", got, e, c.want, c.e)
	}
}

// slowRanks returns all lists of ranks of a reduced word: it tries all orders of the letters of each gate.
func slowRanks(w []int) [][]int {
	var all [][]int
	ranks := make([]int, len(w))
	var try func(i int)
	try = func(i int) {
		if i == len(w) {
			if !crosses(w, ranks) {
				all = append(all, slices.Clone(ranks))
			}
			return
		}
		count := 0
		var used []int
		for j, gate := range w {
			if gate == w[i] {
				count++
				if j < i {
					used = append(used, ranks[j])
				}
			}
		}
		for rank := 1; rank <= count; rank++ {
			if !slices.Contains(used, rank) {
				ranks[i] = rank
				try(i + 1)
			}
		}
	}
	try(0)
	return all
}

// crosses reports whether two arcs on one side of the axis cross.
func crosses(w, ranks []int) bool {
	n := len(w)
	less := func(i, j int) bool {
		return w[i] < w[j] || w[i] == w[j] && ranks[i] < ranks[j]
	}
	between := func(i, a, b int) bool {
		return less(a, i) && less(i, b) || less(b, i) && less(i, a)
	}
	for i := range n {
		for j := i + 2; j < n; j += 2 {
			a, b, c, d := i, (i+1)%n, j, (j+1)%n
			if between(c, a, b) != between(d, a, b) {
				return true
			}
		}
	}
	return false
}

// P1.6: Ranks returns the only list of ranks, if there is one; winding numbers are then all 0 or 1, or all 0 or -1.
func TestRanksAreTheOnlyOnes(t *testing.T) {
	for _, c := range [][2]int{{1, 6}, {2, 6}, {2, 8}, {3, 6}, {4, 4}} {
		found := 0
		for _, w := range lists(c[0], c[1]) {
			if !line.Reduced(w) {
				continue
			}
			got, e := line.Ranks(w)
			switch all := slowRanks(w); len(all) {
			case 0:
				want(t, "Ranks("+line.Print(w)+")", got, e, nil, api.ErrNone)
			case 1:
				want(t, "Ranks("+line.Print(w)+")", got, e, all[0], api.OK)
				found++
				checkSimple(t, w)
			default:
				t.Errorf("%v has the ranks %v", w, all)
			}
		}
		if c[0] > 2 && found == 0 {
			t.Errorf("no word of %d letters for %d fingers has ranks", c[1], c[0])
		}
	}
}

// checkSimple reports winding numbers that are not those of a curve without crossings.
func checkSimple(t *testing.T, w []int) {
	t.Helper()
	numbers, e := line.Winding(4, w)
	if e != api.OK || slices.Max(numbers)-slices.Min(numbers) > 1 || slices.Max(numbers) > 1 || slices.Min(numbers) < -1 {
		t.Errorf("Winding of %v: %v, %d", w, numbers, e)
	}
}

// matching joins an even number of points by arcs that do not cross.
func matching(r *rand.Rand, points []int, join []int) {
	if len(points) == 0 {
		return
	}
	i := 1 + 2*r.Intn(len(points)/2)
	join[points[0]], join[points[i]] = points[i], points[0]
	matching(r, points[1:i], join)
	matching(r, points[i+1:], join)
}

// travel follows the arcs below and above the axis from the point 0 on, and returns the points in the order in which they are met.
func travel(below, above []int) []int {
	var points []int
	for at := 0; len(points) == 0 || at != 0; at = above[below[at]] {
		points = append(points, at, below[at])
	}
	return points
}

// drawn returns the word and the ranks of a curve, if the points have these gates, in increasing order.
func drawn(points, gates []int) (w, ranks []int) {
	for _, at := range points {
		w = append(w, gates[at])
		ranks = append(ranks, at-slices.Index(gates, gates[at])+1)
	}
	return w, ranks
}

// P1.6: Ranks finds the ranks of curves that are drawn without crossings.
func TestRanksOfDrawings(t *testing.T) {
	r := rand.New(rand.NewSource(3))
	found := 0
	for range 60000 {
		n := 2 + 2*r.Intn(8)
		points, gates, below, above := make([]int, n), make([]int, n), make([]int, n), make([]int, n)
		for i := range n {
			points[i], gates[i] = i, r.Intn(5)
		}
		slices.Sort(gates)
		matching(r, points, below)
		matching(r, points, above)
		met := travel(below, above)
		w, ranks := drawn(met, gates)
		if len(met) < n || !line.Reduced(w) {
			continue
		}
		found++
		got, e := line.Ranks(w)
		want(t, "Ranks("+line.Print(w)+")", got, e, ranks, api.OK)
		checkSimple(t, w)
	}
	if found < 100 {
		t.Errorf("only %d drawings", found)
	}
}

// P1.6: a curve of the greatest length winds around three fingers; with a change at its end it crosses itself.
func TestRanksOfLongest(t *testing.T) {
	const n, s = 400, 154
	below, above, gates := make([]int, n), make([]int, n), make([]int, n)
	for i := range n {
		above[i] = n - 1 - i
		below[i] = (n + s - 1 - i) % n
		for _, finger := range []int{s / 2, n / 2, (n + s) / 2} {
			if i >= finger {
				gates[i]++
			}
		}
	}
	w, ranks := drawn(travel(below, above), gates)
	if len(w) != n || !line.Reduced(w) {
		t.Fatalf("%d letters", len(w))
	}
	got, e := line.Ranks(w)
	want(t, "Ranks of the longest word", got, e, ranks, api.OK)
	checkSimple(t, w)
	w[n-2], w[n-1] = w[n-1], w[n-2]
	if !line.Reduced(w) {
		w[n-1] = 4
	}
	got, e = line.Ranks(w)
	want(t, "Ranks of a longest word with crossings", got, e, nil, api.ErrNone)
}

// P1.6: strands that never part have no order.
func TestRanksOfPowers(t *testing.T) {
	for _, part := range [][]int{list(0, 1), list(0, 2, 1, 3), list(0, 1, 2, 3), list(0, 3, 1, 2, 3, 1)} {
		for _, times := range []int{2, 3, 50} {
			got, e := line.Ranks(slices.Repeat(part, times))
			want(t, "Ranks of a repeated word", got, e, nil, api.ErrNone)
		}
	}
}
