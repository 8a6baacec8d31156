package line_test

import (
	"slices"
	"testing"

	"catscradle/api"
	"catscradle/line"
)

// P1.5: Winding and Inside, their examples, edges and errors.
func TestWindingInside(t *testing.T) {
	for _, c := range []struct {
		k               int
		w               []int
		winding, inside []int
		e               api.Errno
	}{
		{3, list(0, 2), list(1, 1, 0), list(1, 2), api.OK},
		{3, list(2, 0), list(-1, -1, 0), list(1, 2), api.OK},
		{3, list(0, 1, 2, 3), list(1, 0, 1), list(1, 3), api.OK},
		{3, list(0, 1, 0, 2), list(2, 1, 0), list(2), api.OK},
		{2, list(1, 0, 1, 0), list(-2, 0), nil, api.OK},
		{2, list(1, 1), list(0, 0), nil, api.OK},
		{0, list(0, 0), nil, nil, api.OK},
		{0, nil, nil, nil, api.OK},
		{3, nil, list(0, 0, 0), nil, api.OK},
		{40, list(39, 40), append(fill(39, 0), 1), list(40), api.OK},
		{1, list(0, 2), nil, nil, api.ErrArg},
		{3, list(0), nil, nil, api.ErrArg},
		{3, list(0, -1), nil, nil, api.ErrArg},
		{-1, nil, nil, nil, api.ErrArg},
		{41, nil, nil, nil, api.ErrArg},
		{41, fill(401, -1), nil, nil, api.ErrLong},
	} {
		got, e := line.Winding(c.k, c.w)
		want(t, "Winding("+line.Print(c.w)+")", got, e, c.winding, c.e)
		got, e = line.Inside(c.k, c.w)
		want(t, "Inside("+line.Print(c.w)+")", got, e, c.inside, c.e)
	}
}

// P1.5: the numbers are counts of letters; reductions keep them; the reverse has their negatives; Inside are those that are odd.
func TestWindingCounts(t *testing.T) {
	for _, w := range samples() {
		var counts, negative, odd []int
		for f := 1; f <= 4; f++ {
			count := 0
			for i, gate := range w {
				if gate < f && i%2 == 0 {
					count++
				} else if gate < f {
					count--
				}
			}
			counts, negative = append(counts, count), append(negative, -count)
			if count%2 != 0 {
				odd = append(odd, f)
			}
		}
		got, e := line.Winding(4, w)
		want(t, "Winding("+line.Print(w)+")", got, e, counts, api.OK)
		got, e = line.Inside(4, w)
		want(t, "Inside("+line.Print(w)+")", got, e, odd, api.OK)
		back, _ := line.Reverse(w)
		got, e = line.Winding(4, back)
		want(t, "Winding of the reverse of "+line.Print(w), got, e, negative, api.OK)
		// The normal form may travel in the opposite direction.
		got, e = line.Winding(4, normal(t, w))
		if e != api.OK || !slices.Equal(got, counts) && !slices.Equal(got, negative) {
			t.Errorf("Winding of the normal form of %v: %v, %d", w, got, e)
		}
		got, e = line.Inside(4, normal(t, w))
		want(t, "Inside of the normal form of "+line.Print(w), got, e, odd, api.OK)
		for i := 0; i+1 < len(w); i++ {
			if w[i] == w[i+1] {
				got, e = line.Winding(4, slices.Delete(slices.Clone(w), i, i+2))
				want(t, "Winding after a reduction of "+line.Print(w), got, e, counts, api.OK)
			}
		}
	}
}
