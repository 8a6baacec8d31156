package show_test

import (
	"slices"
	"testing"

	"catscradle/api"
	"catscradle/code"
	"catscradle/show"
)

// P9.4: polygons and patterns worked out by hand.
func TestPolygonsExamples(t *testing.T) {
	outer := func(corners, sides int) api.Polygon { return api.Polygon{Corners: corners, Sides: sides} }
	inner := func(n int) api.Polygon { return api.Polygon{Corners: n, Sides: n, Inner: true} }
	for _, x := range []struct {
		c       string
		want    []api.Polygon
		pattern []int
	}{
		{"3:", nil, nil},
		{"2: 0.1 1.1", []api.Polygon{outer(0, 1), outer(0, 1), outer(0, 1), outer(0, 1)}, nil},
		// The faces are those inside the circle below, outside of it, the kink, which lies outside or inside, and those above.
		{"2: 0.1 1u+ 1o+ 1.1", []api.Polygon{outer(2, 3), outer(1, 2), inner(1), outer(0, 1), outer(0, 1)}, []int{0, 1}},
		{"2: 0.1 1o+ 1u+ 1.1", []api.Polygon{outer(1, 2), outer(2, 3), inner(1), outer(0, 1), outer(0, 1)}, []int{0, 1}},
		// Two strings cross above: outside of the loops below, inside the left one, four faces around the crossing, and inside the right loop.
		{"2: 1.1 0.1 1u+ 1.2 2.1 1o+", []api.Polygon{outer(0, 2), outer(0, 1), outer(1, 2), outer(1, 2), outer(1, 2), outer(1, 2), outer(0, 1)}, nil},
	} {
		got, e := show.Polygons(read(t, x.c))
		pattern, f := show.Pattern(read(t, x.c))
		if e != api.OK || !slices.Equal(got, x.want) || f != api.OK || !slices.Equal(pattern, x.pattern) {
			t.Errorf("%s: %v, %d, not %v; %v, %d, not %v", x.c, got, e, x.want, pattern, f, x.pattern)
		}
	}
}

// P9.4: Polygons and Pattern follow their definitions, and all corners and sides are counted.
func TestPolygons(t *testing.T) {
	longest := 0
	for _, c := range samples() {
		var want []api.Polygon
		counts := map[int]int{}
		corners, sides, most := 0, 0, -1
		for _, face := range must[[]api.Face](t)(code.Faces(c)) {
			p := api.Polygon{Sides: len(face.Darts), Inner: len(face.Places) == 0}
			for _, n := range face.Darts {
				if c.Letters[(dart{n / 2, n%2 == 1}).end(c)].Kind == api.Cross {
					p.Corners++
				}
			}
			want = append(want, p)
			corners, sides = corners+p.Corners, sides+p.Sides
			if p.Inner {
				counts[p.Corners]++
				most = max(most, p.Corners)
			}
		}
		got, e := show.Polygons(c)
		if e != api.OK || !slices.Equal(got, want) {
			t.Fatalf("%s: %v, %d, not %v", code.Print(c), got, e, want)
		}
		if corners != 4*code.Crossings(c) || sides != 2*len(c.Letters) {
			t.Errorf("%s: %d corners, %d sides", code.Print(c), corners, sides)
		}
		pattern, e := show.Pattern(c)
		if e != api.OK || len(pattern) != most+1 {
			t.Fatalf("%s: %v, %d", code.Print(c), pattern, e)
		}
		for i, n := range pattern {
			if n != counts[i] {
				t.Errorf("%s: %v, not %v", code.Print(c), pattern, counts)
			}
		}
		longest = max(longest, len(pattern))
	}
	if longest < 5 {
		t.Error("no polygon with many corners")
	}
}

// P9.4: the pattern does not change under any symmetry.
func TestPatternSymmetries(t *testing.T) {
	for _, c := range samples() {
		want := must[[]int](t)(show.Pattern(c))
		for _, s := range allSymmetries() {
			got := must[[]int](t)(show.Pattern(must[api.Code](t)(show.Image(c, s))))
			if !slices.Equal(got, want) {
				t.Errorf("%s, %v: %v, not %v", code.Print(c), s, got, want)
			}
		}
	}
}

// P9.4: codes that are not valid.
func TestPolygonsErrors(t *testing.T) {
	for _, x := range refused() {
		polygons, e := show.Polygons(x.c)
		pattern, f := show.Pattern(x.c)
		if e != x.e || len(polygons) > 0 || f != x.e || len(pattern) > 0 {
			t.Errorf("%s: %v, %d; %v, %d; not %d", code.Print(x.c), polygons, e, pattern, f, x.e)
		}
	}
}
