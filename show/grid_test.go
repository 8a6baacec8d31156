package show_test

import (
	"math/rand"
	"slices"
	"testing"

	"catscradle/api"
	"catscradle/code"
	"catscradle/show"
)

// P9.3: lines worked out by hand.
func TestGridExamples(t *testing.T) {
	for _, x := range []struct {
		c    string
		want []string
	}{
		{"0:", []string{""}},
		{"3:", []string{"1 2 3"}},
		{"0: 0.1 0.2", []string{"^ ^", "| |", "v v"}},
		{"2: 0.1 1.1", []string{"^ ^", "| 1 | 2", "v v"}},
		{"11: 10.1 11.1", []string{"^ ^", "1 2 3 4 5 6 7 8 9 10 | 11 |", "v v"}},
		{"2: 0.1 1.1 1.2 2.1", []string{"^ ^", "| ^ ^ |", "| 1 | | 2 |", "v v | |", "v v"}},
		{"2: 0.1 1u+ 1o+ 1.1", []string{"^ ^", "| 1 | 2", "+ |", "| v v |", "v v"}},
		{"2: 0.1 1o- 1u- 1.1", []string{"^ ^", "| 1 | 2", "- |", "| v v |", "v v"}},
		{"2: 1.1 0.1 1o+ 1u+", []string{"^ ^", "| ^ ^ |", "+ |", "| 1 | 2", "v v"}},
		{"2: 1.1 0.1 1u+ 1.2 2.1 1o+", []string{"- - - -", "| 1 | | 2 |", "v v | |", "v v"}},
	} {
		got, e := show.Grid(must[api.Picture](t)(show.Draw(read(t, x.c))))
		if e != api.OK || !slices.Equal(got, x.want) {
			t.Errorf("%s: %q, %d, not %q", x.c, got, e, x.want)
		}
	}
}

// P9.3: Grid follows the definition for all pictures that can be read.
func TestGrid(t *testing.T) {
	var all []api.Picture
	for _, c := range samples() {
		all = append(all, must[api.Picture](t)(show.Draw(c)))
	}
	r := rand.New(rand.NewSource(4))
	for range 3000 {
		all = append(all, randomPicture(r))
	}
	could := 0
	for _, p := range all {
		_, e := show.Read(p)
		got, f := show.Grid(p)
		var want []string
		if e == api.OK {
			could++
			want = slowGrid(p)
		}
		if e != f || !slices.Equal(got, want) {
			t.Fatalf("%v: %q, %d, not %q, %d", p, got, f, want, e)
		}
	}
	if could < 700 {
		t.Error(could)
	}
}

// P9.3: two codes that are the same have the same lines.
func TestGridSame(t *testing.T) {
	r := rand.New(rand.NewSource(5))
	for _, c := range samples() {
		one := must[[]string](t)(show.Grid(must[api.Picture](t)(show.Draw(c))))
		two := must[[]string](t)(show.Grid(must[api.Picture](t)(show.Draw(traveled(r, c)))))
		if !slices.Equal(one, two) {
			t.Errorf("%s: %q and %q", code.Print(c), one, two)
		}
	}
}
