package show_test

import (
	"math/rand"
	"slices"
	"testing"

	"catscradle/api"
	"catscradle/code"
	"catscradle/show"
)

// P9.1: pictures worked out by hand.
func TestDrawExamples(t *testing.T) {
	for _, x := range []struct {
		c    string
		want api.Picture
	}{
		{"0:", api.Picture{Gates: []int{0}}},
		{"2:", api.Picture{Fingers: 2, Gates: []int{0, 0, 0}}},
		{"2: 0.1 1.1", api.Picture{Fingers: 2, Gates: []int{1, 1, 0}, Above: []api.Row{lid(0)}, Below: []api.Row{lid(0)}}},
		{"2: 1.1 0.1", api.Picture{Fingers: 2, Gates: []int{1, 1, 0}, Above: []api.Row{lid(0)}, Below: []api.Row{lid(0)}}},
		{"2: 0.1 1.1 1.2 2.1", api.Picture{Fingers: 2, Gates: []int{1, 2, 1}, Above: []api.Row{lid(1), lid(0)}, Below: []api.Row{lid(0), lid(0)}}},
		{"2: 0.1 1u+ 1o+ 1.1", api.Picture{Fingers: 2, Gates: []int{1, 1, 0}, Above: []api.Row{lid(0)}, Below: []api.Row{cross(0, 1, true), lid(1), lid(0)}}},
		// Turned, the kink lies above, and the strand that comes from the left is the one that was over below.
		{"2: 1.1 0.1 1o+ 1u+", api.Picture{Fingers: 2, Gates: []int{1, 1, 0}, Above: []api.Row{cross(0, 1, true), lid(1), lid(0)}, Below: []api.Row{lid(0)}}},
		// Two strings cross above, and all four strands lead to the crossing.
		{"2: 1.1 0.1 1u+ 1.2 2.1 1o+", api.Picture{Fingers: 2, Gates: []int{1, 2, 1}, Above: []api.Row{cross(0, 4, false)}, Below: []api.Row{lid(0), lid(0)}}},
	} {
		got, e := show.Draw(read(t, x.c))
		if e != api.OK || !equalPictures(got, x.want) {
			t.Errorf("%s: %v, %d, not %v", x.c, got, e, x.want)
		}
	}
}

// P9.1: Draw follows the definition, and meets runs of all lengths above and below.
func TestDraw(t *testing.T) {
	runs := map[int]int{}
	for _, c := range samples() {
		got, e := show.Draw(c)
		if want := slowDraw(c); e != api.OK || !equalPictures(got, want) {
			t.Fatalf("%s: %v, %d, not %v", code.Print(c), got, e, want)
		}
		for _, row := range slices.Concat(got.Above, got.Below) {
			runs[row.In]++
			if row.Kind == api.RowCap && row.Over {
				t.Errorf("%s: %v", code.Print(c), row)
			}
		}
	}
	for in := range 5 {
		if runs[in] < 20 {
			t.Error("few rows of a kind", runs)
		}
	}
}

// P9.1: codes that are not valid.
func TestDrawErrors(t *testing.T) {
	for _, x := range refused() {
		if p, e := show.Draw(x.c); e != x.e || !equalPictures(p, api.Picture{}) {
			t.Errorf("%s: %v, %d, not %d", code.Print(x.c), p, e, x.e)
		}
	}
}

// wrong is a code that is not valid, and the error of Check.
type wrong struct {
	c api.Code
	e api.Errno
}

func refused() []wrong {
	pass := api.Letter{Kind: api.Pass}
	return []wrong{
		{api.Code{Letters: make([]api.Letter, api.MaxLetters+1)}, api.ErrLong},
		{api.Code{Fingers: -1, Letters: make([]api.Letter, api.MaxLetters+1)}, api.ErrLong},
		{kinks(1, api.MaxCrossings+1), api.ErrLong},
		{api.Code{Fingers: -1}, api.ErrArg},
		{api.Code{Fingers: api.MaxFingers + 1, Letters: []api.Letter{pass}}, api.ErrArg},
		{api.Code{Fingers: 2, Letters: []api.Letter{{Kind: api.Pass, Rank: 1}}}, api.ErrCode},
		{api.Code{Fingers: 2, Letters: []api.Letter{{}, {}}}, api.ErrCode},
		{api.Code{Fingers: 2, Letters: []api.Letter{{Kind: api.Pass, Gate: 3, Rank: 1}, {Kind: api.Pass, Gate: 1, Rank: 1}}}, api.ErrCode},
	}
}

// P9.2: codes are the same if and only if their pictures are equal.
func TestPictures(t *testing.T) {
	r := rand.New(rand.NewSource(1))
	for _, c := range samples() {
		p := must[api.Picture](t)(show.Draw(c))
		if q := must[api.Picture](t)(show.Draw(traveled(r, c))); !equalPictures(p, q) {
			t.Errorf("%s: traveled in another way, %v, not %v", code.Print(c), q, p)
		}
	}
}

// P9.2: codes that look much alike have different pictures if they are not the same.
func TestPicturesDiffer(t *testing.T) {
	r := rand.New(rand.NewSource(2))
	alike, unlike := 0, 0
	compare := func(a, b api.Code) {
		p, q := must[api.Picture](t)(show.Draw(a)), must[api.Picture](t)(show.Draw(b))
		if same(t, a, b) != equalPictures(p, q) {
			t.Errorf("%s and %s: %v and %v", code.Print(a), code.Print(b), p, q)
		}
		if same(t, a, b) {
			alike++
		} else {
			unlike++
		}
	}
	for _, c := range samples() {
		family := []api.Code{c, changed(r, c), changed(r, c), moved(r, c, 3)}
		for _, s := range allSymmetries() {
			family = append(family, must[api.Code](t)(show.Image(c, s)))
		}
		if c.Fingers > 0 {
			less := must[api.Code](t)(code.Forget(c, 1+r.Intn(c.Fingers)))
			for range 4 {
				if d, e := code.Insert(less, api.Place{Gate: r.Intn(less.Fingers + 1), Left: r.Intn(2)}); e == api.OK {
					family = append(family, d)
				}
			}
		}
		for i, a := range family {
			for _, b := range family[:i] {
				compare(a, b)
			}
		}
	}
	for i, a := range samples() {
		for _, b := range samples()[:i] {
			if same(t, a, b) {
				compare(a, b)
			}
		}
	}
	if alike < 1000 || unlike < 1000 {
		t.Error("pairs", alike, unlike)
	}
}

// P9.2: pictures of Swap and Turn.
func TestPicturesChange(t *testing.T) {
	opposite := func(rows []api.Row) []api.Row {
		rows = slices.Clone(rows)
		for i, row := range rows {
			rows[i].Over = row.Kind == api.RowCross && !row.Over
		}
		return rows
	}
	for _, c := range samples() {
		p := must[api.Picture](t)(show.Draw(c))
		swapped := must[api.Picture](t)(show.Draw(must[api.Code](t)(code.Swap(c))))
		turned := must[api.Picture](t)(show.Draw(must[api.Code](t)(code.Turn(c))))
		q := api.Picture{Fingers: p.Fingers, Gates: p.Gates, Above: opposite(p.Above), Below: opposite(p.Below)}
		if !equalPictures(swapped, q) {
			t.Errorf("Swap of %s: %v, not %v", code.Print(c), swapped, q)
		}
		q = api.Picture{Fingers: p.Fingers, Gates: p.Gates, Above: p.Below, Below: p.Above}
		if !equalPictures(turned, q) {
			t.Errorf("Turn of %s: %v, not %v", code.Print(c), turned, q)
		}
	}
}
