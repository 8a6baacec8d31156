package show_test

import (
	"math"
	"math/rand"
	"slices"
	"testing"

	"catscradle/api"
	"catscradle/code"
	"catscradle/show"
)

// P9.1: codes worked out by hand.
func TestReadExamples(t *testing.T) {
	one, two := []int{1, 1}, []int{1, 2, 1}
	for _, x := range []struct {
		p    api.Picture
		want string
	}{
		{api.Picture{Gates: []int{0}}, "0:"},
		{api.Picture{Fingers: 2, Gates: []int{0, 0, 0}}, "2:"},
		{api.Picture{Gates: []int{2}, Above: []api.Row{lid(0)}, Below: []api.Row{lid(0)}}, "0: 0.1 0.2"},
		{api.Picture{Fingers: 1, Gates: one, Above: []api.Row{lid(0)}, Below: []api.Row{lid(0)}}, "1: 0.1 1.1"},
		{api.Picture{Fingers: 2, Gates: two, Above: []api.Row{lid(1), lid(0)}, Below: []api.Row{lid(0), lid(0)}}, "2: 0.1 1.1 1.2 2.1"},
		// The traveler comes to the left strand of the kink below, which is seen over from behind: under.
		{api.Picture{Fingers: 1, Gates: one, Above: []api.Row{lid(0)}, Below: []api.Row{cross(0, 1, true), lid(1), lid(0)}}, "1: 0.1 1u+ 1o+ 1.1"},
		{api.Picture{Fingers: 1, Gates: one, Above: []api.Row{lid(0)}, Below: []api.Row{cross(0, 1, false), lid(1), lid(0)}}, "1: 0.1 1o- 1u- 1.1"},
		{api.Picture{Fingers: 1, Gates: one, Below: []api.Row{lid(0)}, Above: []api.Row{cross(0, 1, true), lid(1), lid(0)}}, "1: 0.1 1.1 1u+ 1o+"},
		// A kink on the other side.
		{api.Picture{Fingers: 1, Gates: one, Below: []api.Row{lid(0)}, Above: []api.Row{cross(0, 1, true), lid(0), lid(0)}}, "1: 0.1 1.1 1u- 1o-"},
		{api.Picture{Fingers: 1, Gates: one, Below: []api.Row{lid(0)}, Above: []api.Row{cross(0, 2, true), lid(0)}}, "1: 0.1 1.1 1u- 1o-"},
		{api.Picture{Fingers: 2, Gates: two, Above: []api.Row{cross(0, 4, false)}, Below: []api.Row{lid(0), lid(0)}}, "2: 0.1 1.1 1o+ 2.1 1.2 1u+"},
	} {
		got, e := show.Read(x.p)
		if e != api.OK || code.Print(got) != x.want {
			t.Errorf("%v: %s, %d, not %s", x.p, code.Print(got), e, x.want)
		}
	}
}

// P9.1: what Draw returns is read back.
func TestReadBack(t *testing.T) {
	for _, c := range samples() {
		p := must[api.Picture](t)(show.Draw(c))
		got, e := show.Read(p)
		if e != api.OK || !same(t, got, c) {
			t.Fatalf("%s: %s, %d", code.Print(c), code.Print(got), e)
		}
		if renamed := must[api.Code](t)(code.Rename(got)); !equal(renamed, got) {
			t.Errorf("%s: the names in %s", code.Print(c), code.Print(got))
		}
		for _, l := range got.Letters {
			first := got.Letters[0]
			if l.Kind == api.Pass && (l.Gate < first.Gate || l.Gate == first.Gate && l.Rank < first.Rank) {
				t.Errorf("%s: %s does not begin with the leftmost pass", code.Print(c), code.Print(got))
			}
		}
		if q := must[api.Picture](t)(show.Draw(got)); !equalPictures(p, q) {
			t.Errorf("%s: the picture %v, and then %v", code.Print(c), p, q)
		}
		if laid, ok := slowRead(p); !ok || !equal(laid, got) {
			t.Errorf("%s: %s, laid out %s, %v", code.Print(c), code.Print(got), code.Print(laid), ok)
		}
	}
}

// randomPicture returns a picture, many of which can be read.
func randomPicture(r *rand.Rand) api.Picture {
	p := api.Picture{Fingers: r.Intn(4)}
	passes := 0
	for range p.Fingers + 1 {
		p.Gates = append(p.Gates, r.Intn(3))
		passes += p.Gates[len(p.Gates)-1]
	}
	p.Gates[0] += passes % 2
	rows := func(front int) []api.Row {
		var l []api.Row
		for crosses := r.Intn(4); front > 0; {
			if front > 1 && (crosses == 0 || r.Intn(3) == 0) {
				l = append(l, lid(r.Intn(front-1)))
				front -= 2
				continue
			}
			in := 1 + r.Intn(min(4, front))
			l = append(l, cross(r.Intn(front-in+1), in, r.Intn(2) == 0))
			front += 4 - 2*in
			crosses = max(0, crosses-1)
		}
		return l
	}
	p.Above, p.Below = rows(passes+passes%2), rows(passes+passes%2)
	return p
}

// spoiled returns a picture with a change.
func spoiled(r *rand.Rand, p api.Picture) api.Picture {
	p = copiedPicture(p)
	rows := &p.Above
	if r.Intn(2) == 0 {
		rows = &p.Below
	}
	at := r.Intn(len(*rows) + 1)
	if at == len(*rows) || r.Intn(8) == 0 {
		*rows = slices.Insert(*rows, at, lid(r.Intn(3)))
		return p
	}
	row := &(*rows)[at]
	switch r.Intn(7) {
	case 0:
		row.At += 2*r.Intn(2) - 1
	case 1:
		row.In += 2*r.Intn(2) - 1
	case 2:
		row.Kind = api.RowKind(r.Intn(4))
	case 3:
		row.Over = !row.Over
	case 4:
		*rows = slices.Delete(*rows, at, at+1)
	case 5:
		p.Gates[r.Intn(len(p.Gates))]++
	case 6:
		row.At = []int{math.MinInt, -1, math.MaxInt, math.MaxInt - 1}[r.Intn(4)]
	}
	return p
}

// P9.1: Read leads to the code that is measured if the picture is laid out in the plane.
func TestRead(t *testing.T) {
	r := rand.New(rand.NewSource(3))
	could, drawn := 0, 0
	for n := range 30000 {
		p := randomPicture(r)
		if n%3 == 0 {
			p = spoiled(r, p)
		}
		want, ok := slowRead(p)
		got, e := show.Read(p)
		if !ok {
			if e != api.ErrCode || !equal(got, api.Code{}) {
				t.Fatalf("%v: %s, %d", p, code.Print(got), e)
			}
			continue
		}
		could++
		if e != api.OK || !equal(got, want) || code.Check(got) != api.OK {
			t.Fatalf("%v: %s, %d, not %s", p, code.Print(got), e, code.Print(want))
		}
		picture := must[api.Picture](t)(show.Draw(got))
		if again, ok := slowRead(picture); !ok || !same(t, again, got) || !equalPictures(picture, slowDraw(got)) {
			t.Fatalf("%s: %v", code.Print(got), picture)
		}
		if equalPictures(p, picture) {
			drawn++
		}
	}
	if could < 3000 || could > 27000 || drawn < 100 {
		t.Error("pictures that can be read, and that are drawn", could, drawn)
	}
}

// P9.1: pictures that cannot be read.
func TestReadNot(t *testing.T) {
	one, two := []int{1, 1}, []int{1, 2, 1}
	arch := []api.Row{lid(0)}
	for i, p := range []api.Picture{
		{Gates: []int{0}, Above: arch},
		{Gates: []int{0}, Above: []api.Row{cross(0, 0, false)}},
		{Gates: []int{0}, Below: []api.Row{{}}},
		{Gates: []int{1}},
		{Gates: []int{1}, Above: arch, Below: arch},
		{Gates: []int{2}},
		{Gates: []int{2}, Above: arch},
		{Gates: []int{2}, Below: arch},
		{Fingers: 1, Gates: one, Above: []api.Row{lid(0), lid(0)}, Below: arch},
		{Fingers: 1, Gates: one, Above: []api.Row{lid(1)}, Below: arch},
		{Fingers: 1, Gates: one, Above: []api.Row{lid(-1)}, Below: arch},
		{Fingers: 1, Gates: one, Above: []api.Row{{Kind: api.RowCap, In: 2}}, Below: arch},
		{Fingers: 1, Gates: one, Above: []api.Row{{Kind: api.RowCap, Over: true}}, Below: arch},
		{Fingers: 1, Gates: one, Above: []api.Row{{}}, Below: arch},
		{Fingers: 1, Gates: one, Above: []api.Row{{Kind: 3}}, Below: arch},
		{Fingers: 1, Gates: one, Above: []api.Row{{Kind: -1}}, Below: arch},
		{Fingers: 1, Gates: one, Above: []api.Row{cross(0, 0, true), lid(0), lid(0), lid(0)}, Below: arch},
		{Fingers: 1, Gates: one, Above: []api.Row{cross(0, 3, true)}, Below: arch},
		{Fingers: 1, Gates: one, Above: []api.Row{cross(1, 2, true), lid(0)}, Below: arch},
		{Fingers: 1, Gates: one, Above: []api.Row{cross(2, 1, true), lid(0), lid(0)}, Below: arch},
		{Fingers: 1, Gates: one, Above: []api.Row{cross(math.MaxInt, 2, true), lid(0)}, Below: arch},
		{Fingers: 1, Gates: one, Above: []api.Row{cross(0, math.MaxInt, true)}, Below: arch},
		{Fingers: 1, Gates: one, Above: []api.Row{cross(0, math.MinInt, true)}, Below: arch},
		{Fingers: 2, Gates: two, Above: []api.Row{cross(0, 5, true)}, Below: arch},
		{Gates: []int{6}, Above: []api.Row{cross(0, 5, true), lid(0)}, Below: slices.Repeat(arch, 3)},
		{Gates: []int{10}, Above: []api.Row{cross(0, 5, true), cross(0, 5, true)}, Below: slices.Repeat(arch, 5)},
		// Two circles: side by side, one over the other, and one without passes under the string.
		{Fingers: 2, Gates: two, Above: []api.Row{lid(0), lid(0)}, Below: []api.Row{lid(0), lid(0)}},
		{Fingers: 2, Gates: two, Above: []api.Row{cross(0, 4, true)}, Below: []api.Row{cross(0, 4, false)}},
		{Fingers: 1, Gates: one, Above: []api.Row{cross(0, 1, true), cross(0, 3, false), lid(0)}, Below: arch},
	} {
		if got, e := show.Read(p); e != api.ErrCode || !equal(got, api.Code{}) {
			t.Errorf("case %d, %v: %s, %d", i, p, code.Print(got), e)
		}
		if got, e := show.Grid(p); e != api.ErrCode || len(got) > 0 {
			t.Errorf("case %d, Grid of %v: %q, %d", i, p, got, e)
		}
	}
}

// snake returns the picture of a curve that weaves through one gate n times.
func snake(n int) api.Picture {
	p := api.Picture{Gates: []int{n}, Below: slices.Repeat([]api.Row{lid(0)}, n/2)}
	p.Above = append(slices.Repeat([]api.Row{lid(1)}, n/2-1), lid(0))
	return p
}

// kinked returns a picture with n kinks on its first strand above.
func kinked(p api.Picture, n int) api.Picture {
	p = copiedPicture(p)
	p.Above = slices.Concat(slices.Repeat([]api.Row{cross(0, 1, true), lid(0)}, n), p.Above)
	return p
}

// P9.1: the bounds of pictures, and the order of their errors.
func TestReadBounds(t *testing.T) {
	bare := func(fingers, gates int) api.Picture {
		return api.Picture{Fingers: fingers, Gates: make([]int, gates)}
	}
	crosses := func(n int) []api.Row { return slices.Repeat([]api.Row{cross(9, 9, false)}, n) }
	for i, x := range []struct {
		p    api.Picture
		want api.Errno
	}{
		{bare(0, 1), api.OK},
		{bare(api.MaxFingers, api.MaxFingers+1), api.OK},
		{bare(api.MaxFingers+1, api.MaxFingers+2), api.ErrArg},
		{api.Picture{Fingers: 41, Gates: slices.Repeat([]int{10}, 42)}, api.ErrArg},
		{api.Picture{Fingers: 41, Gates: make([]int, 42), Above: []api.Row{lid(0)}}, api.ErrArg},
		{bare(-1, 0), api.ErrArg},
		{bare(math.MinInt, 0), api.ErrArg},
		{bare(math.MaxInt, 0), api.ErrArg},
		{bare(0, 0), api.ErrArg},
		{bare(3, 3), api.ErrArg},
		{bare(3, 5), api.ErrArg},
		{api.Picture{Fingers: 1, Gates: []int{3, -1}}, api.ErrArg},
		{api.Picture{Fingers: 1, Gates: []int{-1, 1}}, api.ErrArg},
		{api.Picture{Fingers: 2, Gates: []int{math.MaxInt, math.MaxInt, math.MinInt}}, api.ErrArg},
		{api.Picture{Fingers: 2, Gates: []int{math.MaxInt, math.MaxInt, 2}}, api.ErrLong},
		{api.Picture{Fingers: 1, Gates: []int{1, math.MaxInt}}, api.ErrLong},
		{snake(api.MaxLetters), api.OK},
		{snake(api.MaxLetters + 2), api.ErrLong},
		{api.Picture{Fingers: 1, Gates: []int{200, 201}}, api.ErrLong},
		{api.Picture{Fingers: 1, Gates: []int{200, 200}}, api.ErrCode},
		{kinked(snake(2), api.MaxCrossings), api.OK},
		{kinked(snake(2), api.MaxCrossings+1), api.ErrLong},
		{kinked(snake(200), api.MaxCrossings), api.OK},
		{kinked(snake(202), api.MaxCrossings), api.ErrLong},
		{kinked(snake(398), 1), api.OK},
		{kinked(snake(398), 2), api.ErrLong},
		{kinked(snake(400), 1), api.ErrLong},
		{api.Picture{Gates: []int{0}, Above: crosses(50), Below: crosses(50)}, api.ErrCode},
		{api.Picture{Gates: []int{0}, Above: crosses(50), Below: crosses(51)}, api.ErrLong},
		{api.Picture{Gates: []int{201}, Above: crosses(100)}, api.ErrLong},
		{api.Picture{Gates: []int{200}, Above: crosses(100)}, api.ErrCode},
		{api.Picture{Gates: []int{-1}, Above: crosses(101)}, api.ErrArg},
		{api.Picture{Gates: []int{2}, Above: slices.Repeat([]api.Row{lid(0)}, 1000)}, api.ErrCode},
	} {
		got, e := show.Read(x.p)
		if e != x.want || e != api.OK && !equal(got, api.Code{}) {
			t.Errorf("case %d: %s, %d, not %d", i, code.Print(got), e, x.want)
		}
		lines, e := show.Grid(x.p)
		if e != x.want || e == api.OK != (len(lines) > 0) {
			t.Errorf("case %d, Grid: %q, %d, not %d", i, lines, e, x.want)
		}
		if x.want != api.OK {
			continue
		}
		if want, ok := slowRead(x.p); !ok || !equal(got, want) {
			t.Errorf("case %d: %s, not %s, %v", i, code.Print(got), code.Print(want), ok)
		}
	}
}

// P9.1: codes at their limits are drawn and read.
func TestDrawBounds(t *testing.T) {
	for _, c := range []api.Code{kinks(1, api.MaxCrossings), kinks(api.MaxFingers, api.MaxCrossings), must[api.Code](t)(show.Read(snake(api.MaxLetters))), must[api.Code](t)(show.Read(kinked(snake(200), 100)))} {
		p, e := show.Draw(c)
		got, e2 := show.Read(p)
		if e != api.OK || e2 != api.OK || !same(t, c, got) || !equalPictures(p, slowDraw(c)) {
			t.Errorf("%s: %v, %d, %s, %d", code.Print(c), p, e, code.Print(got), e2)
		}
	}
}
