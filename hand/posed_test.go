package hand_test

import (
	"math"
	"slices"
	"testing"

	"catscradle/api"
	"catscradle/code"
	"catscradle/hand"
	"catscradle/move"
)

// P6.2: Posed.
func TestPosed(t *testing.T) {
	two := frame(t, "L1", "R1")
	for _, c := range []struct {
		code string
		want bool
	}{
		{"2:", true},
		{"2: 0.1 1.1", true},
		{"2: 1.1 0.1", true},
		{"2: 0.1 1.1 1.2 2.1", true},
		{"2: 0.1 2.1", false},
		{"2: 1.1 1.2", false},
		{"2: 0.1 1u+ 1o+ 1.1", false},
		{"2: 0.1 1.1 1u+ 1o+", true},
		{"2: 0.1 1.3 1.2 1.1", false},
		{"3: 0.1 1.1", false},
		{"1: 0.1 1.1", false},
		{"1:", false},
	} {
		if hand.Posed(two, read(t, c.code)) != c.want {
			t.Errorf("%s is posed: not %v", c.code, c.want)
		}
	}
	if hand.Posed(api.Frame{Fingers: two.Fingers}, read(t, "2: 0.1 1.1")) || hand.Posed(two, api.Code{Fingers: 2, Letters: []api.Letter{{}}}) {
		t.Error("a frame or a code that is not valid")
	}
	if !hand.Posed(two, api.Code{Fingers: 2, Letters: []api.Letter{}}) {
		t.Error("the bare loop")
	}
}

// P6.2: a valid code is posed if all edges below join passes of neighboring gates.
func TestPosedByEdges(t *testing.T) {
	counts := map[bool]int{}
	for _, s := range samples() {
		all := []api.Code{s.c}
		for _, m := range must[[]api.Move](t)(move.All(s.c)) {
			next, _ := move.Apply(s.c, m)
			all = append(all, next)
		}
		for _, c := range all {
			want := true
			for _, face := range must[[]api.Face](t)(code.Faces(c)) {
				for _, dart := range face.Darts {
					from, to := c.Letters[dart/2], c.Letters[(dart/2+1)%len(c.Letters)]
					apart := from.Gate - to.Gate
					loop := from.Kind == api.Pass && to.Kind == api.Pass && apart*apart == 1
					want = want && (face.Above || loop)
				}
			}
			counts[want]++
			if hand.Posed(s.fr, c) != want {
				t.Fatalf("%s is posed: not %v", code.Print(c), want)
			}
		}
	}
	if counts[true] < 1000 || counts[false] < 1000 {
		t.Error(counts)
	}
}

// P6.2: Hang.
func TestHang(t *testing.T) {
	fr := standard(t)
	for _, c := range []struct {
		fingers []int
		want    string
	}{
		{nil, "10:"},
		{[]int{1}, "10: 0.1 1.1"},
		{[]int{10}, "10: 9.1 10.1"},
		{[]int{1, 5, 6, 10}, "10: 0.1 1.1 4.1 5.1 5.2 6.1 9.1 10.1"},
		{[]int{1, 2, 3}, "10: 0.1 1.1 1.2 2.1 2.2 3.1"},
		{[]int{2, 4}, "10: 1.1 2.1 3.1 4.1"},
	} {
		got, e := hand.Hang(fr, c.fingers...)
		if e != api.OK || code.Print(got) != c.want || !hand.Posed(fr, got) {
			t.Errorf("Hang(%v): %s, %d", c.fingers, code.Print(got), e)
		}
	}
	for _, fingers := range [][]int{{0}, {-1}, {11}, {5, 1}, {5, 5}, {1, 5, 4}, {1, 11}, {0, 1}, {math.MaxInt}, {math.MinInt, 1}} {
		if got, e := hand.Hang(fr, fingers...); e != api.ErrArg || !equal(got, api.Code{}) {
			t.Errorf("Hang(%v): %s, %d", fingers, code.Print(got), e)
		}
	}
	if got, e := hand.Hang(api.Frame{}); e != api.ErrArg || !equal(got, api.Code{}) {
		t.Error(code.Print(got), e)
	}
	if got, e := hand.Hang(api.Frame{Loops: 1}); e != api.OK || !equal(got, api.Code{}) {
		t.Error(code.Print(got), e)
	}
	four, _ := hand.Standard(4)
	var all []int
	for f := range 40 {
		all = append(all, f+1)
	}
	if got, e := hand.Hang(four, all...); e != api.OK || len(got.Letters) != 80 || !hand.Posed(four, got) {
		t.Error(code.Print(got), e)
	}
}

// P6.2: Loops.
func TestLoops(t *testing.T) {
	fr := standard(t)
	for _, c := range []struct {
		code string
		want []int
	}{
		{"10:", make([]int, 10)},
		{"10: 0.1 1.1 4.1 5.1 5.2 6.1 9.1 10.1", []int{1, 0, 0, 0, 1, 1, 0, 0, 0, 1}},
		{"10: 0.1 1.2 1.1 0.2 9.1 10.1", []int{2, 0, 0, 0, 0, 0, 0, 0, 0, 1}},
	} {
		if got, e := hand.Loops(fr, read(t, c.code)); e != api.OK || !slices.Equal(got, c.want) {
			t.Errorf("%s: %v, %d", c.code, got, e)
		}
	}
	if got, e := hand.Loops(api.Frame{Loops: 1}, api.Code{}); e != api.OK || len(got) != 0 {
		t.Error(got, e)
	}
	for _, s := range samples() {
		want := make([]int, s.c.Fingers)
		for f, l := range loops(s.c) {
			want[f-1] = len(l)
		}
		if got, e := hand.Loops(s.fr, s.c); e != api.OK || !slices.Equal(got, want) {
			t.Errorf("%v: %v, %d", s, got, e)
		}
	}
}

// The order of errors of all functions with a frame and a code.
func TestRefused(t *testing.T) {
	two := frame(t, "L1", "R1")
	long := api.Code{Fingers: 2, Letters: make([]api.Letter, 401)}
	for _, c := range []struct {
		fr   api.Frame
		c    api.Code
		want api.Errno
	}{
		{api.Frame{}, long, api.ErrArg},
		{api.Frame{Fingers: two.Fingers, Loops: 21}, read(t, "2: 0.1 1.1"), api.ErrArg},
		{two, long, api.ErrLong},
		{two, api.Code{Fingers: 41}, api.ErrArg},
		{two, api.Code{Fingers: 3, Letters: []api.Letter{{}}}, api.ErrCode},
		{two, api.Code{Fingers: 2, Letters: []api.Letter{{}}}, api.ErrCode},
		{two, read(t, "3: 0.1 1.1"), api.ErrArg},
		{two, read(t, "2: 0.1 2.1"), api.ErrArg},
	} {
		_, loops := hand.Loops(c.fr, c.c)
		_, edge := hand.Edge(c.fr, c.c, api.String{})
		_, names := hand.Names(c.fr, c.c)
		_, route := hand.Route(c.fr, c.c, 0, api.String{})
		_, expand := hand.Expand(c.fr, c.c, api.Op{})
		_, _, do := hand.Do(c.fr, c.c, api.Op{})
		_, i, run := hand.Run(c.fr, c.c)
		_, j, run2 := hand.Run(c.fr, c.c, api.Op{}, api.Op{})
		if l := []api.Errno{loops, edge, names, route, expand, do, run, run2}; !slices.Equal(l, slices.Repeat([]api.Errno{c.want}, 8)) || i != 0 || j != 0 {
			t.Errorf("%v, %s: %v, %d, %d", c.fr, code.Print(c.c)[:2], l, i, j)
		}
		if hand.Posed(c.fr, c.c) {
			t.Errorf("%v, %s is posed", c.fr, code.Print(c.c)[:2])
		}
	}
}
