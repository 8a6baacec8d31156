package hand_test

import (
	"math"
	"slices"
	"testing"

	"catscradle/api"
	"catscradle/code"
	"catscradle/hand"
)

// P6.3: Edge, by hand.
func TestEdge(t *testing.T) {
	fr := standard(t)
	first := read(t, "10: 0.1 1.1 4.1 5.1 5.2 6.1 9.1 10.1")
	opened := read(t, "10: 0.1 1.1 1o+ 9.1 8.1 2o- 4.1 5.1 5.2 6.1 2u- 1u+ 9.2 10.1")
	double := read(t, "10: 0.1 1.2 1.1 0.2 9.1 10.1")
	for _, c := range []struct {
		c    api.Code
		s    api.String
		want int
		e    api.Errno
	}{
		{first, near(5, 1, 0), 1, api.OK},
		{first, near(5, 0, 0), 1, api.OK},
		{first, far(5, 1, 0), 3, api.OK},
		{first, near(5, 1, 1), 0, api.ErrNone},
		{first, near(5, 2, 0), 0, api.ErrNone},
		{first, near(4, 0, 0), 0, api.ErrNone},
		{first, near(4, 1, 0), 0, api.ErrNone},
		{first, near(6, 1, 0), 5, api.OK},
		{first, far(6, 1, 0), 3, api.OK},
		{first, near(1, 1, 0), 7, api.OK},
		{first, near(10, 1, 0), 7, api.OK},
		{first, far(10, 1, 0), 5, api.OK},
		{first, near(5, math.MaxInt, 0), 0, api.ErrNone},
		{first, near(5, 1, math.MaxInt), 0, api.ErrNone},
		{first, near(0, 1, 0), 0, api.ErrArg},
		{first, near(11, 1, 0), 0, api.ErrArg},
		{first, near(-1, 1, 0), 0, api.ErrArg},
		{first, near(math.MaxInt, 1, 0), 0, api.ErrArg},
		{first, near(5, -1, 0), 0, api.ErrArg},
		{first, near(5, 1, -1), 0, api.ErrArg},
		{first, near(5, math.MinInt, 0), 0, api.ErrArg},
		{opened, near(6, 1, 0), 9, api.OK},
		{opened, near(6, 1, 1), 10, api.OK},
		{opened, near(6, 1, 2), 11, api.OK},
		{opened, near(6, 1, 3), 0, api.ErrNone},
		{opened, far(10, 1, 0), 11, api.OK},
		{opened, far(10, 1, 1), 10, api.OK},
		{opened, near(9, 1, 0), 2, api.OK},
		{opened, near(9, 1, 1), 1, api.OK},
		{opened, far(9, 1, 0), 4, api.OK},
		{opened, far(9, 1, 1), 5, api.OK},
		{double, near(1, 1, 0), 5, api.OK},
		{double, far(1, 1, 0), 1, api.OK},
		{double, near(1, 2, 0), 3, api.OK},
		{double, far(1, 2, 0), 1, api.OK},
		{double, near(1, 0, 0), 3, api.OK},
		{double, near(1, 3, 0), 0, api.ErrNone},
		{read(t, "10:"), near(1, 0, 0), 0, api.ErrNone},
		{read(t, "10:"), near(1, 1, 0), 0, api.ErrNone},
	} {
		if got, e := hand.Edge(fr, c.c, c.s); got != c.want || e != c.e {
			t.Errorf("%v of %v: %d, %d, not %d, %d", c.s, c.c, got, e, c.want, c.e)
		}
	}
}

// P6.3: Edge and Names, compared with the definition of names.
func TestNames(t *testing.T) {
	total := 0
	for _, s := range samples() {
		m := newChart(s)
		var want []api.String
		for names := range allNames(s) {
			want = append(want, names[0])
		}
		got, e := hand.Names(s.fr, s.c)
		if e != api.OK || !slices.Equal(got, want) {
			t.Errorf("%v: %v, %d, not %v", s, got, e, want)
		}
		total += len(got)
		for edge, names := range m.names {
			for _, name := range names {
				if got, e := hand.Edge(s.fr, s.c, name); got != edge || e != api.OK {
					t.Errorf("%v: %v is %d, %d, not %d", s, name, got, e, edge)
				}
			}
		}
		for f := 1; f <= s.c.Fingers; f++ {
			for loop := range 8 {
				for piece := range 6 {
					for _, far := range []bool{false, true} {
						name := api.String{Finger: f, Loop: loop, Far: far, Piece: piece}
						want, wantE := max(0, m.edge(name)), api.OK
						if m.edge(name) < 0 {
							wantE = api.ErrNone
						}
						if got, e := hand.Edge(s.fr, s.c, name); got != want || e != wantE {
							t.Errorf("%v: %v is %d, %d, not %d, %d", s, name, got, e, want, wantE)
						}
					}
				}
			}
		}
	}
	if total < 2000 {
		t.Errorf("only %d names", total)
	}
}

// P6.3: Names, by hand.
func TestNamesByHand(t *testing.T) {
	fr := standard(t)
	for _, c := range []struct {
		code string
		want []api.String
	}{
		{"10:", nil},
		{"10: 0.1 1.1", []api.String{near(1, 1, 0)}},
		{"10: 0.1 1.1 4.1 5.1 5.2 6.1 9.1 10.1", []api.String{near(1, 1, 0), far(1, 1, 0), far(5, 1, 0), near(6, 1, 0)}},
		{"10: 1.1 0.1 1u+ 9.1 10.1 1o+", []api.String{near(1, 1, 0), near(1, 1, 1), far(1, 1, 0), far(1, 1, 1)}},
	} {
		if got, e := hand.Names(fr, read(t, c.code)); e != api.OK || !slices.Equal(got, c.want) {
			t.Errorf("%s: %v, %d", c.code, got, e)
		}
	}
}

// P6.3: Route, by hand.
func TestRoute(t *testing.T) {
	fr := standard(t)
	first := read(t, "10: 0.1 1.1 4.1 5.1 5.2 6.1 9.1 10.1")
	for _, c := range []struct {
		f    int
		s    api.String
		want []api.String
		e    api.Errno
	}{
		{9, near(5, 1, 0), []api.String{near(6, 1, 0)}, api.OK},
		{9, near(6, 1, 0), nil, api.OK},
		{9, far(5, 0, 0), []api.String{near(6, 1, 0)}, api.OK},
		{1, near(1, 0, 0), nil, api.OK},
		{2, near(1, 0, 0), []api.String{far(1, 1, 0)}, api.OK},
		{5, far(5, 0, 0), nil, api.OK},
		{2, far(6, 0, 0), []api.String{far(1, 1, 0)}, api.OK},
		{2, far(4, 0, 0), nil, api.ErrNone},
		{2, far(5, 2, 0), nil, api.ErrNone},
		{2, far(5, 1, 1), nil, api.ErrNone},
		{0, near(5, 1, 0), nil, api.ErrArg},
		{11, near(5, 1, 0), nil, api.ErrArg},
		{-1, far(5, 2, 0), nil, api.ErrArg},
		{2, near(0, 1, 0), nil, api.ErrArg},
		{2, near(11, 1, 0), nil, api.ErrArg},
		{2, near(5, -1, 0), nil, api.ErrArg},
		{2, near(5, 1, -1), nil, api.ErrArg},
	} {
		if got, e := hand.Route(fr, first, c.f, c.s); e != c.e || !slices.Equal(got, c.want) {
			t.Errorf("%d to %v: %v, %d", c.f, c.s, got, e)
		}
	}
	if got, e := hand.Route(fr, read(t, "10:"), 1, near(1, 0, 0)); e != api.ErrNone || len(got) > 0 {
		t.Error(got, e)
	}
}

// P6.3: Route, compared with a search through all paths.
func TestRoutes(t *testing.T) {
	lengths := map[int]int{}
	for _, s := range samples() {
		if len(s.c.Letters) > 30 {
			continue
		}
		m := newChart(s)
		for f := 1; f <= s.c.Fingers; f++ {
			for edge, names := range m.names {
				want := m.slowRoute(f, edge)
				lengths[len(want)]++
				for _, name := range names {
					if got, e := hand.Route(s.fr, s.c, f, name); e != api.OK || !slices.Equal(got, want) {
						t.Fatalf("%v: %d to %v: %v, %d, not %v", s, f, name, got, e, want)
					}
				}
			}
		}
	}
	for n := range 4 {
		if lengths[n] < 20 {
			t.Errorf("%d routes of length %d", lengths[n], n)
		}
	}
}

// spiral returns a string that goes n times around the fingers 1 to 3, with n loops on finger 1 and on finger 3; from the innermost turn it leads back over all others.
func spiral(n int) api.Code {
	pass := func(gate, rank int) api.Letter { return api.Letter{Kind: api.Pass, Gate: gate, Rank: rank} }
	c := api.Code{Fingers: 3}
	for i := range n {
		loop := i + 1
		c.Letters = append(c.Letters, pass(0, loop), pass(1, n+1-loop), pass(2, loop), pass(3, n+1-loop))
		if loop < n {
			c.Letters = append(c.Letters, api.Letter{Kind: api.Cross, ID: loop, Sign: 1})
		}
	}
	for i := n - 1; i > 0; i-- {
		c.Letters = append(c.Letters, api.Letter{Kind: api.Cross, ID: i, Sign: 1, Over: true})
	}
	return c
}

// P6.3: a route that crosses many strings, of which there are very many paths.
func TestLongRoute(t *testing.T) {
	fr := frame(t, "L1", "L2", "R1")
	c := spiral(20)
	var want []api.String
	for i := range 20 {
		want = append(want, far(1, i+1, 0))
	}
	got, e := hand.Route(fr, c, 2, near(1, 20, 0))
	if e != api.OK || !slices.Equal(got, want) {
		t.Errorf("%v, %d", got, e)
	}
	for i := 20; i > 1; i-- {
		want = append(want, near(1, i, 0))
	}
	got, e = hand.Route(fr, c, 2, near(1, 1, 0))
	if e != api.OK || !slices.Equal(got, want) {
		t.Errorf("%v, %d", got, e)
	}
	fr.Reach, fr.Loops = 40, 20
	after, e := scene{fr, c}.do(take(2, near(1, 1, 0), true))
	if e != api.OK || code.Crossings(after) != 19+2*39 {
		t.Errorf("%s, %d", code.Print(after), e)
	}
	fr.Reach = 38
	if _, e = (scene{fr, c}).do(take(2, near(1, 1, 0), true)); e != api.ErrReach {
		t.Error(e)
	}
}
