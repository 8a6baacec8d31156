package code_test

import (
	"maps"
	"slices"
	"testing"

	"catscradle/api"
	"catscradle/code"
)

// stretch is a directed edge of the map: an edge of the string, forwards or backwards, or a piece of the axis, to the right or to the left.
type stretch struct {
	axis bool
	at   int // an edge of the string, or the index of the pass at the left end of the piece
	back bool
}

// slowMap is a code with its passes from left to right.
type slowMap struct {
	c    api.Code
	axis []int
}

func newSlowMap(c api.Code) slowMap {
	m := slowMap{c: c}
	for i, l := range c.Letters {
		if l.Kind == api.Pass {
			m.axis = append(m.axis, i)
		}
	}
	slices.SortFunc(m.axis, func(p, q int) int {
		return (c.Letters[p].Gate-c.Letters[q].Gate)*1000 + c.Letters[p].Rank - c.Letters[q].Rank
	})
	return m
}

// down reports whether a pass goes down.
func (m slowMap) down(i int) bool {
	before := 0
	for _, l := range m.c.Letters[:i] {
		if l.Kind == api.Pass {
			before++
		}
	}
	return before%2 == 0
}

// next returns what one leaves along who comes along a stretch and turns left: the table of the chapter, line by line.
func (m slowMap) next(s stretch) stretch {
	n, passes := len(m.c.Letters), len(m.axis)
	if s.axis {
		pass, upwards := m.axis[(s.at+1)%passes], true
		if s.back {
			pass, upwards = m.axis[s.at], false
		}
		if m.down(pass) == upwards {
			return stretch{at: (pass + n - 1) % n, back: true}
		}
		return stretch{at: pass}
	}
	end := (s.at + 1) % n
	if s.back {
		end = s.at
	}
	l := m.c.Letters[end]
	if l.Kind == api.Pass {
		spot := slices.Index(m.axis, end)
		if m.down(end) != s.back {
			return stretch{axis: true, at: spot}
		}
		return stretch{axis: true, at: (spot + passes - 1) % passes, back: true}
	}
	other := slices.IndexFunc(m.c.Letters, func(o api.Letter) bool {
		return o.Kind == api.Cross && o.ID == l.ID && o.Over != l.Over
	})
	back := s.back
	if l.Over && l.Sign == -1 || !l.Over && l.Sign == 1 {
		back = !back
	}
	if back {
		return stretch{at: (other + n - 1) % n, back: true}
	}
	return stretch{at: other}
}

// slowFaces returns the descriptions of all faces.
func slowFaces(c api.Code) []api.Face {
	m := newSlowMap(c)
	met := map[stretch]bool{}
	var faces []api.Face
	for dart := range 2 * len(c.Letters) {
		s := stretch{at: dart / 2, back: dart%2 == 1}
		if met[s] {
			continue
		}
		last := 0
		for i := range s.at + 1 {
			if c.Letters[i].Kind == api.Pass {
				last = i
			}
		}
		f := api.Face{Above: !m.down(last)}
		for ; !met[s]; s = m.next(s) {
			met[s] = true
			if s.axis {
				m.walk(&f, s)
			} else {
				number := 2 * s.at
				if s.back {
					number++
				}
				f.Darts = append(f.Darts, number)
			}
		}
		faces = append(faces, f)
	}
	return faces
}

// walk adds to a face what it meets on a piece of the axis.
func (m slowMap) walk(f *api.Face, s stretch) {
	items := m.items(s.at)
	if s.at == len(m.axis)-1 {
		f.Outer = true
		items = slices.Concat(items, m.items(-1))
	}
	if s.back {
		slices.Reverse(items)
	}
	for _, item := range items {
		if finger, ok := item.(int); ok {
			f.Fingers = append(f.Fingers, finger)
		} else {
			f.Places = append(f.Places, item.(api.Place))
		}
	}
}

// items returns the places and fingers between a pass and the next one, from left to right, from a list of all that is on the axis.
func (m slowMap) items(spot int) []any {
	var all []any
	var cuts []int
	for gate := range m.c.Fingers + 1 {
		if gate > 0 {
			all = append(all, gate)
		}
		left := 0
		all = append(all, api.Place{Gate: gate})
		for _, p := range m.axis {
			if m.c.Letters[p].Gate == gate {
				left++
				cuts = append(cuts, len(all))
				all = append(all, api.Place{Gate: gate, Left: left})
			}
		}
	}
	cuts = append(cuts, len(all))
	if spot < 0 {
		return all[:cuts[0]]
	}
	return all[cuts[spot]:cuts[spot+1]]
}

// P2.2: Faces, its example, and others that were found by hand.
func TestFaces(t *testing.T) {
	places := func(numbers ...int) []api.Place {
		var result []api.Place
		for i := 0; i < len(numbers); i += 2 {
			result = append(result, api.Place{Gate: numbers[i], Left: numbers[i+1]})
		}
		return result
	}
	for _, c := range []struct {
		s    string
		want []api.Face
	}{
		{"2: 0.1 1.1", []api.Face{
			{Above: false, Darts: []int{0}, Places: places(1, 0, 0, 1), Fingers: []int{1}},
			{Above: false, Darts: []int{1}, Places: places(0, 0, 2, 0, 1, 1), Fingers: []int{2}, Outer: true},
			{Above: true, Darts: []int{2}, Places: places(0, 1, 1, 0), Fingers: []int{1}},
			{Above: true, Darts: []int{3}, Places: places(1, 1, 2, 0, 0, 0), Fingers: []int{2}, Outer: true},
		}},
		{"2: 0.1 1o+ 1u+ 1.1", []api.Face{
			{Above: false, Darts: []int{0, 4}, Places: places(1, 0, 0, 1), Fingers: []int{1}},
			{Above: false, Darts: []int{1, 5, 2}, Places: places(0, 0, 2, 0, 1, 1), Fingers: []int{2}, Outer: true},
			{Above: false, Darts: []int{3}},
			{Above: true, Darts: []int{6}, Places: places(0, 1, 1, 0), Fingers: []int{1}},
			{Above: true, Darts: []int{7}, Places: places(1, 1, 2, 0, 0, 0), Fingers: []int{2}, Outer: true},
		}},
		{"3: 2.1 1.1", []api.Face{
			{Above: false, Darts: []int{0}, Places: places(1, 0, 0, 0, 3, 0, 2, 1), Fingers: []int{1, 3}, Outer: true},
			{Above: false, Darts: []int{1}, Places: places(2, 0, 1, 1), Fingers: []int{2}},
			{Above: true, Darts: []int{2}, Places: places(2, 1, 3, 0, 0, 0, 1, 0), Fingers: []int{3, 1}, Outer: true},
			{Above: true, Darts: []int{3}, Places: places(1, 1, 2, 0), Fingers: []int{2}},
		}},
		{"0: 0.2 0.1", []api.Face{
			{Above: false, Darts: []int{0}, Places: places(0, 0, 0, 2), Outer: true},
			{Above: false, Darts: []int{1}, Places: places(0, 1)},
			{Above: true, Darts: []int{2}, Places: places(0, 2, 0, 0), Outer: true},
			{Above: true, Darts: []int{3}, Places: places(0, 1)},
		}},
		{"3:", nil},
	} {
		got, e := code.Faces(raw(c.s))
		if e != api.OK || !slices.EqualFunc(got, c.want, equalFaces) {
			t.Errorf("Faces(%s): %+v, %d", c.s, got, e)
		}
	}
}

func equalFaces(a, b api.Face) bool {
	return a.Above == b.Above && a.Outer == b.Outer && slices.Equal(a.Darts, b.Darts) && slices.Equal(a.Places, b.Places) && slices.Equal(a.Fingers, b.Fingers)
}

// P2.2: errors.
func TestFacesErrors(t *testing.T) {
	for _, c := range []struct {
		c api.Code
		e api.Errno
	}{
		{raw("2: 0.1"), api.ErrCode},
		{raw("41: 0.1 1.1"), api.ErrArg},
		{snake(401), api.ErrLong},
	} {
		if got, e := code.Faces(c.c); e != c.e || len(got) > 0 {
			t.Errorf("Faces(%s): %v, %d", code.Print(c.c), got, e)
		}
	}
}

// P2.2: Faces is what one finds with the table of the chapter.
func TestFacesIsSlowFaces(t *testing.T) {
	for _, c := range append(samples(), snake(400), kinks(3, 100)) {
		got, e := code.Faces(c)
		if slow := slowFaces(c); e != api.OK || !slices.EqualFunc(got, slow, equalFaces) {
			t.Fatalf("Faces(%s): %+v, %d instead of %+v", code.Print(c), got, e, slow)
		}
	}
}

// P2.2: each dart is on one face; each place and each finger on two, one above and one below; two faces are outer.
func TestFacesShare(t *testing.T) {
	for _, c := range samples() {
		if len(c.Letters) == 0 {
			continue
		}
		darts, outer := map[int]int{}, map[bool]int{}
		places, fingers := map[bool][]api.Place{}, map[bool][]int{}
		for _, f := range must[[]api.Face](t)(code.Faces(c)) {
			for _, dart := range f.Darts {
				darts[dart]++
			}
			places[f.Above] = append(places[f.Above], f.Places...)
			fingers[f.Above] = append(fingers[f.Above], f.Fingers...)
			if f.Outer {
				outer[f.Above]++
			}
		}
		for dart := range 2 * len(c.Letters) {
			if darts[dart] != 1 {
				t.Errorf("%s: dart %d is on %d faces", code.Print(c), dart, darts[dart])
			}
		}
		for _, above := range []bool{false, true} {
			count := map[any]int{}
			for _, p := range places[above] {
				count[p]++
			}
			for _, f := range fingers[above] {
				count[f]++
			}
			once := !slices.ContainsFunc(slices.Collect(maps.Values(count)), func(n int) bool { return n != 1 })
			if !once || len(places[above]) != code.Passes(c)+c.Fingers+1 || len(fingers[above]) != c.Fingers || outer[above] != 1 {
				t.Errorf("%s: above %v, the places %v, the fingers %v, %d outer faces", code.Print(c), above, places[above], fingers[above], outer[above])
			}
		}
	}
}
