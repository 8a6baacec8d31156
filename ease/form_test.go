package ease_test

import (
	"math/rand"
	"testing"

	"catscradle/api"
	"catscradle/code"
	"catscradle/ease"
	"catscradle/move"
)

// P4.3: examples.
func TestMake(t *testing.T) {
	for _, c := range []struct {
		code  string
		limit int
		form  string
		path  string
		whole bool
	}{
		{"2: 1.1 0.1", 10, "2: 0.1 1.1", "", true},
		{"1: 0.1 0.2", 10, "1:", "axis-cut 0", true},
		{"3:", 1, "3:", "", true},
		{"2: 1.2 2.1 0.1 1o+ 1u+ 1.1", 1, "2: 0.1 2.1", "axis-cut 3, loop-cut 1", true},
		// The least code of the class is another one, which the limit 1 cuts off.
		{"1: 0.1 1u+ 1.1 0.2 1o+ 1.2", 2, "1: 0.1 1.2 1u+ 0.2 1.1 1o+", "axis-slide 0 3", true},
		{"1: 0.1 1u+ 1.1 0.2 1o+ 1.2", 1, "1: 0.1 1u+ 1.1 0.2 1o+ 1.2", "", false},
		{"1: 0.1 1.2 1u+ 0.2 1.1 1o+", 2, "1: 0.1 1.2 1u+ 0.2 1.1 1o+", "", true},
		{"1: 0.1 1.2 1u+ 0.2 1.1 1o+", 1, "1: 0.1 1.2 1u+ 0.2 1.1 1o+", "", false},
		// The second code of the class can be reduced.
		{"4: 2.1 4.2 1o- 3.1 2o+ 3.3 4.1 2u+ 3.2 1u-", 2, "4: 2.1 3.1", "axis-slide 2 8, pair-cut 3 7, axis-cut 2, axis-cut 1", true},
		{"4: 2.1 4.2 1o- 3.1 2o+ 3.3 4.1 2u+ 3.2 1u-", 1, "4: 2.1 4.2 1o- 3.1 2o+ 3.3 4.1 2u+ 3.2 1u-", "", false},
		{"1: 0.1 1u- 1.2 2u+ 3o+ 1.3 1o- 1.1 2o+ 3u+", 100, "1: 0.1 1.1", "axis-slide 1 5, axis-cut 6, pair-cut 2 5, loop-cut 2", true},
	} {
		f, e := ease.Make(read(t, c.code), c.limit)
		if e != api.OK || code.Print(f.Code) != c.form || show(f.Path) != c.path || f.Whole != c.whole {
			t.Errorf("Make(%s, %d): %s; %s; %v; %d, not %s; %s; %v", c.code, c.limit, code.Print(f.Code), show(f.Path), f.Whole, e, c.form, c.path, c.whole)
		}
	}
}

// P4.3: the path leads to the code of the form, which is its own normal form and cannot be reduced; whole forms are their own forms.
func TestForms(t *testing.T) {
	restarts, cut := 0, 0
	for _, c := range samples() {
		for _, limit := range []int{1, 5, 50} {
			f := must[api.Form](t)(ease.Make(c, limit))
			end := follow(t, normal(t, c), f.Path)
			if !equal(normal(t, end), f.Code) || !equal(normal(t, f.Code), f.Code) {
				t.Fatalf("Make(%s, %d): %s leads to %s, not to %s", code.Print(c), limit, show(f.Path), code.Print(end), code.Print(f.Code))
			}
			if reducing(t, f.Code) {
				t.Fatalf("Make(%s, %d): %s can be reduced", code.Print(c), limit, code.Print(f.Code))
			}
			if restarted(f.Path) {
				restarts++
			}
			if !f.Whole {
				cut++
				continue
			}
			again := must[api.Form](t)(ease.Make(f.Code, limit))
			if !equal(again.Code, f.Code) || len(again.Path) > 0 || !again.Whole {
				t.Fatalf("Make(%s, %d): %s; %s", code.Print(f.Code), limit, code.Print(again.Code), show(again.Path))
			}
		}
	}
	if restarts < 20 || cut < 20 {
		t.Errorf("%d forms after a new beginning, %d forms of classes that are cut off", restarts, cut)
	}
}

// restarted reports whether a reducing move follows a level move.
func restarted(l []api.Move) bool {
	level := false
	for _, m := range l {
		if m.Kind == api.AxisSlide || m.Kind == api.Triangle {
			level = true
		} else if level {
			return true
		}
	}
	return false
}

// P4.3: the form depends only on the normal form.
func TestFormOfNormal(t *testing.T) {
	for _, c := range samples() {
		want := must[api.Form](t)(ease.Make(normal(t, c), 20))
		for _, d := range []api.Code{c, renumbered(c), must[api.Code](t)(code.Back(c))} {
			if f := must[api.Form](t)(ease.Make(d, 20)); !equalForms(f, want) {
				t.Fatalf("Make(%s): %s; %s, not %s; %s", code.Print(d), code.Print(f.Code), show(f.Path), code.Print(want.Code), show(want.Path))
			}
		}
	}
}

// renumbered returns a code whose crossings have the IDs in the opposite order.
func renumbered(c api.Code) api.Code {
	d := copied(c)
	for i, l := range d.Letters {
		if l.Kind == api.Cross {
			d.Letters[i].ID = code.Crossings(c) + 1 - l.ID
		}
	}
	return d
}

// P4.6: all codes of a whole class that cannot be reduced have the same form.
func TestFormsOfClass(t *testing.T) {
	several := 0
	for _, c := range tangles(100, 24) {
		l, whole := class(t, c, 40)
		reducible := false
		for _, d := range l {
			reducible = reducible || reducing(t, d)
		}
		if !whole || reducible {
			continue
		}
		several++
		want := must[api.Form](t)(ease.Make(c, 40))
		for _, d := range l {
			if f := must[api.Form](t)(ease.Make(d, 40)); !equal(f.Code, want.Code) || !f.Whole {
				t.Fatalf("Make(%s): %s; Make(%s): %s", code.Print(d), code.Print(f.Code), code.Print(c), code.Print(want.Code))
			}
		}
	}
	if several < 20 {
		t.Errorf("%d classes", several)
	}
}

// P4.3: examples of Bare, which returns the path of the form.
func TestBare(t *testing.T) {
	for _, c := range []struct {
		code string
		want string
		e    api.Errno
	}{
		{"1: 0.1 0.2", "axis-cut 0", api.OK},
		{"1:", "", api.OK},
		{"2: 0.1 1.1", "", api.ErrOpen},
		{"1: 0.1 0.2 1u+ 1o+", "loop-cut 2, axis-cut 0", api.OK},
		{"1: 0.1 1u- 1.2 2u+ 3o+ 1.3 1o- 1.1 2o+ 3u+", "", api.ErrOpen},
	} {
		if l, e := ease.Bare(read(t, c.code), 10); show(l) != c.want || e != c.e {
			t.Errorf("Bare(%s): %s; %d, not %s; %d", c.code, show(l), e, c.want, c.e)
		}
	}
}

func TestBareForms(t *testing.T) {
	r := rand.New(rand.NewSource(41))
	bare := 0
	for i := range 300 {
		c := loosened(r, api.Code{Fingers: i % 4}, 150, 24)
		limit := 1 + i%20
		f := must[api.Form](t)(ease.Make(c, limit))
		l, e := ease.Bare(c, limit)
		if len(f.Code.Letters) > 0 {
			if e != api.ErrOpen || len(l) > 0 {
				t.Fatalf("Bare(%s, %d): %s; %d", code.Print(c), limit, show(l), e)
			}
			continue
		}
		bare++
		if end, _, wrong := move.Replay(normal(t, c), l); e != api.OK || wrong != api.OK || show(l) != show(f.Path) || code.Print(end) != code.Print(f.Code) {
			t.Fatalf("Bare(%s, %d): %s; %d", code.Print(c), limit, show(l), e)
		}
	}
	if bare < 100 {
		t.Errorf("%d codes led to the bare loop", bare)
	}
}
