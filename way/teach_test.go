package way_test

import (
	"math/rand"
	"testing"

	"catscradle/api"
	"catscradle/code"
	"catscradle/ease"
	"catscradle/hand"
	"catscradle/way"
)

// P8.5: lessons worked out by hand.
func TestTeachExamples(t *testing.T) {
	fr := standard(t)
	const thumbs = "10: 0.1 1.1 9.1 10.1"
	picked := pick(6, near(10, 0), over(far(10, 1)))
	for i, c := range []struct {
		c, wrong string
		r        api.Rules
		series   []api.Op
		want     api.Lesson
		e        api.Errno
	}{
		{thumbs, "10: 1.1 2.1 9.1 10.1", rules(2, api.OpRelease), []api.Op{release(1)}, api.Lesson{Ops: []api.Op{release(2)}, At: 1, Next: release(2)}, api.OK},
		{thumbs, "10: 1.1 2.1 9.1 10.1", rules(0, api.OpRelease), []api.Op{release(1)}, api.Lesson{}, api.ErrNone},
		{thumbs, "10: 1.1 2.1 9.1 10.1", rules(2, api.OpNavaho), []api.Op{release(1)}, api.Lesson{}, api.ErrNone},
		{thumbs, "10: 1.1 2.1 9.1 10.1", rules(2, api.OpRelease), nil, api.Lesson{}, api.ErrNone},
		// Without a mistake, the series goes on.
		{thumbs, thumbs, rules(0), []api.Op{release(1), release(10)}, api.Lesson{Next: release(1)}, api.OK},
		{thumbs, "10: 9.1 10.1", rules(0), []api.Op{release(1), release(10)}, api.Lesson{At: 1, Next: release(10)}, api.OK},
		{thumbs, "10:", rules(0), []api.Op{release(1), release(10)}, api.Lesson{At: 2, Done: true}, api.OK},
		{thumbs, thumbs, rules(0), nil, api.Lesson{Done: true}, api.OK},
		{thumbs, thumbs, rules(0), []api.Op{picked}, api.Lesson{Next: picked}, api.OK},
		// Slack does not matter, and the wrong code need not be posed.
		{thumbs, "10: 0.1 1.1 4.1 4.2 9.1 10.1", rules(3, all()...), []api.Op{release(1)}, api.Lesson{Next: release(1)}, api.OK},
		{thumbs, "10: 0.1 3.1", rules(3, all()...), []api.Op{release(1)}, api.Lesson{}, api.ErrNone},
		{thumbs, "10: 4.1 4.2", rules(3, all()...), []api.Op{release(1), release(10)}, api.Lesson{At: 2, Done: true}, api.OK},
		// A series that comes back: the greatest index counts.
		{thumbs, thumbs, rules(0), []api.Op{twist(1, true), twist(1, false)}, api.Lesson{At: 2, Done: true}, api.OK},
		{thumbs, thumbs, rules(0), []api.Op{twist(1, true), twist(1, false), release(1)}, api.Lesson{At: 2, Next: release(1)}, api.OK},
		// A correction that leads to the end is not done yet.
		{thumbs, "10: 1.1 2.1", rules(1, api.OpRelease), []api.Op{release(1), release(10)}, api.Lesson{Ops: []api.Op{release(2)}, At: 2, Next: release(2)}, api.OK},
		// The search is cut off, or what was found before that counts.
		{thumbs, "10: 1.1 2.1 9.1 10.1", api.Rules{Kinds: []api.OpKind{api.OpRelease}, Depth: 2, Nodes: 1, Limit: 1}, []api.Op{release(1)}, api.Lesson{}, api.ErrOpen},
		{thumbs, "10: 1.1 2.1 9.1 10.1", api.Rules{Kinds: []api.OpKind{api.OpRelease}, Depth: 2, Nodes: 2, Limit: 1}, []api.Op{release(1)}, api.Lesson{Ops: []api.Op{release(2)}, At: 1, Next: release(2)}, api.OK},
	} {
		start, wrong := read(t, c.c), read(t, c.wrong)
		got, e := way.Teach(fr, start, wrong, c.r, c.series...)
		if e != c.e || !equalLessons(got, c.want) {
			t.Errorf("case %d: %+v, %d", i, got, e)
		}
		if e == api.OK && !way.Check(fr, start, wrong, c.r.Limit, got, c.series...) {
			t.Errorf("case %d: the lesson is refused", i)
		}
	}
}

// P8.5: forms that are not whole leave it open whether there is a lesson.
func TestTeachOpen(t *testing.T) {
	fr := frame(t, "L1", "L2", "R1")
	two, right := read(t, "3: 0.1 1.1 1.2 2.1"), read(t, "3: 2.1 3.1")
	r := rules(0)
	r.Limit = 1
	for i, c := range []struct {
		c, wrong api.Code
		series   []api.Op
		e        api.Errno
	}{
		{two, right, []api.Op{release(1)}, api.ErrNone},
		// The form of the last code of the film, and that of the first one.
		{two, right, []api.Op{twist(1, true)}, api.ErrOpen},
		{read(t, "3: 1.1 0.1 1u+ 1.2 2.1 1o+"), right, []api.Op{release(1)}, api.ErrOpen},
		{right, read(t, "3: 1.1 0.1 1u+ 1.2 2.1 1o+"), nil, api.ErrOpen},
	} {
		if got, e := way.Teach(fr, c.c, c.wrong, r, c.series...); e != c.e || !equalLessons(got, api.Lesson{}) {
			t.Errorf("case %d: %+v, %d", i, got, e)
		}
		r100 := r
		r100.Limit = 100
		if got, e := way.Teach(fr, c.c, c.wrong, r100, c.series...); e != api.ErrNone || !equalLessons(got, api.Lesson{}) {
			t.Errorf("case %d, whole: %+v, %d", i, got, e)
		}
	}
}

// mistaken returns a code to which somebody may have come who follows a series: one of the film, with a wrong operation or two.
func mistaken(r *rand.Rand, s scene, ops []api.Op) api.Code {
	film, _ := slowFilm(s.fr, s.c, ops)
	s.c = film[r.Intn(len(film))]
	for range r.Intn(3) {
		if op, ok := s.choice(r, all()...); ok {
			s.c, _, _ = hand.Do(s.fr, s.c, op)
		}
	}
	if r.Intn(2) == 0 {
		s.c = shaken(r, s.c)
	}
	return traveled(r, s.c)
}

// P8.5: Teach returns what its section says, Check accepts it, and no shorter list of choices leads back.
func TestTeach(t *testing.T) {
	r := rand.New(rand.NewSource(7))
	errors, lengths := map[api.Errno]int{}, map[int]int{}
	done := 0
	for range 3 {
		for _, s := range samples() {
			ops := s.series(r, r.Intn(4))
			rules := randomRules(r)
			wrong := mistaken(r, s, ops)
			want, f := slowTeach(s.fr, s.c, wrong, rules, ops)
			got, e := way.Teach(s.fr, s.c, wrong, rules, ops...)
			if e != f || !equalLessons(got, want) {
				t.Fatalf("%v, %v, %s, %v: %+v, %d, not %+v, %d", s, ops, code.Print(wrong), rules, got, e, want, f)
			}
			errors[e]++
			if e != api.OK {
				continue
			}
			lengths[len(got.Ops)]++
			if got.Done {
				done++
			}
			if !way.Check(s.fr, s.c, wrong, rules.Limit, got, ops...) {
				t.Errorf("%v, %s: %+v is refused", s, code.Print(wrong), got)
			}
			film, _ := slowFilm(s.fr, s.c, ops)
			n := len(got.Ops) - 1
			if n >= 0 && small(scene{s.fr, wrong}, rules, n) && reachable(s.fr, wrong, rules, n, film) {
				t.Errorf("%v, %s: there is a shorter way than %+v", s, code.Print(wrong), got)
			}
		}
	}
	if errors[api.OK] < 100 || errors[api.ErrNone] < 30 || errors[api.ErrOpen] < 30 || lengths[0] < 50 || lengths[1] < 30 || lengths[2] < 5 || done < 20 {
		t.Error(errors, lengths, done)
	}
}

// lesson returns a lesson that is not done.
func lesson(at int, next api.Op, ops ...api.Op) api.Lesson {
	return api.Lesson{Ops: ops, At: at, Next: next}
}

// report is a lesson for a wrong code, and what Check says of it.
type report struct {
	wrong api.Code
	l     api.Lesson
	want  bool
}

// taught returns a code and a series of operations, of which the last one has a path, and the film.
func taught(t *testing.T) (api.Code, []api.Op, []api.Code) {
	t.Helper()
	start := read(t, "10: 0.1 1.1 1.2 2.1 9.1 10.1")
	series := []api.Op{release(2), pick(3, far(1, 0)), pick(5, near(1, 0), over(far(3, 1)))}
	return start, series, must[[]api.Code](t)(way.Film(standard(t), start, series...))
}

// compare tries Check for the code and the series of taught.
func compare(t *testing.T, reports []report) {
	t.Helper()
	start, series, _ := taught(t)
	for i, c := range reports {
		if got := way.Check(standard(t), start, c.wrong, 100, c.l, series...); got != c.want {
			t.Errorf("case %d: %v", i, got)
		}
	}
}

// P8.5: Check refuses lessons whose corrections are not right.
func TestCheckCorrections(t *testing.T) {
	_, series, film := taught(t)
	start, wrong := film[0], read(t, "10: 0.1 1.1 3.1 4.1 9.1 10.1")
	loose := read(t, "10: 0.1 1.1 4.1 4.2 9.1 10.1")
	compare(t, []report{
		{wrong, lesson(1, release(4), release(4)), true},
		{wrong, lesson(1, release(4), release(4), release(4)), false},
		{wrong, lesson(1, release(4)), false},
		{wrong, lesson(1, api.Op{}, release(4)), false},
		{wrong, lesson(1, release(2), release(4)), false},
		{wrong, lesson(1, navaho(4), release(4)), false},
		{wrong, lesson(1, series[1], release(4)), false},
		{wrong, lesson(0, release(4), release(4)), false},
		{wrong, lesson(2, release(4), release(4)), false},
		{wrong, lesson(1, release(3), release(3)), false},
		{wrong, api.Lesson{Ops: []api.Op{release(4)}, At: 1, Next: release(4), Done: true}, false},
		// A correction may be longer than it has to be, and its operations need not be choices.
		{wrong, lesson(1, twist(4, true), twist(4, true), release(4)), true},
		{wrong, lesson(1, release(4), twist(4, true), release(4)), false},
		{wrong, lesson(2, release(4), release(4), series[1]), true},
		{wrong, lesson(1, release(4), release(4), twist(10, true), twist(10, false)), true},
		{wrong, lesson(1, api.Op{Kind: api.OpDrop, Finger: 4}, api.Op{Kind: api.OpDrop, Finger: 4}), true},
		{start, lesson(1, twist(2, false), twist(2, false), release(2)), true},
		{start, lesson(1, twist(2, true), twist(2, false), release(2)), false},
		// The wrong code need not be posed if nothing is corrected.
		{loose, lesson(1, series[1]), true},
		{loose, lesson(2, series[1], series[1]), false},
		{api.Code{Fingers: 9}, lesson(0, series[0]), false},
		{api.Code{Fingers: 10, Letters: start.Letters[:1]}, lesson(0, series[0]), false},
	})
}

// P8.5: Check refuses lessons that go on in a wrong way.
func TestCheckNext(t *testing.T) {
	_, series, film := taught(t)
	under := pick(5, near(1, 0), api.Step{At: far(3, 1)})
	empty := series[1]
	empty.Path = []api.Step{}
	compare(t, []report{
		{film[0], lesson(0, series[0]), true},
		{film[1], lesson(1, series[1]), true},
		{film[1], lesson(1, empty), true},
		{film[1], lesson(0, series[0]), false},
		{film[2], lesson(2, series[2]), true},
		{film[2], lesson(2, under), false},
		{film[2], lesson(2, pick(5, near(1, 0))), false},
		{film[2], lesson(2, pick(5, near(1, 1), over(far(3, 1)))), false},
		{film[2], lesson(2, pick(4, near(1, 0), over(far(3, 1)))), false},
		{film[2], lesson(2, take(5, near(1, 0), true)), false},
		{film[2], lesson(3, series[2], series[2]), true},
		{film[2], lesson(3, under, series[2]), false},
		{film[2], lesson(3, under, under), false},
		{film[3], api.Lesson{At: 3, Done: true}, true},
		{film[3], api.Lesson{At: 3}, false},
		{film[3], api.Lesson{At: 3, Next: series[2], Done: true}, false},
		{film[3], api.Lesson{At: 2, Done: true}, false},
		// No index of the film.
		{film[3], api.Lesson{At: 4, Done: true}, false},
		{film[0], lesson(-1, series[0]), false},
		{film[0], api.Lesson{At: -1}, false},
	})
}

// P8.5: Check refuses arguments that Teach refuses.
func TestCheckArguments(t *testing.T) {
	fr := standard(t)
	thumbs := read(t, "10: 0.1 1.1 9.1 10.1")
	l := api.Lesson{Next: release(1)}
	for _, limit := range []int{1, 7, api.MaxClass} {
		if !way.Check(fr, thumbs, thumbs, limit, l, release(1)) {
			t.Errorf("limit %d", limit)
		}
	}
	for _, limit := range []int{0, -1, api.MaxClass + 1} {
		if way.Check(fr, thumbs, thumbs, limit, l, release(1)) {
			t.Errorf("limit %d", limit)
		}
	}
	invalid := fr
	invalid.Reach = 41
	loose := read(t, "10: 0.1 1.1 4.1 4.2 9.1 10.1")
	if way.Check(invalid, thumbs, thumbs, 10, l, release(1)) || way.Check(frame(t, "L1"), thumbs, thumbs, 10, l, release(1)) || way.Check(fr, loose, thumbs, 10, l, release(1)) || way.Check(fr, thumbs, thumbs, 10, l, release(1), release(1)) || way.Check(fr, thumbs, thumbs, 10, l) {
		t.Error("arguments that are wrong")
	}
	if !way.Check(fr, thumbs, loose, 10, l, release(1)) {
		t.Error("a wrong code that is not posed")
	}
	// Forms up to the limit: the class of this code is not whole up to 1.
	three := frame(t, "L1", "L2", "R1")
	one := read(t, "3: 0.1 1.1 1u- 2.1 1.2 1o-")
	class, _, e := ease.Class(one, 2)
	if e != api.OK || len(class) != 2 {
		t.Fatal(prints(class), e)
	}
	if way.Check(three, one, class[1], 1, api.Lesson{Done: true}) || !way.Check(three, one, class[1], 2, api.Lesson{Done: true}) {
		t.Error("the limit of the forms")
	}
}
