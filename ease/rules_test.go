package ease_test

import (
	"math"
	"math/rand"
	"slices"
	"testing"

	"catscradle/api"
	"catscradle/code"
	"catscradle/ease"
)

// spoil overwrites the letters of a code, and what may lie behind them.
func spoil(c api.Code) {
	l := c.Letters[:cap(c.Letters)]
	for i := range l {
		l[i] = api.Letter{Gate: -7}
	}
}

// spoilMoves overwrites moves, and what may lie behind them.
func spoilMoves(l []api.Move) {
	clear(l[:cap(l)])
}

// answers are the results of all calls for a code and another one.
type answers struct {
	reduced api.Code
	moves   []api.Move
	class   []api.Code
	form    api.Form
	bare    []api.Move
	joint   api.Joint
	check   bool
}

func ask(a, b api.Code) answers {
	var all answers
	all.reduced, all.moves, _ = ease.Reduce(a)
	all.class, _, _ = ease.Class(a, 12)
	all.form, _ = ease.Make(a, 12)
	all.bare, _ = ease.Bare(a, 12)
	all.joint, _ = ease.Join(a, b, 12)
	all.check = ease.Check(a, b, all.joint)
	return all
}

func (a answers) equal(b answers) bool {
	joints := slices.Equal(a.joint.Left, b.joint.Left) && slices.Equal(a.joint.Right, b.joint.Right)
	return equal(a.reduced, b.reduced) && slices.Equal(a.moves, b.moves) && slices.EqualFunc(a.class, b.class, equal) && equalForms(a.form, b.form) && slices.Equal(a.bare, b.bare) && joints && a.check == b.check
}

func (a answers) spoil() {
	spoil(a.reduced)
	spoil(a.form.Code)
	for _, c := range a.class {
		spoil(c)
	}
	for _, l := range [][]api.Move{a.moves, a.form.Path, a.bare, a.joint.Left, a.joint.Right} {
		spoilMoves(l)
	}
}

// R4, R8: arguments are neither changed nor kept, results share no memory, and equal calls have equal results.
func TestMemory(t *testing.T) {
	r := rand.New(rand.NewSource(73))
	for _, c := range samples() {
		a, b := copied(c), loosened(r, c, 20, 34)
		one, two := ask(a, b), ask(a, b)
		if !equal(a, c) || !one.equal(two) {
			t.Fatalf("an argument or a result is changed: %s", code.Print(c))
		}
		spoil(a)
		two.spoil()
		if three := ask(copied(c), b); !one.equal(three) {
			t.Fatalf("results share memory: %s", code.Print(c))
		}
	}
}

// R4: the codes of a class, and the paths of a joint, share no memory with each other.
func TestMemoryOfLists(t *testing.T) {
	for _, c := range tangles(20, 24) {
		l, _ := class(t, c, 20)
		want := make([]api.Code, len(l))
		for i, d := range l {
			want[i] = copied(d)
		}
		for i := range l {
			if !equal(l[i], want[i]) {
				t.Fatalf("the class of %s shares memory", code.Print(c))
			}
			spoil(l[i])
		}
		if j, e := ease.Join(c, c, 20); e == api.OK {
			right := slices.Clone(j.Right)
			spoilMoves(j.Left)
			if !slices.Equal(j.Right, right) {
				t.Fatalf("the joint of %s shares memory", code.Print(c))
			}
		}
	}
}

// R4: Check changes no moves.
func TestMovesKept(t *testing.T) {
	r := rand.New(rand.NewSource(79))
	for range 50 {
		l := relatives(r, 2, 12)
		j, _ := ease.Join(l[0], l[1], 20)
		arg := api.Joint{Left: slices.Clone(j.Left), Right: slices.Clone(j.Right)}
		ease.Check(l[0], l[1], arg)
		if !slices.Equal(arg.Left, j.Left) || !slices.Equal(arg.Right, j.Right) {
			t.Fatalf("Check changes %s; %s", show(j.Left), show(j.Right))
		}
	}
}

// R4: Compare and Least keep to their arguments.
func TestCodesKept(t *testing.T) {
	l := []api.Code{copied(samples()[30]), copied(samples()[20])}
	ease.Least(l...)
	ease.Compare(l[0], l[1])
	if !equal(l[0], samples()[30]) || !equal(l[1], samples()[20]) {
		t.Error(list(l))
	}
}

// R3: nil and empty lists are the same.
func TestEmpty(t *testing.T) {
	bare := api.Code{Fingers: 2}
	empty := api.Code{Fingers: 2, Letters: []api.Letter{}}
	if !ask(bare, empty).equal(ask(empty, bare)) {
		t.Error("the bare loop")
	}
	if ease.Compare(bare, empty) != 0 || ease.Least(bare, empty) != 0 || ease.Least([]api.Code{}...) != -1 {
		t.Error("the order")
	}
	if !ease.Check(bare, empty, api.Joint{Left: []api.Move{}}) {
		t.Error("Check")
	}
}

// errorsOf returns the errors of all calls for codes and a limit.
func errorsOf(t *testing.T, a, b api.Code, limit int) map[string]api.Errno {
	t.Helper()
	reduced, moves, e1 := ease.Reduce(a)
	class, whole, e2 := ease.Class(a, limit)
	form, e3 := ease.Make(a, limit)
	bare, e4 := ease.Bare(a, limit)
	joint, e5 := ease.Join(a, b, limit)
	zero := map[string]bool{
		"Reduce": e1 == api.OK || equal(reduced, api.Code{}) && len(moves) == 0,
		"Class":  e2 == api.OK || len(class) == 0 && !whole,
		"Make":   e3 == api.OK || equalForms(form, api.Form{}),
		"Bare":   e4 == api.OK || len(bare) == 0,
		"Join":   e5 == api.OK || len(joint.Left)+len(joint.Right) == 0,
	}
	for name, is := range zero {
		if !is {
			t.Errorf("%s returns a result with an error: %s, %s, %d", name, code.Print(a), code.Print(b), limit)
		}
	}
	return map[string]api.Errno{"Reduce": e1, "Class": e2, "Make": e3, "Bare": e4, "Join": e5}
}

// R1, R2: the errors and their order.
func TestErrors(t *testing.T) {
	good, other := read(t, "2: 0.1 1.1"), read(t, "3: 0.1 1.1")
	long, far, bad := snake(402), api.Code{Fingers: 41}, api.Code{Fingers: 1, Letters: []api.Letter{pass(0, 1)}}
	for _, c := range []struct {
		a, b          api.Code
		limit         int
		alone, joined api.Errno
	}{
		{good, good, 1, api.OK, api.OK},
		{good, good, api.MaxClass, api.OK, api.OK},
		{good, good, 0, api.ErrArg, api.ErrArg},
		{good, good, -1, api.ErrArg, api.ErrArg},
		{good, good, math.MinInt, api.ErrArg, api.ErrArg},
		{good, good, api.MaxClass + 1, api.ErrArg, api.ErrArg},
		{good, good, math.MaxInt, api.ErrArg, api.ErrArg},
		{good, other, 1, api.OK, api.ErrArg},
		{good, other, 0, api.ErrArg, api.ErrArg},
		{long, far, 0, api.ErrLong, api.ErrLong},
		{far, long, 0, api.ErrArg, api.ErrArg},
		{bad, long, 0, api.ErrCode, api.ErrCode},
		{good, bad, 0, api.ErrArg, api.ErrCode},
		{other, bad, 1, api.OK, api.ErrCode},
		{good, long, 0, api.ErrArg, api.ErrLong},
		{bad, good, 1, api.ErrCode, api.ErrCode},
	} {
		for name, e := range errorsOf(t, c.a, c.b, c.limit) {
			want := c.alone
			switch {
			case name == "Join":
				want = c.joined
			case name == "Bare" && c.alone == api.OK:
				want = api.ErrOpen
			case name == "Reduce" && code.Check(c.a) == api.OK:
				want = api.OK
			}
			if e != want {
				t.Errorf("%s(%s, %s, %d): the error %d, not %d", name, code.Print(c.a), code.Print(c.b), c.limit, e, want)
			}
		}
	}
}

// P0.1, R2, R5: no arguments make a function panic, and with an error a result is a zero value.
func TestAnyValue(t *testing.T) {
	r := rand.New(rand.NewSource(83))
	all := append(randomCodes(r, 200), snake(402), snake(401), kinks(2, 101), kinks(2, 2000))
	for range 300 {
		c := copied(samples()[r.Intn(60)])
		if len(c.Letters) > 0 {
			l := &c.Letters[r.Intn(len(c.Letters))]
			for _, field := range []*int{&l.Gate, &l.Rank, &l.ID, &l.Sign} {
				*field += []int{0, 0, 1, -1, math.MaxInt}[r.Intn(5)]
			}
		}
		all = append(all, c)
	}
	for _, a := range all {
		b := all[r.Intn(len(all))]
		limit := []int{math.MinInt, -1, 0, 1, 2, 5, 20001, math.MaxInt}[r.Intn(8)]
		want := code.Check(a)
		for name, e := range errorsOf(t, a, b, limit) {
			if want != api.OK && e != want {
				t.Fatalf("%s(%v): the error %d, not %d", name, a, e, want)
			}
		}
		m := api.Move{Kind: api.MoveKind(r.Intn(13) - 1), A: r.Intn(5) - 1, B: r.Intn(3), C: r.Intn(3), Left: r.Intn(2) == 0, Sign: r.Intn(3) - 1}
		if ease.Check(a, b, api.Joint{Left: []api.Move{m}, Right: []api.Move{m}}) && (want != api.OK || code.Check(b) != api.OK || a.Fingers != b.Fingers) {
			t.Fatalf("Check accepts %v and %v", a, b)
		}
		ease.Compare(a, b)
		ease.Least(a, b, a)
	}
}
