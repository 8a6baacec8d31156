package code_test

import (
	"math"
	"math/rand"
	"slices"
	"strings"
	"testing"

	"catscradle/api"
	"catscradle/code"
)

// copied returns a code with letters of its own.
func copied(c api.Code) api.Code {
	return api.Code{Fingers: c.Fingers, Letters: slices.Clone(c.Letters)}
}

// R4 and R8: arguments are neither changed nor kept, and equal calls have equal results.
func TestMemory(t *testing.T) {
	for _, f := range calls() {
		for _, c := range samples() {
			arg := copied(c)
			first, e := f.do(arg)
			if !equal(arg, c) {
				t.Fatalf("%s changes %s", f.name, code.Print(c))
			}
			kept := copied(first)
			for i := range arg.Letters {
				arg.Letters[i].Gate = -7
			}
			if !equal(first, kept) {
				t.Fatalf("%s(%s) shares memory with its argument", f.name, code.Print(c))
			}
			second, e2 := f.do(copied(c))
			want(t, f.name, second, e2, kept, e)
			for i := range first.Letters {
				first.Letters[i].Gate = -7
			}
			if !equal(second, kept) {
				t.Fatalf("%s(%s): the results share memory", f.name, code.Print(c))
			}
		}
	}
}

// R4: the lists of faces share no memory, not even what lies behind their ends.
func TestFacesMemory(t *testing.T) {
	for _, c := range samples() {
		arg := copied(c)
		faces := must[[]api.Face](t)(code.Faces(arg))
		if !equal(arg, c) {
			t.Fatalf("Faces changes %s", code.Print(c))
		}
		again := must[[]api.Face](t)(code.Faces(arg))
		for i := range faces {
			_ = append(faces[i].Darts, -1, -1)
			_ = append(faces[i].Places, api.Place{Gate: -1}, api.Place{Gate: -1})
			_ = append(faces[i].Fingers, -1, -1)
		}
		if !slices.EqualFunc(faces, again, equalFaces) {
			t.Fatalf("the faces of %s share memory", code.Print(c))
		}
	}
}

// R3: nil and empty lists are the same.
func TestEmpty(t *testing.T) {
	empty := api.Code{Fingers: 3, Letters: []api.Letter{}}
	for _, f := range calls() {
		one, e := f.do(api.Code{Fingers: 3})
		two, e2 := f.do(empty)
		want(t, f.name, one, e, two, e2)
	}
	if same, e := code.Same(empty, api.Code{Fingers: 3}); !same || e != api.OK {
		t.Error("Same", same, e)
	}
	if code.Print(empty) != "3:" || code.Check(empty) != api.OK {
		t.Error(code.Print(empty), code.Check(empty))
	}
}

// P0.1, R2 and R5: no arguments make a function panic, and with an error a result is a zero value.
func TestAnyValue(t *testing.T) {
	r := rand.New(rand.NewSource(13))
	numbers := []int{math.MinInt, math.MinInt + 1, -400, -2, -1, 0, 1, 2, 3, 40, 41, 100, 400, math.MaxInt - 1, math.MaxInt}
	pick := func() int { return numbers[r.Intn(len(numbers))] }
	all := slices.Concat(samples()[:20], []api.Code{snake(401), snake(5000), kinks(1, 2000)})
	for range 3000 {
		c := api.Code{Fingers: r.Intn(4)}
		if r.Intn(4) == 0 {
			c.Fingers = pick()
		}
		for range r.Intn(8) {
			l := api.Letter{Kind: api.LetterKind(r.Intn(3)), Gate: r.Intn(2), Rank: r.Intn(3), ID: r.Intn(3), Sign: r.Intn(3) - 1, Over: r.Intn(2) == 0}
			if r.Intn(2) == 0 {
				l = api.Letter{Kind: api.LetterKind(pick()), Gate: pick(), Rank: pick(), ID: pick(), Sign: pick()}
			}
			c.Letters = append(c.Letters, l)
		}
		all = append(all, c)
	}
	for _, c := range all {
		e := code.Check(c)
		for _, f := range calls() {
			if got, e2 := f.do(c); e2 != api.OK && !equal(got, api.Code{}) || e != api.OK && e2 != e {
				t.Errorf("%s(%s): %s, %d", f.name, code.Print(c), code.Print(got), e2)
			}
		}
		for _, n := range numbers {
			code.Start(c, n)
			code.Forget(c, n)
			code.Insert(c, api.Place{Gate: n, Left: pick()})
			code.Circle(n, pick(), pick())
		}
		code.Passes(c)
		code.Crossings(c)
		word, e2 := code.Word(c)
		faces, e3 := code.Faces(c)
		if e2 != e || e3 != e || e != api.OK && len(word)+len(faces) > 0 {
			t.Errorf("%s: the errors %d, %d, %d", code.Print(c), e, e2, e3)
		}
		code.Parse(code.Print(c))
	}
	for range 2000 {
		var b strings.Builder
		for range r.Intn(12) {
			b.WriteByte("012:. ou+-?\xff"[r.Intn(12)])
		}
		if c, e := code.Parse(b.String()); e != api.OK && !equal(c, api.Code{}) || e == api.OK && code.Print(c) != b.String() {
			t.Errorf("Parse(%q): %s, %d", b.String(), code.Print(c), e)
		}
	}
}
