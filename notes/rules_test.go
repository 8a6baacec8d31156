package notes_test

import (
	"math"
	"math/rand"
	"slices"
	"testing"

	"catscradle/api"
	"catscradle/notes"
)

// R4 and R8: arguments are neither changed nor kept, results share no memory, and equal calls have equal results.
func TestMemory(t *testing.T) {
	fr := standard(t)
	path := []api.Step{over(near(6, 0, 0)), under(far(1, 0, 0)), over(near(2, 0, 0))}
	ops := []api.Op{pick(9, near(5, 0, 0), path[:1]...), pick(9, near(5, 0, 0), path[1:]...)}
	text := must[string](t)(notes.Signs(fr, ops...))
	lines := must[string](t)(notes.Lines(fr, ops...))
	if !slices.Equal(path, []api.Step{over(near(6, 0, 0)), under(far(1, 0, 0)), over(near(2, 0, 0))}) || !equalOps(ops[0], pick(9, near(5, 0, 0), path[0])) {
		t.Error("arguments were changed")
	}
	for range 2 {
		one := must[[]api.Op](t)(notes.ReadSigns(fr, text))
		two, _, _ := notes.ReadLines(fr, lines)
		for _, l := range [][]api.Op{one, two} {
			if !slices.EqualFunc(l, ops, equalOps) {
				t.Fatal("another result", l)
			}
			_ = append(l[0].Path, api.Step{}, api.Step{})
			l[0].Path[0] = api.Step{}
			if !equalOps(l[1], ops[1]) {
				t.Error("paths share memory")
			}
			clear(l)
		}
	}
	s := "L1.1> 1u 1o 2u 2o"
	for range 2 {
		codes := must[[]api.Code](t)(notes.ReadSequence(fr, s))
		if len(codes) != 4 {
			t.Fatal(len(codes))
		}
		kept := copied(codes[1])
		_ = append(codes[0].Letters, codes[2].Letters...)
		clear(codes[0].Letters)
		clear(codes[2].Letters)
		if !equal(codes[1], kept) {
			t.Error("codes share memory")
		}
	}
	c := read(t, "10: 1.1 0.1 1u+ 9.1 10.1 1o+")
	kept := copied(c)
	if n := must[int](t)(notes.Signless(fr, c)); n != 1 || !equal(c, kept) || must[string](t)(notes.Sequence(fr, c)) != "L1.1< 1u R1.1> 1o" || !equal(c, kept) {
		t.Error("the code was changed")
	}
}

// R3: nil and empty lists are the same.
func TestEmpty(t *testing.T) {
	fr := api.Frame{Fingers: []api.Finger{}, Loops: 1}
	if s, e := notes.Sequence(fr, api.Code{Letters: []api.Letter{}}); s != "bare" || e != api.OK {
		t.Error(s, e)
	}
	if codes, e := notes.ReadSequence(fr, "bare"); len(codes) != 1 || !equal(codes[0], api.Code{}) || e != api.OK {
		t.Error(codes, e)
	}
	if codes, e := notes.ReadSequence(standard(t), "bare"); len(codes) != 1 || !equal(codes[0], api.Code{Fingers: 10}) || e != api.OK {
		t.Error(codes, e)
	}
	one := frame(t, "L1")
	for _, op := range []api.Op{release(1), navaho(1), drop(1), twist(1, true), take(1, near(1, 0, 0), true), transfer(1, 1, true), exchange(1, 1, true), pick(1, near(1, 0, 0))} {
		empty := op
		empty.Path = []api.Step{}
		if s, e := notes.Words(one, empty); s != slowWords(one, op) || e != api.OK {
			t.Error(s, e)
		}
		if s, e := notes.Signs(one, empty); s != slowSigns(one, op) || e != api.OK {
			t.Error(s, e)
		}
	}
	if s, e := notes.Signs(one, []api.Op{}...); s != "" || e != api.OK {
		t.Error(s, e)
	}
}

// P0.1, R2 and R5: no arguments make a function panic, and with an error a result is a zero value.
func TestAnyValue(t *testing.T) {
	r := rand.New(rand.NewSource(6))
	numbers := []int{math.MinInt, -1, 0, 1, 2, 3, 9, 20, 21, 40, 41, most, most + 1, math.MaxInt}
	small := func() int {
		if r.Intn(6) == 0 {
			return numbers[r.Intn(len(numbers))]
		}
		return r.Intn(5)
	}
	anyString := func() api.String {
		return api.String{Finger: small(), Loop: small(), Far: r.Intn(2) == 0, Piece: small()}
	}
	pieces := []string{"L1", "2R3", "R", ".", "1", "0", "o", "u", "n", "f", "<", ">", " ", "\n", "-", "~", "=", "*", "%", ",", "release ", "pick ", " over ", " from ", " near", " loop ", "bare", "\xff", "é"}
	for range 40000 {
		fr := randomFrame(r, 6)
		c := samples()[r.Intn(len(samples()))].c
		if r.Intn(3) == 0 {
			fr.Reach, fr.Loops = small(), small()
			fr.Fingers[0] = api.Finger{Person: small(), Digit: small()}
		}
		if r.Intn(3) == 0 {
			c = api.Code{Fingers: small()}
			for range r.Intn(6) {
				c.Letters = append(c.Letters, api.Letter{Kind: api.LetterKind(small()), Gate: small(), Rank: small(), ID: small(), Sign: small() - 1, Over: r.Intn(2) == 0})
			}
		}
		op := api.Op{Kind: api.OpKind(small() + r.Intn(5)), Finger: small(), From: anyString(), Over: r.Intn(2) == 0}
		for range r.Intn(3) {
			op.Path = append(op.Path, api.Step{At: anyString(), Over: r.Intn(2) == 0})
		}
		text := ""
		for range r.Intn(8) {
			text += pieces[r.Intn(len(pieces))]
		}
		line, e := notes.Words(fr, op)
		lines, e2 := notes.Lines(fr, op, op)
		items, e3 := notes.Signs(fr, op, op)
		can, e4 := notes.Can(fr, op)
		if e2 != e || e4 != e || can != (e3 == api.OK) || (line != "") != (e == api.OK) || (lines != "") != (e == api.OK) || (items != "") != can {
			t.Fatalf("%v, %+v: %d, %d, %d, %d", fr, op, e, e2, e3, e4)
		}
		if got, e := notes.ReadWords(fr, text); e != api.OK && !equalOps(got, api.Op{}) {
			t.Fatalf("ReadWords(%q): %+v, %d", text, got, e)
		}
		if got, n, e := notes.ReadLines(fr, text); e != api.OK && len(got) > 0 || e == api.OK && n != len(got) {
			t.Fatalf("ReadLines(%q): %+v, %d, %d", text, got, n, e)
		}
		if got, e := notes.ReadSigns(fr, text); e != api.OK && len(got) > 0 {
			t.Fatalf("ReadSigns(%q): %+v, %d", text, got, e)
		}
		if got, e := notes.ReadSequence(fr, text); (len(got) > 0) != (e == api.OK) {
			t.Fatalf("ReadSequence(%q): %v, %d", text, got, e)
		}
		if got, e := notes.Translate(fr, text, api.Notation(small()), api.Notation(small())); e != api.OK && got != "" {
			t.Fatalf("Translate(%q): %q, %d", text, got, e)
		}
		s, e := notes.Sequence(fr, c)
		n, e2 := notes.Signless(fr, c)
		if e != e2 || (s != "") != (e == api.OK) || (n > 0) != (e == api.OK) {
			t.Fatalf("%v: %q, %d, %d, %d", c, s, e, n, e2)
		}
	}
}
