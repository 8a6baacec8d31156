package notes_test

import (
	"math/rand"
	"strings"
	"testing"

	"catscradle/api"
	"catscradle/hand"
	"catscradle/notes"
)

// P7.4: the example of the chapter, and others.
func TestTranslate(t *testing.T) {
	fr := standard(t)
	for _, c := range []struct{ words, signs string }{
		{"pick R2 over R5 near, from L5 near\n", "R2<R5no<L5n"},
		{"release L1\nnavaho L2\ndrop L3\n", "L1- L2^ L3!"},
		{"twist L1 over\ntwist L1 under\n", "L1~o L1~u"},
		{"take L1 from L2 far under\npick L1 from R2 near\n", "L1=L2fu L1<R2n"},
		{"transfer L1 from L1 over\nexchange L1 with R1 under\n", "L1*L1o L1%R1u"},
		{"", ""},
	} {
		for _, way := range []struct {
			from, to   api.Notation
			text, want string
		}{
			{api.InWords, api.InSigns, c.words, c.signs},
			{api.InSigns, api.InWords, c.signs, c.words},
			{api.InWords, api.InWords, c.words, c.words},
			{api.InSigns, api.InSigns, c.signs, c.signs},
		} {
			if got, e := notes.Translate(fr, way.text, way.from, way.to); got != way.want || e != api.OK {
				t.Errorf("Translate(%q, %d, %d): %q, %d, not %q", way.text, way.from, way.to, got, e, way.want)
			}
		}
	}
}

// P7.4: errors, in their order.
func TestTranslateErrors(t *testing.T) {
	fr := frame(t, "L1", "2L1")
	long := strings.Repeat("x", 8001)
	for _, c := range []struct {
		fr       api.Frame
		s        string
		from, to api.Notation
		want     api.Errno
	}{
		{api.Frame{}, "", api.InWords, api.InSigns, api.ErrArg},
		{api.Frame{}, long, 0, 0, api.ErrArg},
		{fr, "", 0, api.InSigns, api.ErrArg},
		{fr, "", api.InWords, 0, api.ErrArg},
		{fr, "", 3, api.InWords, api.ErrArg},
		{fr, "", api.InSigns, 3, api.ErrArg},
		{fr, "", -1, api.InWords, api.ErrArg},
		{fr, long, api.InSigns, 0, api.ErrArg},
		{fr, "x", 3, 3, api.ErrArg},
		{fr, long, api.InSigns, api.InWords, api.ErrLong},
		{fr, long, api.InWords, api.InSigns, api.ErrLong},
		{fr, "release L1", api.InWords, api.InSigns, api.ErrText},
		{fr, "release L1\n", api.InSigns, api.InWords, api.ErrText},
		{fr, "L1-", api.InWords, api.InSigns, api.ErrText},
		{fr, "L1-\n", api.InSigns, api.InSigns, api.ErrText},
		{fr, "release L2\n", api.InWords, api.InSigns, api.ErrNone},
		{fr, "release L2\n", api.InWords, api.InWords, api.ErrNone},
		{fr, "L2-", api.InSigns, api.InWords, api.ErrNone},
		{fr, "release 2L1\n", api.InWords, api.InSigns, api.ErrNone},
		{fr, "release 2L1\n", api.InWords, api.InWords, api.OK},
		{fr, "release 2L1\nx\n", api.InWords, api.InSigns, api.ErrText},
		{fr, "release L2\nx\n", api.InWords, api.InSigns, api.ErrNone},
		{fr, "take L1 from L1 near loop 1 over\n", api.InWords, api.InSigns, api.ErrNone},
		{fr, "take L1 from L1 near loop 1 over\n", api.InWords, api.InWords, api.OK},
		{fr, "take L1 from L1 near piece 1 over\n", api.InWords, api.InSigns, api.ErrNone},
		{fr, "2L1-", api.InSigns, api.InWords, api.ErrText},
	} {
		got, e := notes.Translate(c.fr, c.s, c.from, c.to)
		if e != c.want || (got != "") != (e == api.OK) {
			t.Errorf("Translate(%.30q, %d, %d): %q, %d, not %d", c.s, c.from, c.to, got, e, c.want)
		}
	}
}

// P7.4: a series of operations that is translated there and back is the same string, and leads from any code to the same code.
func TestTranslateSeries(t *testing.T) {
	r := rand.New(rand.NewSource(5))
	moved := 0
	for range 400 {
		s := samples()[r.Intn(len(samples()))]
		var ops []api.Op
		for range 1 + r.Intn(4) {
			if s.c.Fingers == 0 {
				break
			}
			op := randomOp(r, s)
			op.From.Loop, op.From.Piece = 0, 0
			if can, e := notes.Can(s.fr, op); can && e == api.OK {
				ops = append(ops, op)
			}
		}
		signs := must[string](t)(notes.Signs(s.fr, ops...))
		words := must[string](t)(notes.Translate(s.fr, signs, api.InSigns, api.InWords))
		again := must[string](t)(notes.Translate(s.fr, words, api.InWords, api.InSigns))
		if again != signs || words != must[string](t)(notes.Lines(s.fr, ops...)) {
			t.Fatalf("%q, %q, %q", signs, words, again)
		}
		if back := must[string](t)(notes.Translate(s.fr, again, api.InSigns, api.InWords)); back != words {
			t.Fatalf("%q, not %q", back, words)
		}
		one := must[[]api.Op](t)(notes.ReadSigns(s.fr, signs))
		two, _, _ := notes.ReadLines(s.fr, words)
		c, n, e := hand.Run(s.fr, s.c, one...)
		d, m, f := hand.Run(s.fr, s.c, two...)
		if !equal(c, d) || n != m || e != f {
			t.Fatalf("%q and %q lead to different codes", signs, words)
		}
		if e == api.OK && len(ops) > 0 {
			moved++
		}
	}
	if moved < 30 {
		t.Error("few series are possible", moved)
	}
}
