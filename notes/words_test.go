package notes_test

import (
	"fmt"
	"math/rand"
	"regexp"
	"slices"
	"strings"
	"testing"

	"catscradle/api"
	"catscradle/hand"
	"catscradle/notes"
)

const (
	namePattern   = `[2-9]?[LR][0-6]`
	numberPattern = `[1-9][0-9]{0,8}`
	stringPattern = namePattern + ` (near|far)( loop ` + numberPattern + `)?( piece ` + numberPattern + `)?`
)

var linePattern = regexp.MustCompile(`^(` +
	`(release|navaho|drop) ` + namePattern +
	`|twist ` + namePattern + ` (over|under)` +
	`|pick ` + namePattern + `( (over|under) ` + stringPattern + `,)* from ` + stringPattern +
	`|take ` + namePattern + ` from ` + stringPattern + ` (over|under)` +
	`|transfer ` + namePattern + ` from ` + namePattern + ` (over|under)` +
	`|exchange ` + namePattern + ` with ` + namePattern + ` (over|under)` +
	`)$`)

// slowWords writes an operation by the table of the chapter.
func slowWords(fr api.Frame, op api.Op) string {
	name := func(f int) string { return hand.Name(fr.Fingers[f-1]) }
	str := func(s api.String) string {
		text := name(s.Finger) + map[bool]string{false: " near", true: " far"}[s.Far]
		if s.Loop > 0 {
			text += fmt.Sprintf(" loop %d", s.Loop)
		}
		if s.Piece > 0 {
			text += fmt.Sprintf(" piece %d", s.Piece)
		}
		return text
	}
	f := name(op.Finger)
	way := map[bool]string{false: "under", true: "over"}
	switch op.Kind {
	case api.OpRelease:
		return "release " + f
	case api.OpNavaho:
		return "navaho " + f
	case api.OpDrop:
		return "drop " + f
	case api.OpTwist:
		return "twist " + f + " " + way[op.Over]
	case api.OpPick:
		text := "pick " + f
		for _, p := range op.Path {
			text += fmt.Sprintf(" %s %s,", way[p.Over], str(p.At))
		}
		return text + " from " + str(op.From)
	case api.OpTake:
		return fmt.Sprintf("take %s from %s %s", f, str(op.From), way[op.Over])
	case api.OpTransfer:
		return fmt.Sprintf("transfer %s from %s %s", f, name(op.From.Finger), way[op.Over])
	}
	return fmt.Sprintf("exchange %s with %s %s", f, name(op.From.Finger), way[op.Over])
}

// P7.1: the examples of the chapter, and one line of each kind.
func TestWordsExamples(t *testing.T) {
	fr := standard(t)
	for _, c := range []struct {
		op   api.Op
		want string
	}{
		{pick(9, near(5, 1, 0), over(near(6, 1, 0))), "pick R2 over R5 near loop 1, from L5 near loop 1"},
		{pick(2, near(6, 1, 1)), "pick L2 from R5 near loop 1 piece 1"},
		{pick(2, far(6, 0, 3), under(near(5, 0, 0)), over(far(1, 0, 2))), "pick L2 under L5 near, over L1 far piece 2, from R5 far piece 3"},
		{twist(2, true), "twist L2 over"},
		{twist(10, false), "twist R1 under"},
		{take(2, far(5, 0, 0), false), "take L2 from L5 far under"},
		{take(2, near(5, 12, 34), true), "take L2 from L5 near loop 12 piece 34 over"},
		{transfer(3, 4, true), "transfer L3 from L4 over"},
		{exchange(3, 4, false), "exchange L3 with L4 under"},
		{transfer(3, 3, false), "transfer L3 from L3 under"},
		{exchange(3, 3, true), "exchange L3 with L3 over"},
		{release(1), "release L1"},
		{navaho(1), "navaho L1"},
		{drop(1), "drop L1"},
	} {
		if got, e := notes.Words(fr, c.op); got != c.want || e != api.OK {
			t.Errorf("Words: %q, %d, not %q", got, e, c.want)
		}
		if got, e := notes.ReadWords(fr, c.want); !equalOps(got, c.op) || e != api.OK {
			t.Errorf("ReadWords(%q): %+v, %d", c.want, got, e)
		}
	}
}

// P7.1: Words of all kinds of operations, and ReadWords of that.
func TestWords(t *testing.T) {
	for _, fr := range []api.Frame{frame(t, "L2", "2R5", "9L0"), frame(t, "R6"), standard(t)} {
		for _, op := range rightOps(len(fr.Fingers)) {
			text, e := notes.Words(fr, op)
			if text != slowWords(fr, op) || e != api.OK {
				t.Fatalf("Words of %+v: %q, %d", op, text, e)
			}
			if got, e := notes.ReadWords(fr, text); !equalOps(got, op) || e != api.OK {
				t.Fatalf("ReadWords(%q): %+v, %d", text, got, e)
			}
		}
	}
}

// P7.1: strings that are not lines, and fingers that the frame does not have.
func TestReadWordsErrors(t *testing.T) {
	fr := standard(t)
	for _, c := range []struct {
		s    string
		want api.Errno
	}{
		{"take L2 from L7 far under", api.ErrText},
		{"release 2L1", api.ErrNone},
		{"release L0", api.ErrNone},
		{"exchange L1 with 9R6 over", api.ErrNone},
		{"pick L1 over 2L1 near, from L2 near", api.ErrNone},
		{"pick L1 over L3 near, from 2L2 near", api.ErrNone},
		{"pick 2L1 over L3 near, from L2", api.ErrText},
		{"", api.ErrText},
		{"\n", api.ErrText},
		{"release", api.ErrText},
		{"release ", api.ErrText},
		{"release L", api.ErrText},
		{"release 1L1", api.ErrText},
		{"release 0L1", api.ErrText},
		{"release l1", api.ErrText},
		{"release L1 ", api.ErrText},
		{" release L1", api.ErrText},
		{"release  L1", api.ErrText},
		{"release L1\n", api.ErrText},
		{"release\tL1", api.ErrText},
		{"Release L1", api.ErrText},
		{"release L1 over", api.ErrText},
		{"release L1L1", api.ErrText},
		{"release L1 near", api.ErrText},
		{"releaseL1", api.ErrText},
		{"let L1", api.ErrText},
		{"twist L1", api.ErrText},
		{"twist L1 ", api.ErrText},
		{"twist L1 up", api.ErrText},
		{"twist L1 overunder", api.ErrText},
		{"twist L1 over over", api.ErrText},
		{"take L1 from L2 near", api.ErrText},
		{"take L1 from L2 over", api.ErrText},
		{"take L1 with L2 near over", api.ErrText},
		{"take L1 from L2 near loop 0 over", api.ErrText},
		{"take L1 from L2 near piece 0 over", api.ErrText},
		{"take L1 from L2 near loop 01 over", api.ErrText},
		{"take L1 from L2 near loop -1 over", api.ErrText},
		{"take L1 from L2 near loop +1 over", api.ErrText},
		{"take L1 from L2 near loop  over", api.ErrText},
		{"take L1 from L2 near loop over", api.ErrText},
		{"take L1 from L2 near piece 1 loop 1 over", api.ErrText},
		{"take L1 from L2 near loop 1 loop 1 over", api.ErrText},
		{"take L1 from L2 near loop 999999999 over", api.OK},
		{"take L1 from L2 near loop 1000000000 over", api.ErrText},
		{"take L1 from L2 near piece 999999999 over", api.OK},
		{"take L1 from L2 near piece 1000000000 over", api.ErrText},
		{"take L1 from L2 near piece 99999999999999999999 over", api.ErrText},
		{"take L1 from L2 near loop \u0661 over", api.ErrText},
		{"pick L1 from L2 near over", api.ErrText},
		{"pick L1 from L2 near,", api.ErrText},
		{"pick L1 over L2 near", api.ErrText},
		{"pick L1 over L2 near,", api.ErrText},
		{"pick L1 over L2 near, ", api.ErrText},
		{"pick L1 over L2 near from L3 near", api.ErrText},
		{"pick L1 over L2 near,from L3 near", api.ErrText},
		{"pick L1 over L2 near, over from L3 near", api.ErrText},
		{"pick L1 L2 near, from L3 near", api.ErrText},
		{"pick L1, from L3 near", api.ErrText},
		{"transfer L1 from L2 near over", api.ErrText},
		{"transfer L1 with L2 over", api.ErrText},
		{"transfer L1 from L2", api.ErrText},
		{"exchange L1 from L2 over", api.ErrText},
		{"exchange L1 with L2 loop 1 over", api.ErrText},
		{"exchange L1 with L1 over", api.OK},
		{"\xff", api.ErrText},
		{"release L\xff", api.ErrText},
		{"release L1\x00", api.ErrText},
		{strings.Repeat("x", 8000), api.ErrText},
		{strings.Repeat("x", 8001), api.ErrLong},
		{"release 2L1" + strings.Repeat(" ", 8000), api.ErrLong},
	} {
		got, e := notes.ReadWords(fr, c.s)
		if e != c.want || e != api.OK && !equalOps(got, api.Op{}) {
			t.Errorf("ReadWords(%.60q): %+v, %d, not %d", c.s, got, e, c.want)
		}
	}
	long := strings.Repeat(" over L1 far,", 700)[:13*600]
	if op, e := notes.ReadWords(fr, "pick L1"+long+" from L2 near"); e != api.OK || len(op.Path) != 600 {
		t.Error(len(op.Path), e)
	}
	if _, e := notes.ReadWords(api.Frame{}, strings.Repeat("x", 8001)); e != api.ErrArg {
		t.Error(e)
	}
}

// P7.1: a line may have exactly 8000 bytes.
func TestLongLines(t *testing.T) {
	fr := frame(t, "L1")
	op := pick(1, near(1, 12345, 0))
	for range 613 {
		op.Path = append(op.Path, over(far(1, 0, 0)))
	}
	text, e := notes.Words(fr, op)
	if len(text) != 8000 || e != api.OK {
		t.Fatal(len(text), e)
	}
	if got, e := notes.ReadWords(fr, text); !equalOps(got, op) || e != api.OK {
		t.Error(e)
	}
	op.From.Loop = 123456
	text, e = notes.Words(fr, op)
	if len(text) != 8001 || e != api.OK {
		t.Fatal(len(text), e)
	}
	if got, e := notes.ReadWords(fr, text); !equalOps(got, api.Op{}) || e != api.ErrLong {
		t.Error(e)
	}
	if got, n, e := notes.ReadLines(fr, text+"\n"); len(got) > 0 || n != 0 || e != api.ErrLong {
		t.Error(n, e)
	}
}

// P7.1: a line that names more fingers than a frame can have.
func TestManyFingers(t *testing.T) {
	line := "pick L1"
	for person := 1; person <= 9; person++ {
		for digit := range 7 {
			line += " over " + hand.Name(api.Finger{Person: person, Digit: digit}) + " near,"
		}
	}
	if _, e := notes.ReadWords(frame(t, "L1"), line+" from L1 near"); e != api.ErrNone {
		t.Error(e)
	}
}

// P7.1: ReadWords reads exactly the lines, for strings that differ a little from lines.
func TestReadWordsMutated(t *testing.T) {
	r := rand.New(rand.NewSource(1))
	fr := frame(t, "L2", "2R5", "R1")
	ops := rightOps(3)
	pieces := []string{" ", "L2", "2R5", "R1", "R2", "3L6", "L7", " near", " far", " loop 1", " piece 23", ",", " over", " under", " from ", " with ", "1", "0", "\n", "é", " over L2 near,", "pick ", "take ", "release "}
	met := map[api.Errno]int{}
	for range 60000 {
		text, _ := notes.Words(fr, ops[r.Intn(len(ops))])
		text = mutated(r, text, pieces)
		got, e := notes.ReadWords(fr, text)
		met[e]++
		if want := textError(fr, linePattern, text); e != want {
			t.Fatalf("ReadWords(%q): %d, not %d", text, e, want)
		}
		if again, _ := notes.Words(fr, got); e == api.OK && again != text {
			t.Fatalf("ReadWords(%q) is that of %q", text, again)
		}
	}
	if met[api.OK] < 500 || met[api.ErrNone] < 500 {
		t.Error("few strings could be read", met)
	}
}

// P7.1: operations that do not exist, and frames that are not valid.
func TestWordsErrors(t *testing.T) {
	for _, fr := range []api.Frame{standard(t), frame(t, "L2", "2R5")} {
		for _, op := range wrongOps(len(fr.Fingers)) {
			if s, e := notes.Words(fr, op); s != "" || e != api.ErrArg {
				t.Errorf("Words of %+v: %q, %d", op, s, e)
			}
			if s, e := notes.Lines(fr, release(1), op); s != "" || e != api.ErrArg {
				t.Errorf("Lines of %+v: %q, %d", op, s, e)
			}
		}
	}
	for _, fr := range []api.Frame{{}, {Loops: 21}, {Loops: 1, Reach: 41}, {Loops: 1, Fingers: []api.Finger{{}}}, {Loops: 1, Fingers: []api.Finger{{Person: 1}, {Person: 1}}}} {
		if s, e := notes.Words(fr, release(1)); s != "" || e != api.ErrArg {
			t.Error(fr, s, e)
		}
		if s, e := notes.Lines(fr); s != "" || e != api.ErrArg {
			t.Error(fr, s, e)
		}
		if op, e := notes.ReadWords(fr, "release L0"); !equalOps(op, api.Op{}) || e != api.ErrArg {
			t.Error(fr, op, e)
		}
		if ops, n, e := notes.ReadLines(fr, ""); len(ops) > 0 || n != 0 || e != api.ErrArg {
			t.Error(fr, ops, n, e)
		}
	}
	if _, e := notes.Words(api.Frame{Loops: 1}, release(1)); e != api.ErrArg {
		t.Error(e)
	}
}

// P7.1: Lines and ReadLines.
func TestLines(t *testing.T) {
	fr := standard(t)
	for _, ops := range [][]api.Op{nil, {release(1)}, {release(1), release(1)}, {pick(9, near(5, 0, 0), over(near(6, 0, 0))), transfer(1, 1, true), take(2, far(3, 4, 5), false)}} {
		want := ""
		for _, op := range ops {
			want += slowWords(fr, op) + "\n"
		}
		text, e := notes.Lines(fr, ops...)
		if text != want || e != api.OK {
			t.Errorf("%q, %d, not %q", text, e, want)
		}
		got, n, e := notes.ReadLines(fr, text)
		if !slices.EqualFunc(got, ops, equalOps) || n != len(ops) || e != api.OK {
			t.Error(got, n, e)
		}
	}
}

// P7.1: the number of the line with an error.
func TestReadLinesErrors(t *testing.T) {
	fr := standard(t)
	for _, c := range []struct {
		s    string
		n    int
		want api.Errno
	}{
		{"", 0, api.OK},
		{"release L1\n", 1, api.OK},
		{"release L1\nnavaho R1\n", 2, api.OK},
		{"\n", 0, api.ErrText},
		{"release L1\n\n", 1, api.ErrText},
		{"\nrelease L1\n", 0, api.ErrText},
		{"release L1", 0, api.ErrText},
		{"release L1\nrelease L1", 1, api.ErrText},
		{"release L1\nrelease 2L1", 1, api.ErrText},
		{"release L1\nrelease 2L1\n", 1, api.ErrNone},
		{"release 2L1\nrelease L1", 0, api.ErrNone},
		{"release 2L1\nrelease L7\n", 0, api.ErrNone},
		{"release L7\nrelease 2L1\n", 0, api.ErrText},
		{"release L1\r\n", 0, api.ErrText},
		{"release L1\nnavaho R1\ntwist R1\nx\n", 2, api.ErrText},
		{"release L1\nx", 1, api.ErrText},
		{"x", 0, api.ErrText},
		{strings.Repeat("release L1\n", 727), 727, api.OK},
		{strings.Repeat("release L1\n", 727) + "x\n", 727, api.ErrText},
		{strings.Repeat("release L1\n", 727) + "xy\n", 727, api.ErrText},
		{strings.Repeat("release L1\n", 728), 0, api.ErrLong},
		{strings.Repeat("x\n", 4001), 0, api.ErrLong},
		{strings.Repeat("x\n", 4000), 0, api.ErrText},
	} {
		ops, n, e := notes.ReadLines(fr, c.s)
		count := c.n
		if c.want != api.OK {
			count = 0
		}
		if n != c.n || e != c.want || len(ops) != count {
			t.Errorf("ReadLines(%.40q): %d operations, %d, %d, not %d, %d", c.s, len(ops), n, e, c.n, c.want)
		}
	}
}
