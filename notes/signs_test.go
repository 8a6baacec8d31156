package notes_test

import (
	"math/rand"
	"regexp"
	"slices"
	"strings"
	"testing"

	"catscradle/api"
	"catscradle/hand"
	"catscradle/notes"
)

const itemPattern = `[LR][0-6]([-^!]|~[ou]|<([LR][0-6][nf][ou](,[LR][0-6][nf][ou])*<)?[LR][0-6][nf]|=[LR][0-6][nf][ou]|[*%][LR][0-6][ou])`

var itemsPattern = regexp.MustCompile(`^(` + itemPattern + `( ` + itemPattern + `)*)?$`)

// slowSigns writes an operation by the table of the chapter.
func slowSigns(fr api.Frame, op api.Op) string {
	name := func(f int) string { return hand.Name(fr.Fingers[f-1]) }
	str := func(s api.String) string { return name(s.Finger) + map[bool]string{false: "n", true: "f"}[s.Far] }
	way := map[bool]string{false: "u", true: "o"}
	f := name(op.Finger)
	switch op.Kind {
	case api.OpRelease:
		return f + "-"
	case api.OpNavaho:
		return f + "^"
	case api.OpDrop:
		return f + "!"
	case api.OpTwist:
		return f + "~" + way[op.Over]
	case api.OpPick:
		for i, p := range op.Path {
			f += map[bool]string{false: ",", true: "<"}[i == 0] + str(p.At) + way[p.Over]
		}
		return f + "<" + str(op.From)
	case api.OpTake:
		return f + "=" + str(op.From) + way[op.Over]
	case api.OpTransfer:
		return f + "*" + name(op.From.Finger) + way[op.Over]
	}
	return f + "%" + name(op.From.Finger) + way[op.Over]
}

// slowCan reports whether signs can say an operation that exists.
func slowCan(fr api.Frame, op api.Op) bool {
	line := slowWords(fr, op)
	return !strings.Contains(line, "loop") && !strings.Contains(line, "piece") && !regexp.MustCompile(`[2-9][LR]`).MatchString(line)
}

// P7.2: the examples of the chapter, and one item of each kind.
func TestSignsExamples(t *testing.T) {
	fr := standard(t)
	for _, c := range []struct {
		want string
		ops  []api.Op
	}{
		{"R2<R5no<L5n L1-", []api.Op{pick(9, near(5, 0, 0), over(near(6, 0, 0))), release(1)}},
		{"L2=L5fu R1^", []api.Op{take(2, far(5, 0, 0), false), navaho(10)}},
		{"L2<L5f", []api.Op{pick(2, far(5, 0, 0))}},
		{"L2<L5fu,R5no,L1fo<L5f", []api.Op{pick(2, far(5, 0, 0), under(far(5, 0, 0)), over(near(6, 0, 0)), over(far(1, 0, 0)))}},
		{"L1! L1~o L1~u", []api.Op{drop(1), twist(1, true), twist(1, false)}},
		{"L1*R1o L1*L1u L1%R1o R1%L1u", []api.Op{transfer(1, 10, true), transfer(1, 1, false), exchange(1, 10, true), exchange(10, 1, false)}},
		{"", nil},
	} {
		if got, e := notes.Signs(fr, c.ops...); got != c.want || e != api.OK {
			t.Errorf("Signs: %q, %d, not %q", got, e, c.want)
		}
		if got, e := notes.ReadSigns(fr, c.want); !slices.EqualFunc(got, c.ops, equalOps) || e != api.OK {
			t.Errorf("ReadSigns(%q): %+v, %d", c.want, got, e)
		}
	}
	if can, e := notes.Can(fr, pick(9, near(5, 1, 0), over(near(6, 1, 0)))); can || e != api.OK {
		t.Error(can, e)
	}
}

// P7.2: Signs and Can of all kinds of operations, and ReadSigns of that.
func TestSigns(t *testing.T) {
	for _, fr := range []api.Frame{frame(t, "L2", "2R5", "9L0"), frame(t, "2L2", "R6", "R0"), frame(t, "3L1"), standard(t)} {
		said := 0
		for _, op := range rightOps(len(fr.Fingers)) {
			want := slowCan(fr, op)
			if can, e := notes.Can(fr, op); can != want || e != api.OK {
				t.Fatalf("Can of %+v: %v, %d", op, can, e)
			}
			text, e := notes.Signs(fr, op)
			if !want {
				if text != "" || e != api.ErrNone {
					t.Fatalf("Signs of %+v: %q, %d", op, text, e)
				}
				continue
			}
			said++
			if text != slowSigns(fr, op) || e != api.OK {
				t.Fatalf("Signs of %+v: %q, %d", op, text, e)
			}
			if got, e := notes.ReadSigns(fr, text); len(got) != 1 || !equalOps(got[0], op) || e != api.OK {
				t.Fatalf("ReadSigns(%q): %+v, %d", text, got, e)
			}
		}
		if said == 0 && fr.Fingers[0].Person != 3 {
			t.Error(fr, "no operation could be said")
		}
	}
}

// P7.2: signs cannot say other persons, numbers of loops and pieces.
func TestCan(t *testing.T) {
	fr := frame(t, "L1", "2L1", "R1")
	for _, c := range []struct {
		op   api.Op
		want bool
	}{
		{release(1), true},
		{release(2), false},
		{twist(3, true), true},
		{twist(2, true), false},
		{transfer(1, 3, true), true},
		{transfer(1, 1, true), true},
		{transfer(1, 2, true), false},
		{transfer(2, 1, true), false},
		{exchange(3, 2, true), false},
		{take(1, near(3, 0, 0), true), true},
		{take(1, near(2, 0, 0), true), false},
		{take(1, near(3, 1, 0), true), false},
		{take(1, far(3, 0, 1), true), false},
		{pick(1, far(3, 0, 0), over(near(1, 0, 0))), true},
		{pick(1, far(3, 0, 0), over(near(1, 0, 0)), under(near(2, 0, 0))), false},
		{pick(1, far(3, 0, 0), over(near(1, 0, 0)), under(near(1, 1, 0))), false},
		{pick(1, far(3, 0, 0), over(near(1, 0, 1)), under(near(1, 0, 0))), false},
		{pick(1, far(3, 1, 0)), false},
		{pick(2, far(3, 0, 0)), false},
	} {
		if can, e := notes.Can(fr, c.op); can != c.want || e != api.OK {
			t.Errorf("Can of %+v: %v, %d", c.op, can, e)
		}
	}
}

// P7.2: operations that do not exist come before those that signs cannot say.
func TestSignsErrors(t *testing.T) {
	fr := frame(t, "L1", "2L1")
	for _, op := range wrongOps(2) {
		if can, e := notes.Can(fr, op); can || e != api.ErrArg {
			t.Errorf("Can of %+v: %v, %d", op, can, e)
		}
		for _, ops := range [][]api.Op{{op}, {release(1), op}, {release(2), op}, {op, release(2)}} {
			if s, e := notes.Signs(fr, ops...); s != "" || e != api.ErrArg {
				t.Errorf("Signs of %+v: %q, %d", ops, s, e)
			}
		}
	}
	if s, e := notes.Signs(fr, release(1), release(2)); s != "" || e != api.ErrNone {
		t.Error(s, e)
	}
	for _, bad := range []api.Frame{{}, {Loops: 1, Reach: -1}, {Loops: 1, Fingers: []api.Finger{{Person: 1, Digit: 7}}}} {
		if s, e := notes.Signs(bad); s != "" || e != api.ErrArg {
			t.Error(bad, s, e)
		}
		if ops, e := notes.ReadSigns(bad, strings.Repeat("x", 9000)); len(ops) > 0 || e != api.ErrArg {
			t.Error(bad, ops, e)
		}
		if can, e := notes.Can(bad, release(1)); can || e != api.ErrArg {
			t.Error(bad, can, e)
		}
	}
}

// P7.2: strings that are not signs, and fingers that the frame does not have.
func TestReadSignsErrors(t *testing.T) {
	fr := frame(t, "L1", "L2", "R1", "2L1")
	for _, c := range []struct {
		s    string
		want api.Errno
	}{
		{"", api.OK},
		{"L1-", api.OK},
		{"L3-", api.ErrNone},
		{"L1%L0o", api.ErrNone},
		{"L1<L3no<R1n", api.ErrNone},
		{"L1<L2no<R2n", api.ErrNone},
		{"L3- L1", api.ErrText},
		{"L3- L7-", api.ErrText},
		{"L1- L3-", api.ErrNone},
		{"2L1-", api.ErrText},
		{"1L1-", api.ErrText},
		{"3L1-", api.ErrText},
		{"L1*2L1o", api.ErrText},
		{"L1=2L1no", api.ErrText},
		{" ", api.ErrText},
		{"L1- ", api.ErrText},
		{" L1-", api.ErrText},
		{"L1-  L1-", api.ErrText},
		{"L1-\n", api.ErrText},
		{"L1-\nL1-", api.ErrText},
		{"L1-L1-", api.ErrText},
		{"L1--", api.ErrText},
		{"L1", api.ErrText},
		{"L1+", api.ErrText},
		{"-", api.ErrText},
		{"L1~", api.ErrText},
		{"L1~x", api.ErrText},
		{"L1~ou", api.ErrText},
		{"L1-o", api.ErrText},
		{"L1^o", api.ErrText},
		{"L1<", api.ErrText},
		{"L1<L2", api.ErrText},
		{"L1<L2no", api.ErrText},
		{"L1<L2n<R1n", api.ErrText},
		{"L1<L2no<R1no", api.ErrText},
		{"L1<<R1n", api.ErrText},
		{"L1<L2no,<R1n", api.ErrText},
		{"L1<,L2no<R1n", api.ErrText},
		{"L1<L2noL2no<R1n", api.ErrText},
		{"L1<L2no<L2no<R1n", api.ErrText},
		{"L1<L2no, L2no<R1n", api.ErrText},
		{"L1<L2no< R1n", api.ErrText},
		{"L1<L2no L1<R1n", api.ErrText},
		{"L1<R1n L1<L2no<R1n", api.OK},
		{"L1=L2n", api.ErrText},
		{"L1=L2o", api.ErrText},
		{"L1=L2nno", api.ErrText},
		{"L1*L2", api.ErrText},
		{"L1*L2no", api.ErrText},
		{"L1*L1o", api.OK},
		{"L1%L2", api.ErrText},
		{"L1%L1u", api.OK},
		{"release L1", api.ErrText},
		{"bare", api.ErrText},
		{"\xff", api.ErrText},
		{"L1-\x00", api.ErrText},
		{strings.Repeat("L1- ", 1999) + "L1-", api.OK},
		{strings.Repeat("L1- ", 1999) + "L1-o", api.ErrText},
		{strings.Repeat("L1- ", 1998) + "L1- L1~o", api.OK},
		{strings.Repeat("L1- ", 1999) + "L1~ou", api.ErrLong},
		{strings.Repeat("x", 8000), api.ErrText},
		{strings.Repeat("x", 8001), api.ErrLong},
	} {
		got, e := notes.ReadSigns(fr, c.s)
		if e != c.want || e != api.OK && len(got) > 0 {
			t.Errorf("ReadSigns(%.40q): %d operations, %d, not %d", c.s, len(got), e, c.want)
		}
	}
}

// P7.2: ReadSigns reads exactly the signs, for strings that differ a little from signs.
func TestReadSignsMutated(t *testing.T) {
	r := rand.New(rand.NewSource(2))
	fr := frame(t, "L2", "R5", "2R1")
	var ops []api.Op
	for _, op := range rightOps(2) {
		if slowCan(fr, op) {
			ops = append(ops, op)
		}
	}
	pieces := []string{" ", "L2", "R5", "R1", "2R1", "L7", "n", "f", "o", "u", "<", ",", "-", "^", "!", "~", "=", "*", "%", "L2no", "R5fu<", "L1- ", " R5-", "\n", "é"}
	met := map[api.Errno]int{}
	for range 100000 {
		text, _ := notes.Signs(fr, ops[r.Intn(len(ops))], ops[r.Intn(len(ops))])
		text = mutated(r, text, pieces)
		got, e := notes.ReadSigns(fr, text)
		met[e]++
		if want := textError(fr, itemsPattern, text); e != want {
			t.Fatalf("ReadSigns(%q): %d, not %d", text, e, want)
		}
		if again, _ := notes.Signs(fr, got...); e == api.OK && again != text {
			t.Fatalf("ReadSigns(%q) are those of %q", text, again)
		}
	}
	if met[api.OK] < 500 || met[api.ErrNone] < 500 {
		t.Error("few strings could be read", met)
	}
}

// P7.2: ReadSigns of Signs are the operations, for series.
func TestSignsSeries(t *testing.T) {
	r := rand.New(rand.NewSource(3))
	fr := standard(t)
	var can []api.Op
	for _, op := range rightOps(10) {
		if slowCan(fr, op) {
			can = append(can, op)
		}
	}
	for range 300 {
		var ops []api.Op
		var items []string
		for range r.Intn(12) {
			op := can[r.Intn(len(can))]
			ops = append(ops, op)
			items = append(items, slowSigns(fr, op))
		}
		text, e := notes.Signs(fr, ops...)
		if text != strings.Join(items, " ") || e != api.OK {
			t.Fatalf("Signs of %+v: %q, %d", ops, text, e)
		}
		if got, e := notes.ReadSigns(fr, text); !slices.EqualFunc(got, ops, equalOps) || e != api.OK {
			t.Fatalf("ReadSigns(%q): %d", text, e)
		}
	}
}
