package code_test

import (
	"slices"
	"testing"

	"catscradle/api"
	"catscradle/code"
)

// P2.4: Back, Swap, Mirror and Turn, their examples and edges.
func TestChanges(t *testing.T) {
	for _, c := range []struct{ from, back, swap, mirror, turn string }{
		{"2: 0.1 1.1", "2: 1.1 0.1", "2: 0.1 1.1", "2: 2.1 1.1", "2: 1.1 0.1"},
		{"2: 0.1 1u+ 1o+ 1.1", "2: 1.1 1o+ 1u+ 0.1", "2: 0.1 1o- 1u- 1.1", "2: 2.1 1u- 1o- 1.1", "2: 1.1 0.1 1o+ 1u+"},
		{"1: 0.1 0.2 0.3 1.1 2o- 2u- 1o+ 1u+", "1: 1.1 0.3 0.2 0.1 1u+ 1o+ 2u- 2o-", "1: 0.1 0.2 0.3 1.1 2u+ 2o+ 1u- 1o-", "1: 1.3 1.2 1.1 0.1 2o+ 2u+ 1o- 1u-", "1: 0.2 0.3 1.1 2u- 2o- 1u+ 1o+ 0.1"},
		{"4:", "4:", "4:", "4:", "4:"},
	} {
		got, e := code.Back(raw(c.from))
		want(t, "Back("+c.from+")", got, e, raw(c.back), api.OK)
		got, e = code.Swap(raw(c.from))
		want(t, "Swap("+c.from+")", got, e, raw(c.swap), api.OK)
		got, e = code.Mirror(raw(c.from))
		want(t, "Mirror("+c.from+")", got, e, raw(c.mirror), api.OK)
		got, e = code.Turn(raw(c.from))
		want(t, "Turn("+c.from+")", got, e, raw(c.turn), api.OK)
	}
}

// ways returns the changes that can be made to all codes.
func ways() []call {
	return slices.DeleteFunc(calls(), func(c call) bool {
		return !slices.Contains([]string{"Back", "Swap", "Mirror", "Turn"}, c.name)
	})
}

// P2.4: twice, and in either order.
func TestChangesTwice(t *testing.T) {
	do := must[api.Code](t)
	for _, c := range samples() {
		for _, f := range ways() {
			once := do(f.do(c))
			if e := code.Check(once); e != api.OK {
				t.Errorf("%s(%s): %s is not valid", f.name, code.Print(c), code.Print(once))
			}
			twice := do(f.do(once))
			exact := f.name == "Swap" || f.name == "Mirror"
			if same, e := code.Same(twice, c); !same || e != api.OK || exact && !equal(twice, c) {
				t.Errorf("%s twice: from %s to %s", f.name, code.Print(c), code.Print(twice))
			}
			for _, g := range ways() {
				one, two := do(g.do(once)), do(f.do(do(g.do(c))))
				if same, e := code.Same(one, two); !same || e != api.OK {
					t.Errorf("%s and %s of %s: %s and %s", f.name, g.name, code.Print(c), code.Print(one), code.Print(two))
				}
			}
		}
	}
}
