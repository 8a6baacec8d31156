package sign

import (
	"slices"

	"catscradle/api"
	"catscradle/line"
)

// tangle is a string that is cut at the visits of its crossings, which are numbered in the order of the letters. Strand i leads from visit i to the next visit. A string without crossings is a single strand, whose ends meet.
type tangle struct {
	strands []strand
	visits  []visit
}

// strand is a piece of string: the gates of its passes, and whether it begins above the axis.
type strand struct {
	gates []int
	above bool
}

// visit is a visit of a crossing; other is the index of the other visit.
type visit struct {
	id    int
	sign  int
	other int
}

// dart is a strand that is traveled in a direction: 2 i is strand i forwards, 2 i + 1 is strand i backwards.
type dart int

func (d dart) strand() int { return int(d) / 2 }

func (d dart) back() bool { return d%2 == 1 }

// cut returns the tangle of a valid code.
func cut(c api.Code) tangle {
	t := tangle{strands: []strand{{above: true}}}
	met := map[int]int{}
	above := true
	for _, l := range c.Letters {
		last := &t.strands[len(t.strands)-1]
		if l.Kind == api.Pass {
			above = !above
			last.gates = append(last.gates, l.Gate)
			continue
		}
		here := len(t.visits)
		other, again := met[l.ID]
		if again {
			t.visits[other].other = here
		}
		met[l.ID] = here
		t.visits = append(t.visits, visit{id: l.ID, sign: l.Sign, other: other})
		t.strands = append(t.strands, strand{above: above})
	}
	if len(t.visits) > 0 {
		// The last strand goes on with the letters before the first visit.
		last := &t.strands[len(t.strands)-1]
		last.gates = append(last.gates, t.strands[0].gates...)
		t.strands = t.strands[1:]
	}
	return t
}

// curves returns the darts of each curve that remains if each crossing is smoothed; a tells which crossings get the A smoothing. A curve begins with its least strand, which it travels forwards.
func (t tangle) curves(a func(id int) bool) [][]dart {
	met := make([]bool, len(t.strands))
	var all [][]dart
	for first := range t.strands {
		if met[first] {
			continue
		}
		var curve []dart
		for d := dart(2 * first); !met[d.strand()]; d = t.next(d, a) {
			met[d.strand()] = true
			curve = append(curve, d)
		}
		all = append(all, curve)
	}
	return all
}

// next returns the dart that follows on a dart if the crossing at its end is smoothed.
func (t tangle) next(d dart, a func(id int) bool) dart {
	n := len(t.visits)
	if n == 0 {
		return d
	}
	end := d.strand()
	if !d.back() {
		end = (end + 1) % n
	}
	v := t.visits[end]
	straight := a(v.id) == (v.sign == 1)
	// The straight smoothing keeps to the direction of travel, the turning one changes it.
	if d.back() == straight {
		return dart(2*((v.other+n-1)%n) + 1)
	}
	return dart(2 * v.other)
}

// word returns the normal form of the word of a curve.
func (t tangle) word(curve []dart) []int {
	var gates []int
	for _, d := range curve {
		from := len(gates)
		gates = append(gates, t.strands[d.strand()].gates...)
		if d.back() {
			slices.Reverse(gates[from:])
		}
	}
	if !t.strands[curve[0].strand()].above {
		// The first pass goes up, so the word begins with the second one. A curve is no longer than its code, so there are no errors.
		gates, _ = line.Turn(gates)
	}
	normal, _ := line.Normal(gates)
	return normal
}

// reader returns a function that returns the normal forms of the words of curves, and remembers them: most curves remain from many choices of smoothings. The tangle must have at most api.MaxBracket crossings.
func (t tangle) reader() func(curve []dart) []int {
	known := map[[2 * api.MaxBracket]dart][]int{}
	return func(curve []dart) []int {
		// No curve has the dart 0 but as its first one, so the zeros that follow on a curve are not taken for darts.
		var key [2 * api.MaxBracket]dart
		copy(key[:], curve)
		word, met := known[key]
		if !met {
			word = t.word(curve)
			known[key] = word
		}
		return word
	}
}
