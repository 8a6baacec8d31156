package code_test

import (
	"slices"
	"testing"

	"catscradle/api"
	"catscradle/code"
	"catscradle/line"
)

// ranked returns the code without crossings of a word, with some ranks.
func ranked(k int, word, ranks []int) api.Code {
	c := api.Code{Fingers: k}
	for i, gate := range word {
		c.Letters = append(c.Letters, pass(gate, ranks[i]))
	}
	return c
}

// allRanks returns all lists of ranks that give each gate the ranks from 1 on.
func allRanks(word []int) [][]int {
	all := [][]int{make([]int, len(word))}
	for i, gate := range word {
		count := 0
		for _, other := range word {
			if other == gate {
				count++
			}
		}
		var longer [][]int
		for _, list := range all {
			for rank := 1; rank <= count; rank++ {
				taken := false
				for j := range i {
					taken = taken || word[j] == gate && list[j] == rank
				}
				if !taken {
					more := slices.Clone(list)
					more[i] = rank
					longer = append(longer, more)
				}
			}
		}
		all = longer
	}
	return all
}

// P2.8: of all codes without crossings with a reduced word, those are valid that have the ranks of layer 1.
func TestRanksOfWord(t *testing.T) {
	valid := 0
	for _, size := range [][2]int{{4, 2}, {4, 4}, {4, 6}, {2, 8}} {
		for word := range line.Words(size[0], size[1]) {
			ranks, e := line.Ranks(word)
			for _, list := range allRanks(word) {
				c := ranked(size[0], word, list)
				right := e == api.OK && slices.Equal(list, ranks)
				if got := code.Check(c); (got == api.OK) != right {
					t.Errorf("Check(%s): %d, but the ranks are %v", code.Print(c), got, ranks)
				}
				if right {
					valid++
				}
			}
		}
	}
	if valid < 20 {
		t.Error("too few valid codes", valid)
	}
}

// P2.8: Mirror and Turn act on the word as those of layer 1; the word traveled backwards has the same normal form.
func TestWordOfChanges(t *testing.T) {
	list, do := must[[]int](t), must[api.Code](t)
	for _, c := range samples() {
		word := list(code.Word(c))
		mirror, turn, back := list(code.Word(do(code.Mirror(c)))), list(code.Word(do(code.Turn(c)))), list(code.Word(do(code.Back(c))))
		if !slices.Equal(mirror, list(line.Mirror(c.Fingers, word))) {
			t.Errorf("the word of Mirror of %s: %v", code.Print(c), mirror)
		}
		if !slices.Equal(turn, list(line.Turn(word))) {
			t.Errorf("the word of Turn of %s: %v", code.Print(c), turn)
		}
		if !slices.Equal(list(line.Normal(back)), list(line.Normal(word))) {
			t.Errorf("the word of Back of %s: %v", code.Print(c), back)
		}
	}
}
