package move

import (
	"strconv"
	"strings"

	"catscradle/api"
)

// spelling has the word of each kind, and the initials of the fields that it uses.
var spelling = [...]struct{ word, fields string }{
	api.AxisCut:   {"axis-cut", "A"},
	api.AxisMake:  {"axis-make", "ABC"},
	api.AxisSlide: {"axis-slide", "AB"},
	api.LoopCut:   {"loop-cut", "A"},
	api.LoopMake:  {"loop-make", "AOS"},
	api.PairCut:   {"pair-cut", "AB"},
	api.PairMake:  {"pair-make", "ABLO"},
	api.Triangle:  {"triangle", "ABC"},
	api.TipRight:  {"tip-right", "A"},
	api.TipLeft:   {"tip-left", "A"},
}

// exists reports whether a kind is one of the ten kinds.
func exists(kind api.MoveKind) bool {
	return kind >= api.AxisCut && kind <= api.TipLeft
}

// used returns the move without the fields that its kind does not use.
func used(m api.Move) api.Move {
	u := api.Move{Kind: m.Kind}
	for _, field := range spelling[m.Kind].fields {
		switch field {
		case 'A':
			u.A = m.A
		case 'B':
			u.B = m.B
		case 'C':
			u.C = m.C
		case 'L':
			u.Left = m.Left
		case 'O':
			u.Over = m.Over
		case 'S':
			u.Sign = m.Sign
		}
	}
	return u
}

// Print returns a move as a string.
func Print(m api.Move) string {
	if !exists(m.Kind) {
		return "?"
	}
	text := spelling[m.Kind].word
	for _, field := range spelling[m.Kind].fields {
		text += " " + write(m, field)
	}
	return text
}

// write returns a field of a move as a string.
func write(m api.Move, field rune) string {
	switch field {
	case 'A':
		return strconv.Itoa(m.A)
	case 'B':
		return strconv.Itoa(m.B)
	case 'C':
		return strconv.Itoa(m.C)
	case 'L':
		return choose(m.Left, "left", "right")
	case 'O':
		return choose(m.Over, "over", "under")
	}
	return choose(m.Sign == 1, "+", choose(m.Sign == -1, "-", "?"))
}

// choose returns one of two strings.
func choose(is bool, yes, no string) string {
	if is {
		return yes
	}
	return no
}

// Parse reads a move, exactly as Print returns it.
func Parse(s string) (api.Move, api.Errno) {
	words := strings.Split(s, " ")
	m := api.Move{Kind: kindOf(words[0])}
	fields := spelling[m.Kind].fields
	if !exists(m.Kind) || len(words) != 1+len(fields) {
		return api.Move{}, api.ErrText
	}
	for i, field := range fields {
		read(&m, field, words[i+1])
	}
	// What cannot be read is printed in another way.
	if Print(m) != s || strings.Contains(s, "?") || min(m.A, m.B, m.C) < 0 {
		return api.Move{}, api.ErrText
	}
	return m, api.OK
}

// kindOf returns the kind that has a word, 0 if there is none.
func kindOf(word string) api.MoveKind {
	for kind, row := range spelling {
		if row.word == word {
			return api.MoveKind(kind)
		}
	}
	return 0
}

// read sets a field of a move; what it makes of other strings is printed in another way.
func read(m *api.Move, field rune, word string) {
	number, _ := strconv.Atoi(word)
	switch field {
	case 'A':
		m.A = number
	case 'B':
		m.B = number
	case 'C':
		m.C = number
	case 'L':
		m.Left = word == "left"
	case 'O':
		m.Over = word == "over"
	case 'S':
		m.Sign = map[string]int{"+": 1, "-": -1}[word]
	}
}
