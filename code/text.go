package code

import (
	"strconv"
	"strings"

	"catscradle/api"
)

// maxText is the greatest number of bytes of a string that Parse reads.
const maxText = 8000

// Print returns a code as a string.
func Print(c api.Code) string {
	var b strings.Builder
	b.WriteString(strconv.Itoa(c.Fingers))
	b.WriteByte(':')
	for _, l := range c.Letters {
		b.WriteByte(' ')
		b.WriteString(word(l))
	}
	return b.String()
}

// word returns a letter as a string.
func word(l api.Letter) string {
	switch l.Kind {
	case api.Pass:
		return strconv.Itoa(l.Gate) + "." + strconv.Itoa(l.Rank)
	case api.Cross:
		return strconv.Itoa(l.ID) + strand(l.Over) + sign(l.Sign)
	}
	return "?"
}

// strand returns the character for the strand on which a crossing is visited.
func strand(over bool) string {
	if over {
		return "o"
	}
	return "u"
}

// sign returns the character for the sign of a crossing.
func sign(n int) string {
	switch n {
	case 1:
		return "+"
	case -1:
		return "-"
	}
	return "?"
}

// Parse reads a code, exactly as Print returns it.
func Parse(s string) (api.Code, api.Errno) {
	if len(s) > maxText {
		return api.Code{}, api.ErrLong
	}
	head, rest, _ := strings.Cut(s, ":")
	var c api.Code
	c.Fingers, _ = strconv.Atoi(head)
	for _, part := range strings.Fields(rest) {
		c.Letters = append(c.Letters, letter(part))
	}
	// What cannot be read is printed in another way, and so are spaces, signs and zeros that Print does not write.
	if Print(c) != s || strings.Contains(s, "?") {
		return api.Code{}, api.ErrText
	}
	if e := Check(c); e != api.OK {
		return api.Code{}, e
	}
	return c, api.OK
}

// letter reads a letter of a code; what it returns for other strings is printed in another way.
func letter(s string) api.Letter {
	if gate, rank, ok := strings.Cut(s, "."); ok {
		l := api.Letter{Kind: api.Pass}
		l.Gate, _ = strconv.Atoi(gate)
		l.Rank, _ = strconv.Atoi(rank)
		return l
	}
	end := len(s) - 2
	if end < 0 {
		return api.Letter{}
	}
	l := api.Letter{Kind: api.Cross, Over: s[end] == 'o', Sign: 1}
	if s[end+1] == '-' {
		l.Sign = -1
	}
	l.ID, _ = strconv.Atoi(s[:end])
	return l
}
