package line

import (
	"strconv"
	"strings"

	"catscradle/api"
)

// maxText is the greatest number of bytes of a string that Parse reads.
const maxText = 2000

// empty is the string of an empty list.
const empty = "-"

// Print returns a list of integers as a string.
func Print(w []int) string {
	if len(w) == 0 {
		return empty
	}
	var b strings.Builder
	for i, gate := range w {
		if i > 0 {
			b.WriteByte(' ')
		}
		b.WriteString(strconv.Itoa(gate))
	}
	return b.String()
}

// Parse reads a word, exactly as Print returns it.
func Parse(s string) ([]int, api.Errno) {
	if len(s) > maxText {
		return nil, api.ErrLong
	}
	if s == empty {
		return nil, api.OK
	}
	var w []int
	for _, part := range strings.Split(s, " ") {
		gate, err := strconv.Atoi(part)
		if err != nil {
			return nil, api.ErrText
		}
		w = append(w, gate)
	}
	// Atoi also reads signs and leading zeros, which Print does not write.
	if !Valid(api.MaxFingers, w) || Print(w) != s {
		return nil, api.ErrText
	}
	return w, api.OK
}
