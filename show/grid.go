package show

import (
	"slices"
	"strconv"
	"strings"

	"catscradle/api"
)

// Grid returns a picture as lines of text.
func Grid(p api.Picture) ([]string, api.Errno) {
	if _, e := Read(p); e != api.OK {
		return nil, e
	}
	lines := grid(p, p.Above, "^")
	slices.Reverse(lines)
	lines = append(lines, axis(p))
	return append(lines, grid(p, p.Below, "v")...), api.OK
}

// grid returns the lines of rows, away from the axis.
func grid(p api.Picture, rows []api.Row, arch string) []string {
	size := 0
	for _, n := range p.Gates {
		size += n
	}
	var lines []string
	for _, row := range rows {
		line := slices.Repeat([]string{"|"}, size)
		for i := range width(row) {
			line[row.At+i] = mark(row, arch)
		}
		lines = append(lines, strings.Join(line, " "))
		size -= width(row)
		if row.Kind == api.RowCross {
			size += 4 - width(row)
		}
	}
	return lines
}

// mark returns the character of the strands that a row joins or replaces.
func mark(row api.Row, arch string) string {
	switch {
	case row.Kind == api.RowCap:
		return arch
	case row.Over:
		return "+"
	}
	return "-"
}

// axis returns the line of the axis.
func axis(p api.Picture) string {
	var line []string
	for gate, n := range p.Gates {
		if gate > 0 {
			line = append(line, strconv.Itoa(gate))
		}
		line = append(line, slices.Repeat([]string{"|"}, n)...)
	}
	return strings.Join(line, " ")
}
