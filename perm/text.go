package perm

import (
	"strconv"
	"strings"

	"commodatum/api"
)

// Text returns the textual form of p.
func Text(p api.Perm) (string, api.Errno) {
	if !Valid(p) {
		return "", api.ErrForm
	}
	long := Cycles(p)
	if len(long) == 0 {
		return "()", api.OK
	}
	var text strings.Builder
	for _, cycle := range long {
		separator := "("
		for _, point := range cycle {
			text.WriteString(separator)
			text.WriteString(strconv.Itoa(point))
			separator = " "
		}
		text.WriteString(")")
	}
	return text.String(), api.OK
}

// Parse returns the permutation of n points whose textual form is s.
func Parse(s string, n int) (api.Perm, api.Errno) {
	p, e := Identity(n)
	if e != api.OK {
		return nil, e
	}
	if s == "()" {
		return p, api.OK
	}
	var met marks
	for rest := s; rest != ""; {
		var ok bool
		if rest, ok = parseCycle(rest, p, &met); !ok {
			return nil, api.ErrParse
		}
	}
	// The cycles have been read wherever each of them begins, and in any order; only one of the ways to write them is the textual form.
	if t, _ := Text(p); t != s {
		return nil, api.ErrParse
	}
	return p, api.OK
}

// parseCycle reads the cycle at the beginning of s, enters it into p, marks its points and returns the rest of s.
// It fails at the first point that is marked already, so that a long string is not read to its end, and p stays valid.
func parseCycle(s string, p api.Perm, met *marks) (string, bool) {
	var cycle []int
	before := byte('(')
	for len(s) >= 3 && s[0] == before {
		point := int(s[1]) - '0'
		if point < 0 || point >= len(p) || met[point] {
			return "", false
		}
		met[point] = true
		cycle = append(cycle, point)
		if s[2] == ')' {
			enterCycle(p, cycle)
			return s[3:], true
		}
		s = s[2:]
		before = ' '
	}
	return "", false
}

// enterCycle lets p map each point of the cycle to the next one, and the last one to the first.
func enterCycle(p api.Perm, cycle []int) {
	for i, point := range cycle {
		p[point] = cycle[(i+1)%len(cycle)]
	}
}
