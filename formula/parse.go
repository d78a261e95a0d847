package formula

import (
	"strconv"
	"strings"

	"commodatum/api"
)

// reader is the rest of a text that is being parsed. Its methods panic with api.ErrParse if the text does not go on as it must.
type reader struct{ rest string }

// parse returns the node with the textual form s. A text that keeps its limit has too few bytes for too many nodes.
func parse[T any](l language[T], s string) (node T, e api.Errno) {
	defer func() {
		if recover() != nil {
			var none T
			node, e = none, api.ErrParse
		}
	}()
	if len(s) > api.MaxText {
		return node, api.ErrParse
	}
	r := &reader{s}
	node = read(l, r, 1)
	if r.rest != "" {
		panic(api.ErrParse)
	}
	return node, api.OK
}

// read returns the next node, which is nested to the given depth.
func read[T any](l language[T], r *reader, nested int) T {
	if nested > api.MaxDepth {
		panic(api.ErrParse)
	}
	kind := r.kind(l.shapes)
	s := l.shapes[kind]
	r.skip(s.word)
	if s.kids == 0 {
		return l.build(kind, r.number(s.less), nil)
	}
	kids := make([]T, s.kids)
	for i := range kids {
		if i > 0 {
			r.skip(", ")
		}
		kids[i] = read(l, r, nested+1)
	}
	r.skip(")")
	return l.build(kind, 0, kids)
}

// kind returns the kind with the longest word that comes next: "xor(" begins with the word of a variable, and all begins with that of a constant.
func (r *reader) kind(shapes []shape) int {
	found := api.FConst
	for kind, s := range shapes {
		if strings.HasPrefix(r.rest, s.word) && len(s.word) > len(shapes[found].word) {
			found = kind
		}
	}
	return found
}

func (r *reader) skip(word string) {
	rest, found := strings.CutPrefix(r.rest, word)
	if !found {
		panic(api.ErrParse)
	}
	r.rest = rest
}

// number reads a number in decimal that is less than the given one.
func (r *reader) number(less int) int {
	length := 0
	for length < len(r.rest) && r.rest[length] >= '0' && r.rest[length] <= '9' {
		length++
	}
	digits := r.rest[:length]
	n, err := strconv.Atoi(digits)
	if err != nil || n >= less || length > 1 && digits[0] == '0' {
		panic(api.ErrParse)
	}
	r.rest = r.rest[length:]
	return n
}
