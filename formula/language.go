package formula

import (
	"strconv"

	"commodatum/api"
	"commodatum/field"
)

// language describes nodes T, those of formulas or those of expressions over a field.
type language[T any] struct {
	shapes []shape // by kind
	open   func(node T) (kind, n int, kids []T)
	build  func(kind, n int, kids []T) T
}

// shape describes the nodes of one kind.
type shape struct {
	word string // the beginning of the textual form
	kids int
	less int // N is less than it
	deep int // the depth beyond that of the kids
}

func formulas() language[api.Formula] {
	return language[api.Formula]{
		shapes: []shape{
			api.FVar:   {word: "x", less: api.MaxInputs},
			api.FConst: {word: "", less: 2},
			api.FNot:   {word: "not(", kids: 1, less: 1},
			api.FAnd:   {word: "and(", kids: 2, less: 1, deep: 1},
			api.FOr:    {word: "or(", kids: 2, less: 1, deep: 1},
			api.FXor:   {word: "xor(", kids: 2, less: 1, deep: 2},
		},
		open:  func(f api.Formula) (int, int, []api.Formula) { return f.Kind, f.N, f.Kids },
		build: func(kind, n int, kids []api.Formula) api.Formula { return api.Formula{Kind: kind, N: n, Kids: kids} },
	}
}

// expressions describes the expressions over the field f.
func expressions(f api.Field) language[api.Expr] {
	return language[api.Expr]{
		shapes: []shape{
			api.EVar:   {word: "x", less: api.MaxInputs},
			api.EConst: {word: "", less: field.Order(f)},
			api.EAdd:   {word: "add(", kids: 2, less: 1, deep: 1},
			api.EMul:   {word: "mul(", kids: 2, less: 1, deep: 1},
		},
		open:  func(e api.Expr) (int, int, []api.Expr) { return e.Kind, e.N, e.Kids },
		build: func(kind, n int, kids []api.Expr) api.Expr { return api.Expr{Kind: kind, N: n, Kids: kids} },
	}
}

// valid reports whether the shapes of all nodes are right and the limits are kept.
func (l language[T]) valid(node T) bool {
	nodes := 0
	return l.fits(node, 1, &nodes)
}

// fits checks a node that is nested to the given depth, and counts nodes. It stops at the limits, as kids that share memory may be without end.
func (l language[T]) fits(node T, nested int, nodes *int) bool {
	*nodes++
	if nested > api.MaxDepth || *nodes > api.MaxNodes {
		return false
	}
	kind, n, kids := l.open(node)
	if kind < 0 || kind >= len(l.shapes) {
		return false
	}
	s := l.shapes[kind]
	if n < 0 || n >= s.less || len(kids) != s.kids {
		return false
	}
	for _, kid := range kids {
		if !l.fits(kid, nested+1, nodes) {
			return false
		}
	}
	return true
}

// fold returns the result of combine for a node: combine is given the results for the kids.
func fold[T, R any](l language[T], node T, combine func(kind, n int, kids []R) R) R {
	kind, n, kids := l.open(node)
	results := make([]R, len(kids))
	for i, kid := range kids {
		results[i] = fold(l, kid, combine)
	}
	return combine(kind, n, results)
}

// inputs returns 1 more than the greatest index of a variable, or 0; variables have the same kind in both languages.
func inputs[T any](l language[T], node T) int {
	return fold(l, node, func(kind, n int, kids []int) int {
		if kind == api.FVar {
			return n + 1
		}
		return greatest(kids)
	})
}

// size returns the number of nodes without kids.
func size[T any](l language[T], node T) int {
	return fold(l, node, func(kind, n int, kids []int) int {
		if len(kids) == 0 {
			return 1
		}
		total := 0
		for _, k := range kids {
			total += k
		}
		return total
	})
}

func depth[T any](l language[T], node T) int {
	return fold(l, node, func(kind, n int, kids []int) int { return greatest(kids) + l.shapes[kind].deep })
}

// greatest returns the maximum of numbers that are not negative, and 0 without numbers.
func greatest(list []int) int {
	most := 0
	for _, n := range list {
		most = max(most, n)
	}
	return most
}

// text returns the textual form of a valid node.
func text[T any](l language[T], node T) (string, api.Errno) {
	written := l.appendText(nil, node)
	if len(written) > api.MaxText {
		return "", api.ErrSize
	}
	return string(written), api.OK
}

func (l language[T]) appendText(text []byte, node T) []byte {
	kind, n, kids := l.open(node)
	text = append(text, l.shapes[kind].word...)
	if len(kids) == 0 {
		return strconv.AppendInt(text, int64(n), 10)
	}
	for i, kid := range kids {
		if i > 0 {
			text = append(text, ", "...)
		}
		text = l.appendText(text, kid)
	}
	return append(text, ')')
}
