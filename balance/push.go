package balance

import "commodatum/api"

// pushed returns trees of a formula and of its negation, in which only variables are negated and no exclusive or is left.
func pushed(t *tree) (plain, negated *tree) {
	switch t.kind {
	case api.FVar, api.FConst:
		return t, negation(t)
	case api.FNot:
		plain, negated = pushed(t.kids[0])
		return negated, plain
	}
	a, notA := pushed(t.kids[0])
	b, notB := pushed(t.kids[1])
	switch t.kind {
	case api.FAnd:
		return and(a, b), or(notA, notB)
	case api.FOr:
		return or(a, b), and(notA, notB)
	}
	return or(and(a, notB), and(notA, b)), or(and(a, b), and(notA, notB))
}

func and(a, b *tree) *tree { return join(api.FAnd, a, b) }

func or(a, b *tree) *tree { return join(api.FOr, a, b) }
