package balance

import "commodatum/api"

// Trees stand for formulas and for expressions, with the kinds of formulas: a product of an expression is an FAnd, as it has the same laws for 0 and 1. Its sums have a kind of their own.
const (
	sum   = api.FKinds
	kinds = api.FKinds + 1
)

// enough is where counts of nodes end: a result with as many is too large, and a tree that shares kids may have more than an int can count.
const enough = api.MaxNodes + 1

// tree is a formula or an expression together with its measures, of which nodes and size end at enough. It is never changed, so that trees may share their kids.
type tree struct {
	kind, n       int
	kids          []*tree
	nodes, size   int
	nested, depth int
}

func leaf(kind, n int) *tree {
	return &tree{kind: kind, n: n, nodes: 1, nested: 1, size: 1}
}

func constant(n int) *tree { return leaf(api.FConst, n) }

// inner returns a tree with the kids.
func inner(kind int, kids ...*tree) *tree {
	t := &tree{kind: kind, kids: kids, nodes: 1}
	for _, k := range kids {
		t.nodes = min(t.nodes+k.nodes, enough)
		t.size = min(t.size+k.size, enough)
		t.nested = max(t.nested, k.nested)
		t.depth = max(t.depth, k.depth)
	}
	t.nested++
	t.depth += cost(kind)
	return t
}

// cost returns how much deeper a node of the kind is than its kids.
func cost(kind int) int {
	switch kind {
	case api.FNot:
		return 0
	case api.FXor:
		return 2
	}
	return 1
}

// negation returns the negation of a formula. It neither negates a constant nor a negation.
func negation(t *tree) *tree {
	switch t.kind {
	case api.FConst:
		return constant(1 - t.n)
	case api.FNot:
		return t.kids[0]
	}
	return inner(api.FNot, t)
}

// join connects two trees. The constants 0 and 1 vanish wherever the laws of the kind permit, which is everywhere in a formula.
func join(kind int, a, b *tree) *tree {
	if a.kind == api.FConst {
		if t := withConstant(kind, a, b); t != nil {
			return t
		}
	}
	if b.kind == api.FConst {
		if t := withConstant(kind, b, a); t != nil {
			return t
		}
	}
	return inner(kind, a, b)
}

// withConstant connects a constant c and a tree to one of these, or to the negation of the tree; it returns nil if there is no law for it.
func withConstant(kind int, c, t *tree) *tree {
	switch {
	case c.n == 0 && kind == api.FAnd:
		return c
	case c.n == 0:
		return t
	case c.n == 1 && kind == api.FAnd:
		return t
	case c.n == 1 && kind == api.FOr:
		return c
	case c.n == 1 && kind == api.FXor:
		return negation(t)
	}
	return nil
}

// readFormula returns the tree of f whose leaves are replaced by what the function returns for them.
func readFormula(f api.Formula, replace func(kind, n int) *tree) *tree {
	switch len(f.Kids) {
	case 0:
		return replace(f.Kind, f.N)
	case 1:
		return negation(readFormula(f.Kids[0], replace))
	}
	return join(f.Kind, readFormula(f.Kids[0], replace), readFormula(f.Kids[1], replace))
}

// readExpr returns the tree of e, with its leaves replaced likewise.
func readExpr(e api.Expr, replace func(kind, n int) *tree) *tree {
	if len(e.Kids) == 0 {
		return replace(e.Kind, e.N)
	}
	kind := sum
	if e.Kind == api.EMul {
		kind = api.FAnd
	}
	return join(kind, readExpr(e.Kids[0], replace), readExpr(e.Kids[1], replace))
}

// formula returns the formula of t in new memory.
func (t *tree) formula() api.Formula {
	f := api.Formula{Kind: t.kind, N: t.n}
	for _, k := range t.kids {
		f.Kids = append(f.Kids, k.formula())
	}
	return f
}

// expression returns the expression of t in new memory.
func (t *tree) expression() api.Expr {
	e := api.Expr{Kind: t.kind, N: t.n}
	switch t.kind {
	case api.FAnd:
		e.Kind = api.EMul
	case sum:
		e.Kind = api.EAdd
	}
	for _, k := range t.kids {
		e.Kids = append(e.Kids, k.expression())
	}
	return e
}

// tooLarge reports whether t exceeds a limit.
func (t *tree) tooLarge() bool { return t.nodes > api.MaxNodes || t.nested > api.MaxDepth }
