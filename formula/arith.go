package formula

import (
	"commodatum/api"
	"commodatum/field"
)

// Arith returns an expression over f that has the value 1 where g is true and 0 where it is false.
func Arith(f api.Field, g api.Formula) (api.Expr, api.Errno) {
	if !field.Valid(f) || !Valid(g) {
		return api.Expr{}, api.ErrForm
	}
	c := calculator{f}
	value := fold(formulas(), g, func(kind, n int, kids []linear) linear {
		switch kind {
		case api.FVar:
			return linear{api.Expr{Kind: api.EVar, N: n}, 0, 1}
		case api.FConst:
			return linear{api.Expr{Kind: api.EConst, N: n}, 0, 1}
		case api.FNot:
			return c.not(kids[0])
		case api.FAnd:
			return c.and(kids[0], kids[1])
		case api.FOr:
			return c.not(c.and(c.not(kids[0]), c.not(kids[1])))
		}
		return c.xor(kids[0], kids[1])
	})
	e := c.expression(value)
	if !ValidExpr(f, e) {
		return api.Expr{}, api.ErrSize
	}
	return e, api.OK
}

// linear stands for the value shift + factor e. The factor is not 0.
// The numbers are kept apart from e because then a negation changes only them, and each kid is needed only once: the result grows and deepens in proportion to the formula.
type linear struct {
	e             api.Expr
	shift, factor int
}

// calculator computes with elements of its field.
type calculator struct{ f api.Field }

func (c calculator) add(a, b int) int {
	sum, _ := field.Add(c.f, a, b)
	return sum
}

func (c calculator) mul(a, b int) int {
	product, _ := field.Mul(c.f, a, b)
	return product
}

func (c calculator) minus(a int) int {
	difference, _ := field.Sub(c.f, 0, a)
	return difference
}

// inverse returns 1 divided by a, which is not 0.
func (c calculator) inverse(a int) int {
	inverse, _ := field.Inverse(c.f, a)
	return inverse
}

// changed returns shift + factor a.
func (c calculator) changed(a linear, shift, factor int) linear {
	return linear{a.e, c.add(shift, c.mul(factor, a.shift)), c.mul(factor, a.factor)}
}

func (c calculator) not(a linear) linear { return c.changed(a, 1, c.minus(1)) }

// and returns the product: factors are moved out of it.
func (c calculator) and(a, b linear) linear {
	one := c.plus(c.mul(a.shift, c.inverse(a.factor)), a.e)
	other := c.plus(c.mul(b.shift, c.inverse(b.factor)), b.e)
	return linear{join(api.EMul, one, other), 0, c.mul(a.factor, b.factor)}
}

// xor returns the sum if the characteristic is 2. Otherwise 1 - 2 a, which is 1 or -1, is multiplied instead of a.
func (c calculator) xor(a, b linear) linear {
	two := c.add(1, 1)
	if two == 0 {
		// The factors are 1: they are changed by negations only, and -1 is 1.
		return linear{join(api.EAdd, a.e, b.e), c.add(a.shift, b.shift), 1}
	}
	product := c.and(c.changed(a, 1, c.minus(two)), c.changed(b, 1, c.minus(two)))
	half := c.inverse(two)
	return c.changed(product, half, c.minus(half))
}

// expression returns an expression of the value.
func (c calculator) expression(a linear) api.Expr {
	if a.factor == 1 {
		return c.plus(a.shift, a.e)
	}
	return c.plus(a.shift, join(api.EMul, constant(a.factor), a.e))
}

// plus returns the sum of an element and an expression.
func (c calculator) plus(shift int, e api.Expr) api.Expr {
	if shift == 0 {
		return e
	}
	return join(api.EAdd, constant(shift), e)
}

func constant(n int) api.Expr { return api.Expr{Kind: api.EConst, N: n} }

func join(kind int, a, b api.Expr) api.Expr {
	return api.Expr{Kind: kind, Kids: []api.Expr{a, b}}
}
