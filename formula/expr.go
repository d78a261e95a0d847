package formula

import (
	"commodatum/api"
	"commodatum/field"
	"commodatum/poly"
)

// ValidExpr reports whether e is an expression over f that keeps the limits.
func ValidExpr(f api.Field, e api.Expr) bool { return field.Valid(f) && expressions(f).valid(e) }

// InputsExpr returns 1 more than the greatest index of a variable, 0 without variables, or -1 if e is not valid.
func InputsExpr(f api.Field, e api.Expr) int {
	if !ValidExpr(f, e) {
		return -1
	}
	return inputs(expressions(f), e)
}

// SizeExpr returns the number of variables and constants, or -1 if e is not valid.
func SizeExpr(f api.Field, e api.Expr) int {
	if !ValidExpr(f, e) {
		return -1
	}
	return size(expressions(f), e)
}

// DepthExpr returns the depth, or -1 if e is not valid.
func DepthExpr(f api.Field, e api.Expr) int {
	if !ValidExpr(f, e) {
		return -1
	}
	return depth(expressions(f), e)
}

// EvalExpr returns the value of e for the inputs x.
func EvalExpr(f api.Field, e api.Expr, x []int) (int, api.Errno) {
	if !ValidExpr(f, e) {
		return 0, api.ErrForm
	}
	if len(x) < InputsExpr(f, e) || !areElements(f, x) {
		return 0, api.ErrArg
	}
	value := fold(expressions(f), e, func(kind, n int, kids []int) int {
		switch kind {
		case api.EVar:
			return x[n]
		case api.EConst:
			return n
		case api.EAdd:
			sum, _ := field.Add(f, kids[0], kids[1])
			return sum
		}
		product, _ := field.Mul(f, kids[0], kids[1])
		return product
	})
	return value, api.OK
}

// PolyOf returns the polynomial of e in n variables.
func PolyOf(f api.Field, e api.Expr, n int) (api.Poly, api.Errno) {
	if !ValidExpr(f, e) {
		return nil, api.ErrForm
	}
	if n > api.MaxVars || n < InputsExpr(f, e) {
		return nil, api.ErrArg
	}
	failure := api.OK
	p := fold(expressions(f), e, func(kind, number int, kids []api.Poly) api.Poly {
		if failure != api.OK {
			return nil
		}
		var result api.Poly
		switch kind {
		case api.EVar:
			return variablePoly(n, number)
		case api.EConst:
			return constantPoly(n, number)
		case api.EAdd:
			result, failure = poly.Add(f, n, kids[0], kids[1])
		case api.EMul:
			result, failure = poly.Mul(f, n, kids[0], kids[1])
		}
		return result
	})
	if failure != api.OK {
		return nil, failure
	}
	return p, api.OK
}

// TextExpr returns the textual form of e.
func TextExpr(f api.Field, e api.Expr) (string, api.Errno) {
	if !ValidExpr(f, e) {
		return "", api.ErrForm
	}
	return text(expressions(f), e)
}

// ParseExpr returns the expression over f with the textual form s.
func ParseExpr(f api.Field, s string) (api.Expr, api.Errno) {
	if !field.Valid(f) {
		return api.Expr{}, api.ErrForm
	}
	return parse(expressions(f), s)
}

func areElements(f api.Field, list []int) bool {
	order := field.Order(f)
	for _, a := range list {
		if a < 0 || a >= order {
			return false
		}
	}
	return true
}

func variablePoly(n, i int) api.Poly {
	exponents := make([]int, n)
	exponents[i] = 1
	return api.Poly{{C: 1, E: exponents}}
}

func constantPoly(n, c int) api.Poly {
	if c == 0 {
		return nil
	}
	return api.Poly{{C: c, E: make([]int, n)}}
}
