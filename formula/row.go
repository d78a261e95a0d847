package formula

import (
	"slices"

	"commodatum/api"
)

// row is a list of truth values in words of 64 bits, so that a connective is applied to 64 values at once.
type row []uint64

// at returns the value with the index i.
func (r row) at(i int) bool { return r[i/64]>>(i%64)&1 == 1 }

// rowOf returns the values of f for all values of n inputs; what follows them in the last word has no meaning.
func rowOf(f api.Formula, n int) row {
	words := (1<<n + 63) / 64
	variables := rowsOfVariables(n, words)
	return fold(formulas(), f, func(kind, number int, kids []row) row {
		switch kind {
		case api.FVar:
			return slices.Clone(variables[number])
		case api.FConst:
			return slices.Repeat(row{-uint64(number)}, words)
		}
		// The row of a kid is used only here, and may be overwritten.
		connect(kind, kids)
		return kids[0]
	})
}

// rowsOfVariables returns for each of n variables its values at all indexes.
func rowsOfVariables(n, words int) []row {
	list := make([]row, n)
	for v := range list {
		list[v] = make(row, words)
		for i := range 1 << n {
			list[v][i/64] |= uint64(i) >> v & 1 << (i % 64)
		}
	}
	return list
}

// connect replaces the first row by the result of a connective.
func connect(kind int, rows []row) {
	result := rows[0]
	for i := range result {
		switch kind {
		case api.FNot:
			result[i] = ^result[i]
		case api.FAnd:
			result[i] &= rows[1][i]
		case api.FOr:
			result[i] |= rows[1][i]
		case api.FXor:
			result[i] ^= rows[1][i]
		}
	}
}
