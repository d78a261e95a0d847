package circuit

import "commodatum/api"

// fits reports whether g may follow the given number of gates in a circuit with the inputs.
func fits(g api.Gate, inputs, before int) bool {
	kids, less := 0, 1
	switch g.Kind {
	case api.FVar:
		less = inputs
	case api.FConst:
		less = 2
	case api.FNot:
		kids = 1
	case api.FAnd, api.FOr, api.FXor:
		kids = 2
	default:
		return false
	}
	if g.N < 0 || g.N >= less || len(g.Kids) != kids {
		return false
	}
	for _, kid := range g.Kids {
		if kid < 0 || kid >= before {
			return false
		}
	}
	return true
}

// fold returns the result of combine for the last gate: combine is given the results for the kids of a gate, and zero values where it has none.
func fold[R any](c api.Circuit, combine func(g api.Gate, kids [2]R) R) R {
	results := make([]R, len(c.Gates))
	for i, g := range c.Gates {
		var kids [2]R
		for k, kid := range g.Kids {
			kids[k] = results[kid]
		}
		results[i] = combine(g, kids)
	}
	return results[len(results)-1]
}

// values returns the values of c for 64 choices of the inputs at once: bit i of each word belongs to choice i.
func values(c api.Circuit, x []uint64) uint64 {
	return fold(c, func(g api.Gate, kids [2]uint64) uint64 {
		switch g.Kind {
		case api.FVar:
			return x[g.N]
		case api.FConst:
			return -uint64(g.N)
		case api.FNot:
			return ^kids[0]
		case api.FAnd:
			return kids[0] & kids[1]
		case api.FOr:
			return kids[0] | kids[1]
		}
		return kids[0] ^ kids[1]
	})
}

// choices returns the values of n inputs at 64 indexes of a table from start on.
func choices(n, start int) []uint64 {
	x := make([]uint64, n)
	for v := range x {
		for i := range 64 {
			x[v] |= uint64(start+i) >> v & 1 << i
		}
	}
	return x
}

// moved returns g in new memory, with its kids at their new places.
func moved(g api.Gate, place func(kid int) int) api.Gate {
	result := api.Gate{Kind: g.Kind, N: g.N}
	for _, kid := range g.Kids {
		result.Kids = append(result.Kids, place(kid))
	}
	return result
}

// needed reports for each gate whether the value of the last one depends on it, directly or through other gates.
func needed(c api.Circuit) []bool {
	list := make([]bool, len(c.Gates))
	list[len(list)-1] = true
	for i := len(list) - 1; i >= 0; i-- {
		if !list[i] {
			continue
		}
		for _, kid := range c.Gates[i].Kids {
			list[kid] = true
		}
	}
	return list
}

// unfolded returns the formula of c without double negations: chains of negations may be long where the depth is small.
// Its parts share memory, as it may have more nodes than any memory; formula.Valid stops at the limits.
func unfolded(c api.Circuit) api.Formula {
	return fold(c, func(g api.Gate, kids [2]api.Formula) api.Formula {
		switch {
		case g.Kind == api.FNot && kids[0].Kind == api.FNot:
			return kids[0].Kids[0]
		case len(g.Kids) == 0:
			return api.Formula{Kind: g.Kind, N: g.N}
		}
		return api.Formula{Kind: g.Kind, Kids: kids[:len(g.Kids)]}
	})
}

// copied returns f in memory of which no part is shared.
func copied(f api.Formula) api.Formula {
	result := api.Formula{Kind: f.Kind, N: f.N}
	for _, kid := range f.Kids {
		result.Kids = append(result.Kids, copied(kid))
	}
	return result
}
