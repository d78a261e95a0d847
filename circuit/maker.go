package circuit

import (
	"slices"

	"commodatum/api"
)

// maker makes a list of gates, no two of which are equal.
type maker struct {
	gates  []api.Gate
	places map[shape]int
}

// shape describes a gate. It is also the same if the kids are exchanged, which changes no value: they are in ascending order.
type shape struct {
	kind, n int
	kids    [2]int
}

func newMaker() *maker { return &maker{places: map[shape]int{}} }

// put returns the place of a gate of the shape of g. It appends g, which it keeps, if there is none.
// A gate for which all others are needed is always appended, as it unfolds into more nodes than each of them: so it is the last one, as the value of a circuit must be.
func (m *maker) put(g api.Gate) int {
	s := shape{kind: g.Kind, n: g.N}
	copy(s.kids[:], g.Kids)
	slices.Sort(s.kids[:])
	if place, found := m.places[s]; found {
		return place
	}
	place := len(m.gates)
	m.places[s] = place
	m.gates = append(m.gates, g)
	return place
}

// putFormula returns the place of the gate of f, and puts those of its kids before it.
func (m *maker) putFormula(f api.Formula) int {
	g := api.Gate{Kind: f.Kind, N: f.N}
	for _, kid := range f.Kids {
		place := m.putFormula(kid)
		g.Kids = append(g.Kids, place)
	}
	return m.put(g)
}
