package perm

import (
	"math"
	"slices"
	"testing"

	"commodatum/api"
)

// P1.5: ranks count the permutations in lexicographic order, and Unrank is inverse to Rank.
func TestRanks(t *testing.T) {
	for n := 1; n <= api.MaxPoints; n++ {
		for rank, p := range all(n) {
			got, e := Rank(p)
			if e != api.OK || got != rank {
				t.Fatalf("Rank(%v) = %d, %v, want %d", p, got, e, rank)
			}
			back, e := Unrank(n, rank)
			wantPerm(t, "Unrank", back, e, p)
		}
	}
}

// P1.5: the order is preserved.
func TestRanksPreserveTheOrder(t *testing.T) {
	last, e := Unrank(6, 0)
	sure(t, last, e)
	for rank := 1; rank < 720; rank++ {
		p, e := Unrank(6, rank)
		if slices.Compare(last, sure(t, p, e)) >= 0 {
			t.Fatalf("rank %d: %v does not precede %v", rank, last, p)
		}
		last = p
	}
}

func TestRankErrors(t *testing.T) {
	for _, bad := range invalid() {
		if r, e := Rank(bad); r != 0 || e != api.ErrForm {
			t.Errorf("Rank(%v) = %d, %v", bad, r, e)
		}
	}
	for _, c := range [][2]int{{0, 0}, {-1, 0}, {8, 0}, {math.MaxInt, 0}, {math.MinInt, 0}, {1, 1}, {3, -1}, {3, 6}, {7, 5040}, {5, math.MaxInt}, {5, math.MinInt}} {
		p, e := Unrank(c[0], c[1])
		wantError(t, "Unrank", p, e, api.ErrArg)
	}
	p, e := Unrank(3, 3)
	wantPerm(t, "Unrank(3, 3)", p, e, api.Perm{1, 2, 0})
}
