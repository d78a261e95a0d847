package group

import (
	"fmt"
	"slices"
	"testing"

	"commodatum/api"
)

func TestCloseIsLeastGroup(t *testing.T) {
	for _, p := range all(4) {
		for _, q := range all(4) {
			got, e := Close([]api.Perm{p, q})
			if want := span([]api.Perm{p, q}); e != api.OK || !same(got, want) || !isGroup(got) {
				t.Fatalf("Close(%v, %v) = %v, %v, want %v", p, q, got, e, want)
			}
		}
	}
}

func TestCloseOrders(t *testing.T) {
	for _, x := range []struct {
		gens []api.Perm
		want int
	}{
		{[]api.Perm{{0}}, 1},
		{[]api.Perm{{0, 1, 2, 3, 4, 5, 6}}, 1},
		{[]api.Perm{{1, 2, 3, 4, 0}, {1, 2, 0, 3, 4}}, 60},
		{[]api.Perm{{1, 2, 0, 4, 3}}, 6},
		{[]api.Perm{{1, 0, 2, 3, 4, 5, 6}, {1, 2, 3, 4, 5, 6, 0}}, 5040},
		{[]api.Perm{{1, 2, 0, 3, 4, 5, 6}, {1, 2, 3, 4, 5, 6, 0}}, 2520},
		{[]api.Perm{{1, 2, 3, 4, 5, 6, 0}, {1, 0, 5, 3, 4, 2, 6}}, 168},
		{all(7), 5040},
		{slices.Repeat([]api.Perm{{1, 0}}, api.MaxOrder), 2},
	} {
		got, e := Close(x.gens)
		if e != api.OK || len(got) != x.want || !Valid(got) {
			t.Errorf("Close of %d generators: %d elements, %v, want %d", len(x.gens), len(got), e, x.want)
		}
	}
}

func TestCloseErrors(t *testing.T) {
	for what, gens := range map[string][]api.Perm{
		"nil":          nil,
		"empty":        {},
		"other points": {{0, 1}, {0, 1, 2}},
		"invalid":      {{0, 1}, {1, 1}},
		"no points":    {{}},
		"eight points": {{0, 1, 2, 3, 4, 5, 6, 7}},
		"too many":     slices.Repeat([]api.Perm{{1, 0}}, api.MaxOrder+1),
	} {
		if got, e := Close(gens); e != api.ErrForm || got != nil {
			t.Errorf("%s: %v, %v", what, got, e)
		}
	}
}

// P2.1: a group is its own closure, and the orders of groups that contain each other divide each other.
func TestClosed(t *testing.T) {
	for _, g := range samples(t) {
		if again := closed1(t, g...); !same(again, g) {
			t.Fatalf("Close(%v) = %v", g, again)
		}
	}
	groups := subgroups(t, 4)
	if len(groups) != 30 {
		t.Errorf("%d groups of permutations of four points, want 30", len(groups))
	}
	for _, g := range groups {
		set := setOf(g)
		for _, h := range groups {
			if !slices.ContainsFunc(h, func(p api.Perm) bool { return !in(set, p) }) && len(g)%len(h) != 0 {
				t.Fatalf("the group %v of %d elements contains %v", g, len(g), h)
			}
		}
	}
}

func TestValid(t *testing.T) {
	for _, g := range samples(t) {
		if !Valid(g) {
			t.Fatalf("not valid: %v", g)
		}
		for i := range g {
			less := slices.Delete(slices.Clone(g), i, i+1)
			if Valid(less) != (len(g) == 2 && i == 1) {
				t.Fatalf("Valid(%v) = %v", less, Valid(less))
			}
		}
	}
	for what, l := range notGroups() {
		if Valid(l) {
			t.Errorf("%s: valid", what)
		}
	}
	if !Valid(all(7)) || Valid(all(7)[:5039]) || Valid(append(all(7), api.Perm{6, 5, 4, 3, 2, 1, 0})) {
		t.Error("all permutations of seven points")
	}
}

// Every set of permutations of three points that holds the identity is tried.
func TestValidAmongAllSets(t *testing.T) {
	perms := all(3)
	valid := 0
	for mask := range 1 << len(perms) {
		var l []api.Perm
		for i, p := range perms {
			if mask>>i&1 == 1 {
				l = append(l, p)
			}
		}
		if Valid(l) != isGroup(l) {
			t.Errorf("Valid(%v) = %v", l, Valid(l))
		}
		if Valid(l) {
			valid++
		}
	}
	if valid != 6 {
		t.Errorf("%d groups, want 6", valid)
	}
}

// P2.2: the derived group is the closure of all commutators, it is normal, and trivial just for commutative groups.
func TestDerived(t *testing.T) {
	for _, g := range samples(t) {
		commutators := brackets(g)
		d, e := Derived(g)
		if want := span(commutators); e != api.OK || !same(d, want) {
			t.Fatalf("Derived(%v) = %v, %v, want %v", g, d, e, want)
		}
		if is, e := Normal(g, d); e != api.OK || !is {
			t.Fatalf("the derived group of %v is not normal: %v, %v", g, is, e)
		}
		commutative := true
		for _, p := range g {
			for _, q := range g {
				commutative = commutative && equal(then(p, q), then(q, p))
			}
		}
		if commutative != (len(d) == 1) {
			t.Fatalf("Derived(%v) = %v", g, d)
		}
	}
	if d, e := Derived(all(7)); e != api.OK || len(d) != 2520 || !Valid(d) {
		t.Errorf("Derived of all permutations of seven points: %d elements, %v", len(d), e)
	}
}

func TestSeries(t *testing.T) {
	for _, g := range samples(t) {
		series, e := Series(g)
		if e != api.OK || len(series) == 0 || !same(series[0], g) {
			t.Fatalf("Series(%v) = %v, %v", g, series, e)
		}
		for i, member := range series {
			next := span(brackets(member))
			if last := i == len(series)-1; last != same(next, member) || !last && !same(next, series[i+1]) {
				t.Fatalf("Series(%v) = %v", g, series)
			}
		}
	}
	for _, x := range []struct {
		group []api.Perm
		want  []int
	}{
		{all(1), []int{1}},
		{all(2), []int{2, 1}},
		{all(3), []int{6, 3, 1}},
		{all(4), []int{24, 12, 4, 1}},
		{all(5), []int{120, 60}},
		{all(7), []int{5040, 2520}},
		{closed1(t, api.Perm{1, 2, 3, 4, 0}, api.Perm{1, 2, 0, 3, 4}), []int{60}},
	} {
		series, e := Series(x.group)
		var sizes []int
		for _, g := range series {
			sizes = append(sizes, len(g))
		}
		if e != api.OK || !slices.Equal(sizes, x.want) {
			t.Errorf("Series: %v, %v, want %v", sizes, e, x.want)
		}
	}
}

// P2.3.
func TestSolvable(t *testing.T) {
	for n := 1; n <= 7; n++ {
		if is, e := Solvable(all(n)); e != api.OK || is != (n <= 4) {
			t.Errorf("all permutations of %d points: %v, %v", n, is, e)
		}
	}
	for _, g := range subgroups(t, 4) {
		if is, e := Solvable(g); e != api.OK || !is {
			t.Errorf("Solvable(%v) = %v, %v", g, is, e)
		}
	}
	groups := subgroups(t, 5)
	if len(groups) != 156 {
		t.Errorf("%d groups of permutations of five points, want 156", len(groups))
	}
	for _, g := range groups {
		// The order of the least group that is not solvable is 60.
		if is, e := Solvable(g); e != api.OK || is != (len(g) < 60) {
			t.Errorf("Solvable of %d elements: %v, %v", len(g), is, e)
		}
	}
}

func TestNormal(t *testing.T) {
	for n := 1; n <= 4; n++ {
		groups := subgroups(t, n)
		for _, g := range groups {
			for _, h := range groups {
				checkNormal(t, g, h)
			}
		}
	}
	five := all(5)
	for _, h := range subgroups(t, 5) {
		checkNormal(t, five, h)
	}
}

// checkNormal conjugates all elements with all elements.
func checkNormal(t *testing.T, g, h []api.Perm) {
	t.Helper()
	whole, part := setOf(g), setOf(h)
	want, wantError := true, api.OK
	for _, s := range h {
		if !in(whole, s) {
			want, wantError = false, api.ErrArg
		}
		for _, c := range g {
			want = want && in(part, then(then(back(c), s), c))
		}
	}
	if is, e := Normal(g, h); e != wantError || is != want {
		t.Fatalf("Normal(%v, %v) = %v, %v, want %v, %v", g, h, is, e, want, wantError)
	}
}

// P2.4, the center.
func TestCenter(t *testing.T) {
	for _, g := range append(samples(t), all(6)) {
		var want []api.Perm
		for _, p := range g {
			if !slices.ContainsFunc(g, func(q api.Perm) bool { return !equal(then(p, q), then(q, p)) }) {
				want = append(want, p)
			}
		}
		if got, e := Center(g); e != api.OK || !same(got, want) {
			t.Fatalf("Center(%v) = %v, %v, want %v", g, got, e, want)
		}
	}
}

// P2.4, the classes.
func TestClasses(t *testing.T) {
	for _, g := range append(samples(t), all(6)) {
		classes, e := Classes(g)
		if e != api.OK {
			t.Fatal(e)
		}
		seen := map[string]bool{}
		for i, class := range classes {
			if i > 0 && slices.Compare(classes[i-1][0], class[0]) >= 0 {
				t.Fatalf("Classes(%v): not rising", g)
			}
			conjugates := map[string]api.Perm{}
			for _, c := range g {
				p := then(then(back(c), class[0]), c)
				conjugates[fmt.Sprint(p)] = p
				seen[fmt.Sprint(p)] = true
			}
			if want := rising(conjugates); !same(class, want) || len(g)%len(class) != 0 {
				t.Fatalf("Classes(%v): class %v, want %v", g, class, want)
			}
		}
		if len(seen) != len(g) {
			t.Fatalf("Classes(%v): %d elements of %d", g, len(seen), len(g))
		}
		checkCenterClasses(t, g, classes)
	}
	if classes, e := Classes(all(7)); e != api.OK || len(classes) != 15 {
		t.Errorf("all permutations of seven points: %d classes, %v", len(classes), e)
	}
}

// checkCenterClasses compares the center with the classes of one element.
func checkCenterClasses(t *testing.T, g []api.Perm, classes [][]api.Perm) {
	t.Helper()
	var single []api.Perm
	count := 0
	for _, class := range classes {
		count += len(class)
		if len(class) == 1 {
			single = append(single, class[0])
		}
	}
	center, _ := Center(g)
	if count != len(g) || !same(center, single) {
		t.Fatalf("%v: %d elements in the classes, center %v, classes of one element %v", g, count, center, single)
	}
}

func TestErrForm(t *testing.T) {
	good := all(3)
	for what, l := range notGroups() {
		if got, e := Derived(l); e != api.ErrForm || got != nil {
			t.Errorf("%s: Derived %v, %v", what, got, e)
		}
		if got, e := Series(l); e != api.ErrForm || got != nil {
			t.Errorf("%s: Series %v, %v", what, got, e)
		}
		if got, e := Solvable(l); e != api.ErrForm || got {
			t.Errorf("%s: Solvable %v, %v", what, got, e)
		}
		if got, e := Normal(l, good); e != api.ErrForm || got {
			t.Errorf("%s: Normal %v, %v", what, got, e)
		}
		if got, e := Normal(good, l); e != api.ErrForm || got {
			t.Errorf("%s: Normal of it %v, %v", what, got, e)
		}
		if got, e := Center(l); e != api.ErrForm || got != nil {
			t.Errorf("%s: Center %v, %v", what, got, e)
		}
		if got, e := Classes(l); e != api.ErrForm || got != nil {
			t.Errorf("%s: Classes %v, %v", what, got, e)
		}
		if got, e := Pairs(l, api.Perm{0, 1}); e != api.ErrForm || got != nil {
			t.Errorf("%s: Pairs %v, %v", what, got, e)
		}
	}
}

func TestNormalErrArg(t *testing.T) {
	for _, x := range []struct {
		what   string
		l, sub []api.Perm
	}{
		{"other points", all(3), all(2)},
		{"more points, the same after them", all(2), []api.Perm{{0, 1, 2}, {1, 0, 2}}},
		{"identities", all(1), []api.Perm{{0, 1}}},
		{"larger", closed1(t, api.Perm{1, 2, 0}), all(3)},
		{"beside it", closed1(t, api.Perm{1, 0, 2}), closed1(t, api.Perm{0, 2, 1})},
	} {
		if got, e := Normal(x.l, x.sub); e != api.ErrArg || got {
			t.Errorf("%s: %v, %v", x.what, got, e)
		}
	}
}

// Results are new memory, and arguments are left as they are.
func TestMemory(t *testing.T) {
	g := all(4)
	before := all(4)
	series, _ := Series(g)
	derived, _ := Derived(g)
	classes, _ := Classes(g)
	center, _ := Center(g)
	results := append(append(slices.Clone(series), derived, center, closed1(t, g...)), classes...)
	for _, list := range results {
		for _, p := range list {
			for i := range p {
				p[i] = -1
			}
		}
	}
	if !same(g, before) {
		t.Error("an argument shares memory with a result")
	}
	for _, list := range results {
		for _, p := range list {
			p[0]--
			if p[0] != -2 {
				t.Fatal("two results share memory")
			}
		}
	}
}
