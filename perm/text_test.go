package perm

import (
	"math"
	"strings"
	"testing"

	"commodatum/api"
)

func TestTextForms(t *testing.T) {
	cases := []struct {
		p    api.Perm
		want string
	}{
		{api.Perm{0}, "()"},
		{api.Perm{0, 1, 2, 3, 4, 5, 6}, "()"},
		{api.Perm{1, 0}, "(0 1)"},
		{api.Perm{0, 2, 1}, "(1 2)"},
		{api.Perm{2, 0, 1}, "(0 2 1)"},
		{api.Perm{1, 2, 3, 4, 0}, "(0 1 2 3 4)"},
		{api.Perm{3, 2, 1, 0}, "(0 3)(1 2)"},
		{api.Perm{6, 4, 5, 3, 1, 2, 0}, "(0 6)(1 4)(2 5)"},
	}
	for _, c := range cases {
		s, e := Text(c.p)
		if e != api.OK || s != c.want {
			t.Errorf("Text(%v) = %q, %v, want %q", c.p, s, e, c.want)
		}
		p, e := Parse(c.want, len(c.p))
		wantPerm(t, "Parse of "+c.want, p, e, c.p)
	}
	for _, bad := range invalid() {
		if s, e := Text(bad); s != "" || e != api.ErrForm {
			t.Errorf("Text(%v) = %q, %v", bad, s, e)
		}
	}
}

// texts returns the permutations of n points by their textual forms.
func texts(t *testing.T, n int) map[string]api.Perm {
	t.Helper()
	forms := map[string]api.Perm{}
	for _, p := range all(n) {
		s, e := Text(p)
		if e != api.OK || forms[s] != nil {
			t.Fatalf("Text(%v) = %q, %v, which is also that of %v", p, s, e, forms[s])
		}
		forms[s] = p
	}
	return forms
}

// check compares Parse with the table of all textual forms.
func check(t *testing.T, forms map[string]api.Perm, s string, n int) {
	t.Helper()
	p, e := Parse(s, n)
	if want := forms[s]; want != nil {
		wantPerm(t, "Parse of "+s, p, e, want)
	} else if e != api.ErrParse || p != nil {
		t.Fatalf("Parse(%q, %d) = %v, %v", s, n, p, e)
	}
}

// P1.6: Parse of Text is the permutation, for its number of points and for every other one that has all of its points.
func TestParseOfText(t *testing.T) {
	for n := 1; n <= api.MaxPoints; n++ {
		for m := 1; m <= api.MaxPoints; m++ {
			forms := texts(t, m)
			for s := range texts(t, n) {
				check(t, forms, s, m)
			}
		}
	}
}

// P1.6 and P9: all other strings are rejected; here all short strings of the letters that occur.
func TestParseOfAllShortStrings(t *testing.T) {
	for n := 1; n <= 3; n++ {
		forms := texts(t, n)
		var extend func(s string)
		extend = func(s string) {
			check(t, forms, s, n)
			if len(s) < 7 {
				for _, letter := range []string{"(", ")", " ", "0", "1", "2"} {
					extend(s + letter)
				}
			}
		}
		extend("")
	}
}

// P1.6 and P9: strings that differ in one place from a textual form are rejected, unless they are one.
func TestParseOfChangedTexts(t *testing.T) {
	letters := []string{"(", ")", " ", "0", "1", "3", "4", "5", "6", "7", "9", "/", ",", "-", "+", "\t", "\n", "\x00", "x", "\xff", "٣", "00"}
	for n := 4; n <= api.MaxPoints; n++ {
		forms := texts(t, n)
		for _, p := range some(n, 1+n*n) {
			s, _ := Text(p)
			for i := range len(s) + 1 {
				for _, letter := range letters {
					check(t, forms, s[:i]+letter+s[i:], n)
				}
				if i == len(s) {
					continue
				}
				check(t, forms, s[:i]+s[i+1:], n)
				check(t, forms, s[:i], n)
				check(t, forms, s[i+1:], n)
				for _, letter := range letters {
					check(t, forms, s[:i]+letter+s[i+1:], n)
				}
			}
			check(t, forms, s+s, n)
			check(t, forms, s+"()", n)
			check(t, forms, "()"+s, n)
		}
	}
}

func TestParseErrors(t *testing.T) {
	for _, s := range []string{"", " ", "()()", "( )", "(0)", "(1 0)", "(0 1)(0 2)", "(0 3)", "(0  1)", "(0 1) ", " (0 1)", "(0 1 )", "( 0 1)", "(0 1", "0 1)", "(2 3)(0 1)", "(01)", "(0,1)", "(0 1)(2)", "(0 -1)", "(0 1 2 0)", "(1 2 0)"} {
		p, e := Parse(s, 3)
		wantError(t, "Parse of "+s, p, e, api.ErrParse)
	}
	for _, long := range []string{strings.Repeat("(0 1)", 100000), strings.Repeat("(", 100000), "(0 1" + strings.Repeat(" ", 100000)} {
		p, e := Parse(long, 7)
		wantError(t, "Parse of a long string", p, e, api.ErrParse)
	}
	for _, n := range []int{0, -1, 8, math.MaxInt, math.MinInt} {
		for _, s := range []string{"()", "", "(0 1)"} {
			p, e := Parse(s, n)
			wantError(t, "Parse", p, e, api.ErrArg)
		}
	}
}
