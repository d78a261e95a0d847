package formula

import (
	"reflect"
	"testing"

	"commodatum/api"
	"commodatum/field"
)

// P5.2: Parse of Text is the formula, and Text is the textual form.
func TestParseOfText(t *testing.T) {
	list := smallFormulas(4, input(0), input(9), input(10), input(15), truth(0), truth(1))
	r := numbers(4)
	for size := 1; size < 300; size++ {
		list = append(list, r.some(size, 16))
	}
	list = append(list, chain(1000, not))
	for _, f := range list {
		s, e := Text(f)
		want(t, s, e, written(f))
		g, e := Parse(s)
		want(t, g, e, f)
	}
}

func TestParseExprOfTextExpr(t *testing.T) {
	r := numbers(5)
	for _, f := range fields {
		list := smallExprs(3, place(0), place(9), place(10), place(15), number(0), number(1), number(field.Order(f)-1))
		for size := 1; size < 100; size++ {
			list = append(list, r.someExpr(f, size, 16))
		}
		list = append(list, chainExpr(1000, func(e api.Expr) api.Expr { return mul(e, number(1)) }))
		for _, x := range list {
			s, e := TextExpr(f, x)
			want(t, s, e, writtenExpr(x))
			y, e := ParseExpr(f, s)
			want(t, y, e, x)
		}
	}
}

// P5.2: of all lists of a few words, those that are textual forms are parsed, and all others are rejected.
func TestParseOfAllShortTexts(t *testing.T) {
	words := []string{"x", "0", "1", "5", "15", "16", "not(", "and(", "or(", "xor(", ", ", ",", " ", ")", "("}
	found := 0
	eachText(words, 5, func(s string) {
		f, e := Parse(s)
		if isText(s) {
			found++
			if e != api.OK || written(f) != s {
				t.Fatalf("Parse(%q): %v, %v", s, f, e)
			}
			return
		}
		if e != api.ErrParse || !reflect.ValueOf(f).IsZero() {
			t.Fatalf("Parse(%q): %v, %v", s, f, e)
		}
	})
	if found < 30 {
		t.Errorf("only %d textual forms", found)
	}
}

func TestParseExprOfAllShortTexts(t *testing.T) {
	words := []string{"x", "0", "1", "2", "12", "add(", "mul(", ", ", ",", " ", ")", "(", "-"}
	for _, f := range []api.Field{two, three, seven, broad} {
		order := field.Order(f)
		eachText(words, 5, func(s string) {
			x, e := ParseExpr(f, s)
			if isTextExpr(order, s) {
				if e != api.OK || writtenExpr(x) != s {
					t.Fatalf("ParseExpr(%v, %q): %v, %v", f, s, x, e)
				}
				return
			}
			if e != api.ErrParse || !reflect.ValueOf(x).IsZero() {
				t.Fatalf("ParseExpr(%v, %q): %v, %v", f, s, x, e)
			}
		})
	}
}

// eachText calls visit with the texts of at most the given number of words.
func eachText(words []string, most int, visit func(s string)) {
	var extend func(s string, left int)
	extend = func(s string, left int) {
		visit(s)
		for _, w := range words {
			if left > 0 {
				extend(s+w, left-1)
			}
		}
	}
	extend("", most)
}

// P5.2: a text with one byte changed, added or removed is a textual form of another formula, or rejected.
func TestParseOfChangedTexts(t *testing.T) {
	for _, s := range []string{"or(x0, and(x1, not(x2)))", "xor(x15, xor(1, not(not(x10))))"} {
		for _, changed := range changes(s) {
			f, e := Parse(changed)
			if isText(changed) {
				want(t, written(f), e, changed)
			} else {
				wantError(t, f, e, api.ErrParse)
			}
		}
	}
	for _, s := range []string{"mul(add(x0, 1), x1)", "add(x15, mul(106, add(x10, 0)))"} {
		for _, changed := range changes(s) {
			x, e := ParseExpr(api.Field{P: 257, M: 1}, changed)
			if isTextExpr(257, changed) {
				want(t, writtenExpr(x), e, changed)
			} else {
				wantError(t, x, e, api.ErrParse)
			}
		}
	}
}

func changes(s string) []string {
	var list []string
	for i := range len(s) + 1 {
		for _, c := range []byte("x0169(), -+andorXml\x00\n\xff") {
			list = append(list, s[:i]+string([]byte{c})+s[i:])
			if i < len(s) && s[i] != c {
				list = append(list, s[:i]+string([]byte{c})+s[i+1:])
			}
		}
		if i < len(s) {
			list = append(list, s[:i]+s[i+1:])
		}
	}
	return list
}

func TestParseErrors(t *testing.T) {
	for _, s := range []string{
		"", " ", "x", "x16", "x-1", "x+1", "x00", "x01", "x010", "X0", "2", "00", "01", "-0", "+1", "true", "x99999999999999999999", "99999999999999999999999",
		"and", "and()", "and(x0)", "and(x0,x1)", "and(x0,  x1)", "and(x0, x1, x2)", "and(x0 x1)", "and(x0, x1", "and(x0, x1))", "and(, x1)", "and (x0, x1)", "And(x0, x1)",
		"not", "not()", "not(x0, x1)", "not(x0) ", " not(x0)", "not x0", "nor(x0, x1)", "x0x1", "x0, x1", "(x0)", "x0(x1)", "xor", "xo(x0, x1)", "xnot(x0)",
		"add(x0, x1)", "mul(x0, x1)", "x٣", "x０", "ｘ0", "and(x0,\tx1)", "and(x0, x1)\n", "\x00",
	} {
		f, e := Parse(s)
		wantError(t, f, e, api.ErrParse)
	}
	for _, s := range []string{"", "7", "07", "00", "-1", "+1", "x16", "x00", "and(x0, x1)", "not(x0)", "add(x0)", "add(x0, 7)", "mul(x0, x1, x2)", "sub(x0, x1)", "add(x0,x1)", "18446744073709551616"} {
		x, e := ParseExpr(seven, s)
		wantError(t, x, e, api.ErrParse)
	}
	for _, c := range []struct {
		f    api.Field
		text string
		fits bool
	}{{large, "65520", true}, {large, "65521", false}, {broad, "65535", true}, {broad, "65536", false}, {two, "1", true}, {two, "2", false}, {four, "3", true}, {four, "4", false}} {
		x, e := ParseExpr(c.f, c.text)
		if c.fits {
			s, _ := TextExpr(c.f, x)
			want(t, s, e, c.text)
		} else {
			wantError(t, x, e, api.ErrParse)
		}
	}
	for _, f := range wrongFields {
		for _, s := range []string{"x0", "0", "x", ""} {
			x, e := ParseExpr(f, s)
			wantError(t, x, e, api.ErrForm)
		}
	}
}

// P5.2: nesting of 1000, but not of 1001.
func TestNestingOfTexts(t *testing.T) {
	for _, c := range []struct{ before, after string }{{"not(", ")"}, {"and(x1, ", ")"}, {"xor(", ", x1)"}} {
		f, e := Parse(repeat(c.before, 999) + "x0" + repeat(c.after, 999))
		if e != api.OK || !Valid(f) {
			t.Error(e)
		}
		f, e = Parse(repeat(c.before, 1000) + "x0" + repeat(c.after, 1000))
		wantError(t, f, e, api.ErrParse)
		f, e = Parse(repeat(c.before, 4000))
		wantError(t, f, e, api.ErrParse)
	}
	x, e := ParseExpr(two, repeat("add(x1, ", 999)+"x0"+repeat(")", 999))
	if e != api.OK || !ValidExpr(two, x) {
		t.Error(e)
	}
	x, e = ParseExpr(two, repeat("add(x1, ", 1000)+"x0"+repeat(")", 1000))
	wantError(t, x, e, api.ErrParse)
}

// P5.2: a text of MaxText bytes, but no longer one.
func TestLongestTexts(t *testing.T) {
	for tens := range 20 {
		f := full(api.FOr, 5000, func(i int) api.Formula {
			if i < tens {
				return input(10)
			}
			return input(0)
		})
		s, e := Text(f)
		g, e2 := Parse(written(f))
		wantNumber(t, len(written(f)), 39994+tens)
		if len(written(f)) <= api.MaxText {
			want(t, s, e, written(f))
			want(t, g, e2, f)
			continue
		}
		wantError(t, s, e, api.ErrSize)
		wantError(t, g, e2, api.ErrParse)
	}
	s, e := Text(not(full(api.FAnd, 10000, input16)))
	wantError(t, s, e, api.ErrSize)
	f, e := Parse(repeat("x", 1<<24))
	wantError(t, f, e, api.ErrParse)
	f, e = Parse("x0" + repeat(" ", api.MaxText))
	wantError(t, f, e, api.ErrParse)
}

func TestLongestTextsOfExpressions(t *testing.T) {
	for tens := range 20 {
		x := fullExpr(api.EAdd, 5000, func(i int) api.Expr {
			if i < tens {
				return number(10)
			}
			return number(1)
		})
		s, e := TextExpr(large, x)
		y, e2 := ParseExpr(large, writtenExpr(x))
		wantNumber(t, len(writtenExpr(x)), 39993+tens)
		if len(writtenExpr(x)) <= api.MaxText {
			want(t, s, e, writtenExpr(x))
			want(t, y, e2, x)
			continue
		}
		wantError(t, s, e, api.ErrSize)
		wantError(t, y, e2, api.ErrParse)
	}
}

func TestTextMemory(t *testing.T) {
	apart(t, api.Formula{}, parsed(t, "xor(and(x0, not(x1)), or(1, not(and(x1, x2))))"))
	apart(t, api.Expr{}, parsedExpr(t, five, "add(mul(x0, add(x1, 4)), mul(x2, add(3, x0)))"))
}
