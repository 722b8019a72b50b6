package tree_test

import (
	"strconv"
	"strings"
	"testing"

	"sluiceway/api"
	"sluiceway/tree"
)

// fits asks for a tree of a text.
func fits(t *testing.T, text string) {
	t.Helper()
	parsed(t, text)
}

// numbered is so many pieces in a row, a number in each.
func numbered(n int, ahead, behind string) string {
	s := ""
	for k := range n {
		s += ahead + strconv.Itoa(k) + behind
	}
	return s
}

// 8.1: as many globals as there may be, and one more, which is told ahead of what is wrong behind it.
func TestParseOfManyGlobals(t *testing.T) {
	most := numbered(api.MaxGlobals, "var a", "\n")
	fits(t, most)
	fits(t, most+"func f() {}\n")
	wrong(t, most+"@var b\n", api.ErrLimit)
	wrong(t, most+"@var", api.ErrLimit)
	wrong(t, most+"@var 1", api.ErrLimit)
	wrong(t, "func f() {}\n"+most+"func g() {}\n@var b\n", api.ErrLimit)
	wrong(t, most+"@x var b", api.ErrForm)
	wrong(t, numbered(api.MaxGlobals-1, "var a", "\n")+"var @1\nvar b\nvar c\n", api.ErrForm)
	if src := parsed(t, most); len(src.Globals) != api.MaxGlobals {
		t.Errorf("%d globals", len(src.Globals))
	}
}

// 8.1: as many functions as there may be, and one more.
func TestParseOfManyFunctions(t *testing.T) {
	most := numbered(api.MaxFuncs, "func f", "() {}\n")
	fits(t, most)
	fits(t, most+"var a\n")
	wrong(t, most+"@func g() {}\n", api.ErrLimit)
	wrong(t, most+"@func", api.ErrLimit)
	wrong(t, most+"var a\n@func 1", api.ErrLimit)
	wrong(t, most+"@x", api.ErrForm)
	wrong(t, numbered(api.MaxFuncs-1, "func f", "() {}\n")+"func g() {@", api.ErrForm)
}

// 8.1: globals and functions are counted each on their own.
func TestParseOfManyOfBoth(t *testing.T) {
	fits(t, numbered(api.MaxGlobals, "var a", "\n")+numbered(api.MaxFuncs, "func f", "() {}\n"))
	s := ""
	for k := range api.MaxGlobals {
		s += "var a" + strconv.Itoa(k) + ";func f" + strconv.Itoa(k) + "() {};"
	}
	fits(t, s)
}

// 8.1: as many cases as a select may have, and one more; those of each select are counted on their own.
func TestParseOfManyCases(t *testing.T) {
	for _, kind := range []string{"default:\n", "case <-x:\n", "case y := <-x: break\n", "case x <- 1: break;"} {
		most := "select {\n" + strings.Repeat(kind, api.MaxCases)
		fits(t, inMain(most+"}"))
		fits(t, inMain(most+"}\n"+most+"}"))
		wrong(t, inMain(most+"@default:\n}"), api.ErrLimit)
		wrong(t, inMain(most+"@case x <- 1:\n}"), api.ErrLimit)
		wrong(t, inMain(most+"@case"), api.ErrLimit)
		wrong(t, inMain(most+"@default 1"), api.ErrLimit)
		wrong(t, inMain(most+"@case case: }"), api.ErrLimit)
		fits(t, inMain("select {\n"+kind[:strings.Index(kind, ":\n")+1]+"default: "+most+"}\n"+strings.Repeat(kind, api.MaxCases-2)+"}"))
	}
	wrong(t, inMain("select {\n"+strings.Repeat("default:\n", api.MaxCases)+"@;}"), api.ErrForm)
	wrong(t, inMain("select {\n"+strings.Repeat("default:\n", api.MaxCases)+"if x { @case y: }"), api.ErrForm)
	wrong(t, inMain("select {\n"+strings.Repeat("default:\n", api.MaxCases-1)+"default: select {"+strings.Repeat("default:\n", api.MaxCases)+"@default: } }"), api.ErrLimit)
}

// nested is statements of this form about others, so many deep; the last one's { is marked.
func nested(n int, ahead, behind string) string {
	return strings.Repeat(ahead+"{\n", n-1) + ahead + "@{\n" + strings.Repeat("\n}"+behind, n)
}

// 8.1: a function's block, and so many in it, make MaxDepth; the { of one more is told.
func TestParseOfDeepBlocks(t *testing.T) {
	for _, form := range [][2]string{{"if x ", "\n"}, {"for x ", ""}, {"if x {} else ", ""}, {"if x ", " else { }"}} {
		fits(t, inMain(strings.Replace(nested(api.MaxDepth-1, form[0], form[1]), "@", "", 1)))
		wrongOf(t, nested(api.MaxDepth, form[0], form[1]), form[0])
		wrongOf(t, nested(api.MaxDepth+3, form[0], form[1]), form[0])
	}
	inner := strings.Repeat("select {\ndefault:\n", api.MaxDepth-1)
	fits(t, inMain(inner+strings.Repeat("}\n", api.MaxDepth-1)))
	for _, last := range []string{"select @{}", "select @{", "if x @{}", "for x @{", "if x @{ 1 }"} {
		wrong(t, inMain(inner+last), api.ErrLimit)
	}
	for _, last := range []string{"select @x {}", "if @{}", "for x @\n{", "@{", "break @{"} {
		wrong(t, inMain(inner+last), api.ErrForm)
	}
}

// wrongOf asks for ErrLimit at the { behind as many others as there may be.
func wrongOf(t *testing.T, deep, ahead string) {
	t.Helper()
	text := inMain(strings.Replace(deep, "@", "", 1))
	// What stands ahead of a { may have one of its own, which is shut again.
	depth, place := 0, -1
	for k := range len(text) {
		if text[k] == '}' {
			depth--
		}
		if text[k] == '{' {
			if depth == api.MaxDepth {
				place = k
				break
			}
			depth++
		}
	}
	if place < 0 {
		t.Fatalf("%q isn't deep", text)
	}
	wrongAt(t, text, api.ErrLimit, place)
}

// 8.1: what stands beside is not counted with it.
func TestParseOfManyBlocks(t *testing.T) {
	fits(t, inMain(strings.Repeat("if x {\n} else {\n}\nfor x {\n}\nselect {\n}\n", 30)))
	fits(t, inMain(strings.Repeat("if x {\n", api.MaxDepth-1)+"break"+strings.Repeat("\n} else {\n}", api.MaxDepth-1)))
	fits(t, strings.Repeat("func f() {\n"+strings.Repeat("for x {\n", api.MaxDepth-1)+strings.Repeat("}\n", api.MaxDepth), api.MaxFuncs))
}

// places are those in which an EXPR stands, what is ahead of it, and behind it, and in how much it lies from the beginning.
var places = []struct {
	ahead, behind string
	from          int
}{
	{"x := ", "", 0}, {"x = ", "", 0}, {"x <- ", "", 0}, {"print ", "", 0}, {"sleep ", "", 0}, {"return ", "", 0},
	{"if ", " {}", 0}, {"for ", " {}", 0}, {"select { case x <- ", ": }", 0},
	{"close(", ")", 1}, {"go f(", ")", 1}, {"go f(x, ", ")", 1}, {"go f(", ", x)", 1},
	{"print 1 + ", "", 0}, {"print ", " * 2 + 1", 0}, {"print x || ", "", 0}, {"f(", ")", 1}, {"f(x, ", ")", 1}, {"<-f(", ")", 2},
	// These are a ONE.
	{"", " <- 1", 0}, {"select { case ", " <- 1: }", 0}, {"select { case x := <-", ": }", 0}, {"select { case <-", ": }", 1}, {"<-", "", 1},
}

// deeper are the forms that count, and in which there is an EXPR, or a ONE, again.
var deeper = [][2]string{
	{"-", ""}, {"^", ""}, {"!", ""}, {"<-", ""}, {"(", ")"}, {"f(", ")"}, {"f(x, ", ")"}, {"f(", ", x)"}, {"make(", ")"}, {"len(", ")"}, {"(1 + ", ")"}, {"(", " * 2)"},
}

// 8.1: a ONE lies in MaxDepth ops of one and brackets, and in no more, in each place, and counted anew in each.
func TestParseOfDeepExpressions(t *testing.T) {
	for _, place := range places {
		for _, form := range deeper {
			n := api.MaxDepth - place.from
			most := strings.Repeat(form[0], n) + "x" + strings.Repeat(form[1], n)
			fits(t, inMain(place.ahead+most+place.behind))
			// The same stands beside: it is counted anew.
			fits(t, inMain(place.ahead+most+place.behind+"\n"+place.ahead+most+place.behind))
			deep := strings.Repeat(form[0], n+1)
			if !strings.ContainsAny(form[0], "x1") {
				wrong(t, inMain(place.ahead+deep+"@x"+strings.Repeat(form[1], n+1)+place.behind), api.ErrLimit)
				wrong(t, inMain(place.ahead+deep+"@"), api.ErrLimit)
				wrong(t, inMain(place.ahead+deep+"@-x"), api.ErrLimit)
				wrong(t, inMain(place.ahead+deep+"@* 2"), api.ErrLimit)
				wrong(t, inMain(place.ahead+deep+"@;"), api.ErrLimit)
				wrong(t, inMain(place.ahead+deep+"@("), api.ErrLimit)
				wrong(t, "func f() { "+place.ahead+deep+"@", api.ErrLimit)
			} else {
				// A number or a name that stands ahead lies as deep: it is told.
				at := len(strings.TrimRight(form[0], " +,x1"))
				wrong(t, inMain(place.ahead+deep[:n*len(form[0])+at]+"@"+form[0][at:]+"x"+strings.Repeat(form[1], n+1)+place.behind), api.ErrLimit)
			}
		}
	}
}

// 8.1: brackets of a call in which nothing stands have no ONE in them, and what lies behind a comma has.
func TestParseOfDeepCalls(t *testing.T) {
	deep := strings.Repeat("-", api.MaxDepth)
	fits(t, inMain("print "+deep+"f()"))
	wrong(t, inMain("print "+deep+"f(@x)"), api.ErrLimit)
	wrong(t, inMain("print "+deep+"f(@,)"), api.ErrLimit)
	wrong(t, inMain("print "+deep+"make(@)"), api.ErrLimit)
	wrong(t, inMain("print "+deep+"len(@)"), api.ErrLimit)
	wrong(t, inMain("print "+deep+"(@)"), api.ErrLimit)
	wrong(t, inMain("print "+deep+"make @x"), api.ErrForm)
	wrong(t, inMain("print "+deep+"@)"), api.ErrForm)
	wrong(t, inMain("print "+deep+"@"), api.ErrForm)
	deep = deep[1:]
	fits(t, inMain("print "+deep+"f(x, x, x)"))
	wrong(t, inMain("print "+deep+"f(x,@)"), api.ErrForm)
	fits(t, inMain("print "+deep+"f(x, f(), x)"))
	wrong(t, inMain("print "+deep+"f(x, f(@x))"), api.ErrLimit)
	wrong(t, inMain("print "+deep+"f(f(), -@x)"), api.ErrLimit)
}

// 8.1: ops of two, and arguments side by side, are not counted.
func TestParseOfLongExpressions(t *testing.T) {
	fits(t, inMain("print 1"+strings.Repeat(" + 1", 900)))
	fits(t, inMain("print f("+strings.Repeat("x, ", 900)+"x)"))
	fits(t, inMain("print "+strings.Repeat("(x) + -x && !<-x < ", 100)+"x"))
	long := strings.Repeat("-", api.MaxDepth) + "x"
	fits(t, inMain("print f("+strings.Repeat(long[1:]+", ", 30)+long[1:]+")"))
	fits(t, inMain("print "+strings.Repeat(long+" + ", 30)+long))
}

// 8.1: Print's text of the deepest tree there may be is read again.
func TestParseOfTheDeepestPrint(t *testing.T) {
	deep := strings.Repeat("(1 + ", api.MaxDepth) + "x" + strings.Repeat(")", api.MaxDepth)
	text := strings.Repeat("for x {\n", api.MaxDepth-1) + "print " + deep + "\nclose(" + deep[5:len(deep)-1] + ")" + strings.Repeat("\n}", api.MaxDepth-1)
	printed := tree.Print(parsed(t, inMain(text)))
	if again := tree.Print(parsed(t, printed)); again != printed {
		t.Errorf("%s is printed as %s", printed, again)
	}
}
