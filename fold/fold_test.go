package fold_test

import (
	"reflect"
	"strings"
	"testing"

	"sluiceway/api"
	"sluiceway/fold"
	"sluiceway/tree"
)

// inMain are statements of main, as they are printed.
func inMain(stmts string) string {
	lines := "func main() {\n"
	for line := range strings.Lines(strings.TrimPrefix(stmts, "\n")) {
		lines += "  " + line
	}
	return lines + "}\n"
}

// becomes asks for what statements of main are folded to, line by line.
func becomes(t *testing.T, stmts, want string) {
	t.Helper()
	src := parsed(t, "func main() {"+stmts+"\n}\n")
	if got := tree.Print(fold.Fold(src)); got != inMain(want) {
		t.Errorf("%s is folded to %s want %s", stmts, got, inMain(want))
	}
}

// 10.1: expressions are folded wherever they are.
func TestFoldOfStatements(t *testing.T) {
	for _, stmts := range []string{
		"x := @", "x = @", "c <- @", "print @", "sleep @", "return @", "close(@)", "f(@)", "go f(@)", "go f(x, @)", "<-make(@)", "make(@) <- x",
		"if @ {\n}", "for @ {\n}",
		"if x {\n  print @\n}", "if x {\n} else {\n  print @\n}", "for x {\n  print @\n}",
		"select {\ncase c <- @:\n}", "select {\ncase make(@) <- x:\n}", "select {\ncase <-make(@):\n}", "select {\ncase v := <-make(@):\n}",
		"select {\ncase <-c:\n  print @\n}", "select {\ncase v := <-c:\n  print @\n}", "select {\ncase c <- x:\n  print @\n}", "select {\ndefault:\n  print @\n}",
		"if x {\n  for y {\n    select {\n    default:\n      print @\n    }\n  }\n}",
	} {
		becomes(t, strings.ReplaceAll(stmts, "@", "2 * 3 + 1"), strings.ReplaceAll(stmts, "@", "7")+"\n")
		becomes(t, strings.ReplaceAll(stmts, "@", "0 + y"), strings.ReplaceAll(stmts, "@", "y")+"\n")
	}
}

// 10.1: all but expressions stays as it was.
func TestFoldOfWhatIsNotKnown(t *testing.T) {
	for _, text := range []string{
		"",
		"var g\n",
		"func main() {\n}\n",
		"var g\nvar h\nfunc main() {\n  x := 1\n  x = -2\n  g = x\n}\nfunc f(a int, b bool, c chan) int {\n  return a\n}\nfunc p() chan {\n  return nil\n}\nfunc q() bool {\n  return true\n}\n",
		inMain("return\n"),
		inMain("for x {\n  break\n  continue\n}\n"),
		inMain("go f(x)\nf(x)\n<-c\nclose(c)\nc <- x\n"),
		inMain("select {\n}\n"),
		inMain("select {\ncase v := <-c:\n  print v\ncase <-c:\ncase c <- x:\n  print x\ndefault:\n  print 1\n}\n"),
		inMain("if x {\n}\n"),
		inMain("if x {\n  print 1\n} else {\n  print 2\n}\n"),
		inMain("if x {\n} else {\n  print 2\n}\n"),
		inMain("for true {\n}\n"),
		inMain("print 1 / 0\n"),
	} {
		src := parsed(t, text)
		if got := fold.Fold(src); tree.Print(got) != text || !reflect.DeepEqual(got, src) {
			t.Errorf("%q is folded to %q, or its places are others", text, tree.Print(got))
		}
	}
}

// 10.2: a For that is never done is left out; one that is always done isn't.
func TestFoldOfFor(t *testing.T) {
	for _, never := range []string{"false", "!true", "1 > 2", "false && f()", "1 == 1 && 2 < 1"} {
		becomes(t, "print 1; for "+never+" { print 2; break }; print 3", "print 1\nprint 3\n")
		becomes(t, "for "+never+" {}", "")
	}
	becomes(t, "for true {}", "for true {\n}\n")
	becomes(t, "for 1 < 2 { print 1 + 1 }", "for true {\n  print 2\n}\n")
	becomes(t, "for x { for false { print 1 } }", "for x {\n}\n")
	becomes(t, "for f() && false { print 1 }", "for f() && false {\n  print 1\n}\n")
	becomes(t, "for 0 { print 1 }", "for 0 {\n  print 1\n}\n")
	becomes(t, "for nil { print 1 }", "for nil {\n  print 1\n}\n")
	becomes(t, "for false { for true {} }; for false {}", "")
}

// 10.2: an If of which it is known which block is done is left out, if that has no statement, and else the other one's are.
func TestFoldOfIf(t *testing.T) {
	becomes(t, "if true {}", "")
	becomes(t, "if true {} else {}", "")
	becomes(t, "if true {} else { print 2 }", "")
	becomes(t, "if true { print 1 }", "if true {\n  print 1\n}\n")
	becomes(t, "if true { print 1 } else { print 2 }", "if true {\n  print 1\n}\n")
	becomes(t, "if false {}", "")
	becomes(t, "if false {} else {}", "")
	becomes(t, "if false { print 1 }", "")
	becomes(t, "if false { print 1 } else {}", "")
	becomes(t, "if false {} else { print 2 }", "if false {\n} else {\n  print 2\n}\n")
	becomes(t, "if false { print 1 } else { print 2 }", "if false {\n} else {\n  print 2\n}\n")
	becomes(t, "if 1 < 2 { print 1 + 1 } else { print 2 }", "if true {\n  print 2\n}\n")
	becomes(t, "if !true { print 1 } else { print 1 + 2 }", "if false {\n} else {\n  print 3\n}\n")
	becomes(t, "if x {} else {}", "if x {\n}\n")
	becomes(t, "if x && false { print 1 } else { print 2 }", "if x && false {\n  print 1\n} else {\n  print 2\n}\n")
	becomes(t, "if x || true {}", "if x || true {\n}\n")
	becomes(t, "if f() {}", "if f() {\n}\n")
	becomes(t, "if 1 {}", "if 1 {\n}\n")
	becomes(t, "if 0 {} else { print 1 }", "if 0 {\n} else {\n  print 1\n}\n")
}

// 10.2: a block has no statement, too, if all of its statements are left out.
func TestFoldOfBlocksBehindTheirParts(t *testing.T) {
	becomes(t, "if true { for false { print 1 } }", "")
	becomes(t, "if true { if false { print 1 } } else { print 2 }", "")
	becomes(t, "if false { print 1 } else { if true {}; for 1 > 2 {} }", "")
	becomes(t, "if true { if true { if true { for false {} } } }", "")
	becomes(t, "if true { if true { if true { print 1; for false {} } } }", "if true {\n  if true {\n    if true {\n      print 1\n    }\n  }\n}\n")
	becomes(t, "if x { if true {} } else { for false {} }", "if x {\n}\n")
	becomes(t, "for true { if true {} }", "for true {\n}\n")
	becomes(t, "select { case <-c: if false { print 1 }\ndefault: for false {} }", "select {\ncase <-c:\ndefault:\n}\n")
	becomes(t, "print 1; if true {}; print 2; for false {}; if false {}; print 3", "print 1\nprint 2\nprint 3\n")
	becomes(t, "if true { select {} }", "if true {\n  select {\n  }\n}\n")
	becomes(t, "if true { x := 1 }", "if true {\n  x := 1\n}\n")
}

// 10.1, 10.2: just Ifs and Fors are left out, whatever their Value.
func TestFoldLeavesOutNothingElse(t *testing.T) {
	for _, stmt := range []string{"x := false", "x = false", "c <- false", "print false", "sleep true", "close(false)", "return true", "return false"} {
		becomes(t, stmt, stmt+"\n")
	}
}

// 10.1, 10.2: what is left keeps its place, of statements, cases, functions, parameters and globals, too.
func TestFoldKeepsPlaces(t *testing.T) {
	text := "var g; func main() { if false {}; for x { if true { print 1 } else { print 2 } } select { case v := <-c: print v; case c <- 1: for false {}\ndefault: } }; func f(a int, b bool) int { for false {} return 0 }"
	text = strings.Replace(text, "} } select", "} }; select", 1)
	text = strings.Replace(text, "{} return", "{}; return", 1)
	src, want := parsed(t, text), parsed(t, text)
	body := want.Funcs[0].Body[1:]
	body[0].Then[0].Else = nil
	body[1].Cases[1].Body = nil
	want.Funcs[0].Body = body
	want.Funcs[1].Body = want.Funcs[1].Body[1:]
	if got := fold.Fold(src); !reflect.DeepEqual(got, want) {
		t.Errorf("%q is folded to %q, or its places are others", text, tree.Print(got))
	}
}

// P4: lists that are handed in aren't written into, nor what stands behind their lengths, and those that come out are others.
func TestFoldWritesNothing(t *testing.T) {
	text := "var g; var h; func main() { if false { print 1 }; print 1 + 1; for x { for false {}; print 2 - 3 } }; func f(a int, b int) { select { case <-c: if true {}; print 0 + f(1 * a, 2 + 2); default: }; f(1, 2) }"
	src, same := parsed(t, text), parsed(t, text)
	short := func(src api.Source) api.Source {
		src.Globals, src.Funcs = src.Globals[:1], src.Funcs[:1]
		src.Funcs[0].Body = src.Funcs[0].Body[:2]
		return src
	}
	first := fold.Fold(src)
	for range 3 {
		if got := fold.Fold(src); !reflect.DeepEqual(got, first) || !reflect.DeepEqual(src, same) {
			t.Fatalf("%q is folded to %q, and then to %q", text, tree.Print(first), tree.Print(got))
		}
	}
	whole := src.Funcs[0].Body
	got := fold.Fold(short(src))
	if want := fold.Fold(parsed(t, "var g; func main() { if false { print 1 }; print 1 + 1 }")); tree.Print(got) != tree.Print(want) {
		t.Errorf("the beginning of %q is folded to %q", text, tree.Print(got))
	}
	got.Globals = append(got.Globals, api.Global{Name: "other"})
	got.Globals[0].Name, got.Funcs[0].Name = "other", "other"
	got.Funcs[0].Body = append(got.Funcs[0].Body, api.Stmt{}, api.Stmt{})
	got.Funcs[0].Body[0].Code = api.Break
	src.Funcs[0].Body = whole
	if !reflect.DeepEqual(src, same) {
		t.Errorf("%q was written into", text)
	}
}

// P1, Limits: parts may lie deep in one another.
func TestFoldOfDeepTrees(t *testing.T) {
	deep := 1<<16 - 10
	x, y := num(1, 0), name("x", 0)
	for k := range deep {
		x = un(api.Neg, k, x)
		y = bin(api.Add, k, num(0, 0), bin(api.Mul, k, y, num(1, 0)))
	}
	stmts := []api.Stmt{{Code: api.Print, Value: x}, {Code: api.Print, Value: y}}
	got := fold.Fold(api.Source{Funcs: []api.Func{{Name: "main", Body: stmts}}})
	if text := tree.Print(got); text != inMain("print 1\nprint x\n") {
		t.Errorf("it is folded to %.99q", text)
	}
	stmts = []api.Stmt{{Code: api.For, Value: truth(0, 0), Then: stmts}}
	for k := range deep {
		inner := stmts
		stmts = []api.Stmt{{Code: api.If, Value: truth(1, 0), Then: inner}}
		if k%2 == 0 {
			stmts = []api.Stmt{{Code: api.If, Value: truth(0, 0), Else: inner}}
		}
	}
	got = fold.Fold(api.Source{Funcs: []api.Func{{Name: "main", Body: stmts}}})
	if len(got.Funcs) != 1 || len(got.Funcs[0].Body) != 0 {
		t.Errorf("it is folded to %.99q", tree.Print(got))
	}
}
