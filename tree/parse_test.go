package tree_test

import (
	"math"
	"reflect"
	"slices"
	"strconv"
	"strings"
	"testing"

	"sluiceway/api"
	"sluiceway/lex"
	"sluiceway/plain"
	"sluiceway/tree"
)

// parsed is a text's tree, which it must have.
func parsed(t *testing.T, text string) api.Source {
	t.Helper()
	src, err := tree.Parse(text)
	if err != nil {
		e, place := plain.Place(err)
		t.Fatalf("Parse(%q): %d at %d", text, e, place)
	}
	return src
}

// wrong asks for a text's error; its place is that of the first token behind the @ in it, which is left out.
func wrong(t *testing.T, marked string, want api.Errno) {
	t.Helper()
	mark := strings.Index(marked, "@")
	if mark < 0 || strings.Count(marked, "@") > 1 {
		t.Fatalf("%q tells no place", marked)
	}
	text := marked[:mark] + marked[mark+1:]
	tokens, err := lex.Lex(text)
	if err != nil {
		t.Fatalf("Lex(%q): %v", text, err)
	}
	place := len(text)
	for _, token := range slices.Backward(tokens) {
		if token.At >= mark {
			place = token.At
		}
	}
	wrongAt(t, text, want, place)
}

// wrongAt asks for a text's error, its place (-1: it has none), and no tree.
func wrongAt(t *testing.T, text string, want api.Errno, place int) {
	t.Helper()
	src, err := tree.Parse(text)
	if e, at := plain.Place(err); e != want || at != place {
		t.Errorf("Parse(%q): %d at %d; want %d at %d", text, e, at, want, place)
	}
	if len(src.Globals) > 0 || len(src.Funcs) > 0 {
		t.Errorf("Parse(%q) tells a tree, too: %v", text, src)
	}
}

// inMain is statements in a function.
func inMain(stmts string) string {
	return "func main() {\n" + stmts + "\n}\n"
}

// body is the statements that stand in a function.
func body(t *testing.T, stmts string) []api.Stmt {
	t.Helper()
	src := parsed(t, inMain(stmts))
	if len(src.Funcs) != 1 || len(src.Globals) != 0 {
		t.Fatalf("%q: %v", stmts, src)
	}
	return src.Funcs[0].Body
}

// value is an expression's tree, without places.
func value(t *testing.T, text string) *api.Expr {
	t.Helper()
	l := body(t, "print "+text)
	if len(l) != 1 || l[0].Code != api.Print {
		t.Fatalf("%q: %v", text, l)
	}
	return bareExpr(l[0].Value)
}

// bareExpr is an expression without places.
func bareExpr(x *api.Expr) *api.Expr {
	if x == nil {
		return nil
	}
	y := *x
	y.At, y.Left, y.Right, y.Args = 0, bareExpr(x.Left), bareExpr(x.Right), nil
	for _, arg := range x.Args {
		y.Args = append(y.Args, bareExpr(arg))
	}
	return &y
}

// bareStmts are statements without places.
func bareStmts(l []api.Stmt) []api.Stmt {
	var out []api.Stmt
	for _, s := range l {
		s.At, s.To, s.Value = 0, bareExpr(s.To), bareExpr(s.Value)
		s.Then, s.Else = bareStmts(s.Then), bareStmts(s.Else)
		var cases []api.Case
		for _, c := range s.Cases {
			c.At, c.To, c.Value, c.Body = 0, bareExpr(c.To), bareExpr(c.Value), bareStmts(c.Body)
			cases = append(cases, c)
		}
		s.Cases = cases
		out = append(out, s)
	}
	return out
}

// bare is a program without places.
func bare(src api.Source) api.Source {
	var out api.Source
	for _, g := range src.Globals {
		out.Globals = append(out.Globals, api.Global{Name: g.Name})
	}
	for _, f := range src.Funcs {
		var params []api.Param
		for _, p := range f.Params {
			params = append(params, api.Param{Name: p.Name, Kind: p.Kind})
		}
		out.Funcs = append(out.Funcs, api.Func{Name: f.Name, Params: params, Kind: f.Kind, Body: bareStmts(f.Body)})
	}
	return out
}

// shown is an expression as codes, to be read where a test fails.
func shown(x *api.Expr) string {
	if x == nil {
		return "-"
	}
	s := strconv.Itoa(x.Code) + "@" + strconv.Itoa(x.At) + "{" + x.Name + " " + strconv.Itoa(x.N) + " " + strconv.Itoa(x.Op) + " " + shown(x.Left) + " " + shown(x.Right)
	for _, arg := range x.Args {
		s += ", " + shown(arg)
	}
	return s + "}"
}

func num(n int) *api.Expr              { return &api.Expr{Code: api.Num, N: n} }
func name(s string) *api.Expr          { return &api.Expr{Code: api.Name, Name: s} }
func un(op int, x *api.Expr) *api.Expr { return &api.Expr{Code: api.Un, Op: op, Left: x} }
func recv(x *api.Expr) *api.Expr       { return &api.Expr{Code: api.Recv, Left: x} }
func bin(op int, x, y *api.Expr) *api.Expr {
	return &api.Expr{Code: api.Bin, Op: op, Left: x, Right: y}
}
func call(s string, l ...*api.Expr) *api.Expr { return &api.Expr{Code: api.Call, Name: s, Args: l} }

// allOps are the ops of two, as they are written, by their levels.
var allOps = [][]struct {
	text string
	op   int
}{
	{{"||", api.OrOr}},
	{{"&&", api.AndAnd}},
	{{"<", api.Lt}, {"<=", api.Le}, {">", api.Gt}, {">=", api.Ge}, {"==", api.Eq}, {"!=", api.Ne}},
	{{"+", api.Add}, {"-", api.Sub}, {"|", api.Or}, {"^", api.Xor}},
	{{"*", api.Mul}, {"/", api.Div}, {"%", api.Rem}, {"<<", api.Shl}, {">>", api.Shr}, {"&", api.And}},
}

// 8.1: Lex's errors come ahead of all that is wrong with tokens.
func TestParseTellsLexsErrors(t *testing.T) {
	for text, want := range map[string]api.Errno{
		"?":                          api.ErrForm,
		"func func ?":                api.ErrForm,
		"} 01":                       api.ErrForm,
		"func main() { x 12a }":      api.ErrForm,
		"var var abcdefghijklm":      api.ErrLimit,
		"} 9223372036854775808":      api.ErrRange,
		"func main() {\nx := 1.5\n}": api.ErrForm,
	} {
		_, err := lex.Lex(text)
		e, place := plain.Place(err)
		if e != want || place < 0 {
			t.Fatalf("Lex(%q): %v", text, err)
		}
		wrongAt(t, text, want, place)
	}
	wrongAt(t, strings.Repeat(" ", api.MaxText+1), api.ErrLimit, -1)
	wrongAt(t, strings.Repeat("}", api.MaxText+1), api.ErrLimit, -1)
	wrongAt(t, strings.Repeat("}", api.MaxText), api.ErrForm, 0)
}

// 8.1: a program of nothing, and of blanks, has nothing in it.
func TestParseOfNothing(t *testing.T) {
	for _, text := range []string{"", "\n", " \n\t\n", "// x", "// var a\n"} {
		if src := parsed(t, text); len(src.Globals) > 0 || len(src.Funcs) > 0 {
			t.Errorf("Parse(%q) = %v", text, src)
		}
	}
}

// 8.1, 8.2: a whole program, each place of it.
func TestParseOfAProgram(t *testing.T) {
	text := "var gg\nfunc main() {\n\tc := make(1)\n\tgo f(2, c)\n\tgg = <-c\n}\nvar h; func f(a int, b chan) bool { return a<3 }\n"
	want := api.Source{
		Globals: []api.Global{{Name: "gg", At: 4}, {Name: "h", At: 63}},
		Funcs: []api.Func{
			{Name: "main", At: 12, Body: []api.Stmt{
				{Code: api.Let, At: 22, Name: "c", Value: &api.Expr{Code: api.Make, At: 27, Left: &api.Expr{Code: api.Num, At: 32, N: 1}}},
				{Code: api.Go, At: 36, Value: &api.Expr{Code: api.Call, At: 39, Name: "f", Args: []*api.Expr{{Code: api.Num, At: 41, N: 2}, {Code: api.Name, At: 44, Name: "c"}}}},
				{Code: api.Set, At: 48, Name: "gg", Value: &api.Expr{Code: api.Recv, At: 53, Left: &api.Expr{Code: api.Name, At: 55, Name: "c"}}},
			}},
			{Name: "f", At: 71, Kind: api.Bool, Params: []api.Param{{Name: "a", Kind: api.Int, At: 73}, {Name: "b", Kind: api.Chan, At: 80}}, Body: []api.Stmt{
				{Code: api.Return, At: 95, Value: &api.Expr{Code: api.Bin, At: 103, Op: api.Lt, Left: &api.Expr{Code: api.Name, At: 102, Name: "a"}, Right: &api.Expr{Code: api.Num, At: 104, N: 3}}},
			}},
		},
	}
	if got := parsed(t, text); !reflect.DeepEqual(got, want) {
		t.Errorf("Parse(%q) = %+v; want %+v", text, got, want)
	}
}

// 8.1, 8.2: a function's kind, and its parameters' kinds.
func TestParseOfKinds(t *testing.T) {
	for text, want := range map[string]int{"": api.None, "int ": api.Int, "bool ": api.Bool, "chan ": api.Chan} {
		if f := parsed(t, "func f() "+text+"{ }").Funcs[0]; f.Kind != want || len(f.Params) != 0 || len(f.Body) != 0 {
			t.Errorf("of kind %q: %+v", text, f)
		}
		if text != "" {
			p := parsed(t, "func f(x "+text+", y "+text+") {}").Funcs[0].Params
			if !reflect.DeepEqual(p, []api.Param{{Name: "x", Kind: want, At: 7}, {Name: "y", Kind: want, At: 11 + len(text)}}) {
				t.Errorf("parameters of kind %q: %+v", text, p)
			}
		}
	}
	for _, text := range []string{
		"func f(a @) {}", "func f(a @, b int) {}", "func f(@int) {}", "func f(a int @b int) {}", "func f(a int, @) {}", "func f(@, a int) {}", "func f(a @b) {}", "func f(a int@\n) {}",
		"func f() @x {}", "func f() @nil {}", "func f() int @bool {}", "func f() @\n", "func f() int@\n",
		"func f@{}", "func f(@", "func f(a@", "func f(a int@", "func f(a int,@", "func f(@(", "func f() int@",
	} {
		wrong(t, text, api.ErrForm)
	}
}

// 8.1: what stands in a program beside blocks.
func TestParseOfWrongPrograms(t *testing.T) {
	for _, text := range []string{
		"@x", "@1", "@;", "@}", "@int", "@print 1", "@{}", "var a\n@;", "var a;@;", "var a\n@a = 1",
		"var @", "var @\n", "var @1", "var @func", "var @var a", "var a @b", "var a @= 1", "var a @var b", "var a@, b", "var a @func f() {}", "var @(a)",
		"func @", "func @(", "func main@\n", "func @1() {}", "func @print() {}", "func f() {} @func g() {}", "func f() {};@;", "func f() {} @1", "func f() {}\n@}",
		"func f() {@", "func f() {\n@", "func f() { @func g() {} }", "func f() { @var a }", "func f() { break;@", "func f() { break@)",
	} {
		wrong(t, text, api.ErrForm)
	}
}

// 8.2: each statement, its fields, and nothing in the others.
func TestParseOfStatements(t *testing.T) {
	x, y := name("x"), num(1)
	then := []api.Stmt{{Code: api.Print, Value: num(2)}}
	other := []api.Stmt{{Code: api.Break}}
	for text, want := range map[string]api.Stmt{
		"x := 1":                          {Code: api.Let, Name: "x", Value: y},
		"x = 1":                           {Code: api.Set, Name: "x", Value: y},
		"x <- 1":                          {Code: api.Send, To: x, Value: y},
		"(x) <- (1)":                      {Code: api.Send, To: x, Value: y},
		"f(1) <- 1":                       {Code: api.Send, To: call("f", y), Value: y},
		"<-x <- 1":                        {Code: api.Send, To: recv(x), Value: y},
		"(<-x) <- 1":                      {Code: api.Send, To: recv(x), Value: y},
		"-x <- 1":                         {Code: api.Send, To: un(api.Neg, x), Value: y},
		"(x + 1) <- 1":                    {Code: api.Send, To: bin(api.Add, x, y), Value: y},
		"nil <- 1":                        {Code: api.Send, To: &api.Expr{Code: api.Nil}, Value: y},
		"make(1) <- 1":                    {Code: api.Send, To: &api.Expr{Code: api.Make, Left: y}, Value: y},
		"1 <- x":                          {Code: api.Send, To: y, Value: x},
		"x <- <-x":                        {Code: api.Send, To: x, Value: recv(x)},
		"x <- 1 || x":                     {Code: api.Send, To: x, Value: bin(api.OrOr, y, x)},
		"close(x)":                        {Code: api.Close, Value: x},
		"close(x + 1)":                    {Code: api.Close, Value: bin(api.Add, x, y)},
		"print 1":                         {Code: api.Print, Value: y},
		"print x || 1":                    {Code: api.Print, Value: bin(api.OrOr, x, y)},
		"sleep 1":                         {Code: api.Sleep, Value: y},
		"go f()":                          {Code: api.Go, Value: call("f")},
		"go f(x, 1)":                      {Code: api.Go, Value: call("f", x, y)},
		"return":                          {Code: api.Return},
		"return;":                         {Code: api.Return},
		"return 1":                        {Code: api.Return, Value: y},
		"return <-x":                      {Code: api.Return, Value: recv(x)},
		"break":                           {Code: api.Break},
		"continue":                        {Code: api.Continue},
		"f()":                             {Code: api.Do, Value: call("f")},
		"(f(x))":                          {Code: api.Do, Value: call("f", x)},
		"((f(x)))":                        {Code: api.Do, Value: call("f", x)},
		"<-x":                             {Code: api.Do, Value: recv(x)},
		"(<-x)":                           {Code: api.Do, Value: recv(x)},
		"<-(x)":                           {Code: api.Do, Value: recv(x)},
		"<-(<-x)":                         {Code: api.Do, Value: recv(recv(x))},
		"<--x":                            {Code: api.Do, Value: recv(un(api.Neg, x))},
		"if x {}":                         {Code: api.If, Value: x},
		"if x {} else {}":                 {Code: api.If, Value: x},
		"if x { print 2 } else { break }": {Code: api.If, Value: x, Then: then, Else: other},
		"if x { print 2; } else {\n}":     {Code: api.If, Value: x, Then: then},
		"if x {} else { break\n}":         {Code: api.If, Value: x, Else: other},
		"for x {}":                        {Code: api.For, Value: x},
		"for x || 1 {\nprint 2\n}":        {Code: api.For, Value: bin(api.OrOr, x, y), Then: then},
		"select {}":                       {Code: api.Select},
		"select {\n}":                     {Code: api.Select},
	} {
		got := bareStmts(body(t, text))
		if !reflect.DeepEqual(got, []api.Stmt{want}) {
			t.Errorf("%q: %+v; want %+v", text, got, want)
		}
		if at := body(t, "break; "+text)[1].At; at != len("func main() {\nbreak; ") {
			t.Errorf("%q: at %d", text, at)
		}
	}
}

// 8.2: each case of a select, its fields, and nothing in the others.
func TestParseOfCases(t *testing.T) {
	x, y := name("x"), num(1)
	for text, want := range map[string]api.Case{
		"default:":                   {Code: api.Else},
		"case x <- 1:":               {Code: api.Send, To: x, Value: y},
		"case (x) <- 1 + x:":         {Code: api.Send, To: x, Value: bin(api.Add, y, x)},
		"case f(x) <- 1:":            {Code: api.Send, To: call("f", x), Value: y},
		"case <-x <- 1:":             {Code: api.Send, To: recv(x), Value: y},
		"case (x + 1) <- 1:":         {Code: api.Send, To: bin(api.Add, x, y), Value: y},
		"case <-x:":                  {Code: api.Recv, To: x},
		"case (<-x):":                {Code: api.Recv, To: x},
		"case ((<-x)):":              {Code: api.Recv, To: x},
		"case <-(x):":                {Code: api.Recv, To: x},
		"case <-<-x:":                {Code: api.Recv, To: recv(x)},
		"case <-(x + 1):":            {Code: api.Recv, To: bin(api.Add, x, y)},
		"case <-nil:":                {Code: api.Recv, To: &api.Expr{Code: api.Nil}},
		"case z := <-x:":             {Code: api.Recv, Name: "z", To: x},
		"case z := <-f(1):":          {Code: api.Recv, Name: "z", To: call("f", y)},
		"case z := <-<-x:":           {Code: api.Recv, Name: "z", To: recv(x)},
		"case z := <-(x + 1):":       {Code: api.Recv, Name: "z", To: bin(api.Add, x, y)},
		"default: break":             {Code: api.Else, Body: []api.Stmt{{Code: api.Break}}},
		"case x <- 1: break; break;": {Code: api.Send, To: x, Value: y, Body: []api.Stmt{{Code: api.Break}, {Code: api.Break}}},
		"case <-x:\nbreak\n":         {Code: api.Recv, To: x, Body: []api.Stmt{{Code: api.Break}}},
		"case z := <-x:\nselect {\ndefault:\n}\n": {Code: api.Recv, Name: "z", To: x, Body: []api.Stmt{{Code: api.Select, Cases: []api.Case{{Code: api.Else}}}}},
	} {
		got := bareStmts(body(t, "select { "+text+" }"))
		if !reflect.DeepEqual(got, []api.Stmt{{Code: api.Select, Cases: []api.Case{want}}}) {
			t.Errorf("%q: %+v; want %+v", text, got, want)
		}
		l := body(t, "select { default: "+text+" }")[0].Cases
		if len(l) != 2 || l[0].At != len("func main() {\nselect { ") || l[1].At != len("func main() {\nselect { default: ") {
			t.Errorf("%q: %+v", text, l)
		}
	}
}

// 8.1: statements, in which a token may not stand where it does.
func TestParseOfWrongStatements(t *testing.T) {
	for _, text := range []string{
		// What is neither a call nor begins with <-, or isn't sent into.
		"x@", "x@;", "(x)@", "1@", "true@", "nil@", "-x@", "-f(x)@", "!f(x)@", "-<-x@", "(x + f(1))@", "(<-x + 1)@", "(-(<-x))@", "make(1)@", "len(x)@", "(make(1))@", "(f(x) + 0)@",
		"x @x", "x @+ 1", "x @)", "x @:", "x @{", "x @print", "x@, y = 1", "<-x @+ 1", "f(x) @+ 1", "f(x) @f(x)", "(f(x)) @!", "f(1)@(2)",
		"(x) @:= 1", "(x) @= 1", "f(x) @= 1", "<-x @= 1", "<-x @:= 1", "f() @:= 1", "1 @:= 1", "true @= 1",
		"x := @", "x := @;", "x = @", "x = @;", "x := @:= 1", "x := 1 @:= 1", "x = 1 @= 1", "x := y @= 1", "x := 1 @2", "x <- @", "x <- 1 @<- 1", "x <- y @<- 1", "x := y @<- 1",
		"close @x", "close(@)", "close(x@", "close(x@;)", "close(x@, x)", "close @", "close(x @:= 1)", "close(x) @<- 1",
		"print @", "print @;", "print @:= 1", "print 1@, 2", "sleep @", "sleep @;", "sleep 1 @1",
		"go @", "go @1", "go f@", "go f(@", "go f(x@;)", "go f(x,@)", "go @(f())", "go @<-x", "go f() @+ 1", "go f()@()", "go @make(1)", "go @close(x)", "go @go f()", "go f @:= 1",
		"return @)", "return @break", "return 1 @2", "return @return", "return @{}", "break @1", "break @break", "continue @x", "break@(x)",
		"if @{}", "if @", "if x@", "if x@;", "if x @print 1", "if x {};@else {}", "if x {} else @if x {}", "if x {} else @", "if x {} else @;", "if x {} @{}", "if x {} @print 1", "if x {} else {} @else {}", "if x @:= 1 {}", "if x @= 1 {}",
		"for @{}", "for @", "for x@", "for x@;x;x {}", "for x {} @else {}", "for @:= 1 {}", "for x @= 1 {}", "for x {} @for",
		"@else {}", "@;", "break;@;", "@{}", "@case x:", "@default:", "@func f() {}", "@var x", "@int", "@chan", "@)", "@:", "@=", "@:= 1", "@* x", "@, x", "@+ x",
	} {
		wrong(t, inMain(text), api.ErrForm)
	}
}

// 8.1: expressions, in which a token may not stand where it does.
func TestParseOfWrongExpressions(t *testing.T) {
	for _, text := range []string{
		"@", "@;", "@)", "@}", "@*", "@+ 1", "@* 1", "@, 1", "@: 1", "@= 1", "@== 1", "@int", "@print 1", "@close(x)", "@go f()", "@return", "@func",
		"f(@, 1)", "f(1 @2)", "f(1,@)", "f(1,@, 2)", "f(@*)", "f(@", "f(1@", "f(1@;)", "f(@;)", "(@)", "(@", "(1@", "(1@;)", "(1@, 2)", "((1)@",
		"make @1", "make(@)", "make(1@, 2)", "make(1@", "make@", "len @x", "len(@)", "len(x@, y)", "len@",
		"1 + @", "1 + @* 2", "1 * @/ 2", "1 < @> 2", "1 && @|| 2", "1 || @", "-@", "^@", "!@", "<-@", "- @)", "<- @)", "- @* 1", "! @== 1",
		"1 @(2)", "(x)@(1)", "f(1)@(2)", "true @(1)", "nil @nil", "true @false", "1 @! 2", "a @! b", "1 @: 2", "1 @= 2", "1@, 2", "1 @{}", "1 @)", "a @b", "1 @<- 2", "-x @<- 2", "x @:= 2",
	} {
		for _, ahead := range []string{"x := ", "x = ", "print ", "x <- ", "(x) <- ", "sleep "} {
			wrong(t, inMain(ahead+text), api.ErrForm)
		}
	}
}

// 8.1: selects, in which a token may not stand where it does.
func TestParseOfWrongSelects(t *testing.T) {
	for _, text := range []string{
		"select @x {}", "select@", "select@;", "select {@;}", "select { @x", "select { @break }", "select { @{} }", "select { @else: }", "select {} @else {}",
		"select { case@ }", "select { case @: }", "select { case @default: }", "select { case x @}", "select { case x@: }", "select { case (x)@: }", "select { case f(x)@: }", "select { case 1@: }", "select { case -<-x@: }", "select { case (<-x + 1)@: }", "select { case make(1)@: }", "select { case x@; }", "select { case x @+ 1: }", "select { case <-x @+ 1: }", "select { case <-x @}",
		"select { case x := @x: }", "select { case x := @1: }", "select { case x := @(<-x): }", "select { case x := @: }", "select { case x := <-@: }", "select { case x := <-y @+ 1: }", "select { case x := <-y @<- 1: }", "select { case x := <-y @}", "select { case x @= <-y: }", "select { case (x) @:= <-y: }", "select { case <-x @:= <-y: }", "select { case 1 @:= <-y: }",
		"select { case x <- @: }", "select { case x <- 1 @}", "select { case x <- 1@; }", "select { case x <- 1 @<- 2: }", "select { case x <- 1 @print 1 }",
		"select { default @}", "select { default@; }", "select { default @x: }", "select { default:@; }", "select { default: @: }", "select { default: x@ }", "select { default: print 1 @print 1 }", "select { default: print 1 @default: }", "select { default: print 1 @case x <- 1: }", "select { default: print 1;@; }", "select { default: if x { @default: } }", "select { default: print @default: }", "select { default: @else }", "select { default: @{} }",
		"select { case @print 1: }", "select { case @close(x): }", "select { case @break: }", "select { case x <- 1@, 2: }",
	} {
		wrong(t, inMain(text), api.ErrForm)
	}
}

// 8.1: a Line behind what ends no block, and nothing, or one, ahead of what ends it.
func TestParseOfEnds(t *testing.T) {
	stmts := []api.Stmt{{Code: api.Break}, {Code: api.Return}}
	for _, text := range []string{"break; return", "break\nreturn", "break\n\n // x\n return;", "break;return\n", "break;\nreturn;\n"} {
		if got := bareStmts(body(t, text)); !reflect.DeepEqual(got, stmts) {
			t.Errorf("%q: %+v", text, got)
		}
		parsed(t, "func f() {"+text+"}")
		parsed(t, "func f() {"+text+"};")
		parsed(t, "func f() { if x {"+text+"}}\nvar x")
		parsed(t, "func f() { for x {"+text+"}}")
		parsed(t, "func f() { select { case <-x:"+text+"}}")
	}
	wrong(t, "func f() { select {@", api.ErrForm)
	wrong(t, "func f() { if x {} @break }", api.ErrForm)
	wrong(t, "func f() { select { default: break @default: } }", api.ErrForm)
}

// 8.1, 8.2: each expression of one token, or of a few.
func TestParseOfExpressions(t *testing.T) {
	x, y := name("x"), num(1)
	for text, want := range map[string]*api.Expr{
		"0":                   num(0),
		"907":                 num(907),
		"9223372036854775807": num(math.MaxInt),
		"true":                {Code: api.True, N: 1},
		"false":               {Code: api.True},
		"nil":                 {Code: api.Nil},
		"x":                   x,
		"äö_1":                name("äö_1"),
		"f()":                 call("f"),
		"f(x)":                call("f", x),
		"f(x, 1, f())":        call("f", x, y, call("f")),
		"f((x), (1))":         call("f", x, y),
		"f(x + 1)":            call("f", bin(api.Add, x, y)),
		"make(1)":             {Code: api.Make, Left: y},
		"make(x || 1)":        {Code: api.Make, Left: bin(api.OrOr, x, y)},
		"len(x)":              {Code: api.Len, Left: x},
		"len((<-x))":          {Code: api.Len, Left: recv(x)},
		"<-x":                 recv(x),
		"<-<-x":               recv(recv(x)),
		"<-f(1)":              recv(call("f", y)),
		"-x":                  un(api.Neg, x),
		"^x":                  un(api.Flip, x),
		"!x":                  un(api.Bang, x),
		"-1":                  un(api.Neg, y),
		"--1":                 un(api.Neg, un(api.Neg, y)),
		"-^!<-x":              un(api.Neg, un(api.Flip, un(api.Bang, recv(x)))),
		"-(x + 1)":            un(api.Neg, bin(api.Add, x, y)),
		"-x + 1":              bin(api.Add, un(api.Neg, x), y),
		"x - -1":              bin(api.Sub, x, un(api.Neg, y)),
		"x--1":                bin(api.Sub, x, un(api.Neg, y)),
		"x ^ ^1":              bin(api.Xor, x, un(api.Flip, y)),
		"x < -1":              bin(api.Lt, x, un(api.Neg, y)),
		"<-x + <-x":           bin(api.Add, recv(x), recv(x)),
		"((x))":               x,
		"(((x + (1))))":       bin(api.Add, x, y),
		"(-(x))":              un(api.Neg, x),
	} {
		if got := value(t, text); !reflect.DeepEqual(got, want) {
			t.Errorf("%q: %s; want %s", text, shown(got), shown(want))
		}
	}
}

// 8.1: of two ops the one of a greater level ties more closely, and of one level the left one.
func TestParseOfTwoOps(t *testing.T) {
	a, b, c := name("a"), name("b"), name("c")
	for i, level := range allOps {
		for _, one := range level {
			if got := value(t, "a "+one.text+" b"); !reflect.DeepEqual(got, bin(one.op, a, b)) {
				t.Errorf("%s: %s", one.text, shown(got))
			}
			for j, other := range allOps {
				for _, two := range other {
					text := "a " + one.text + " b " + two.text + " c"
					want := bin(two.op, bin(one.op, a, b), c)
					if j > i {
						want = bin(one.op, a, bin(two.op, b, c))
					}
					if got := value(t, text); !reflect.DeepEqual(got, want) {
						t.Errorf("%s: %s; want %s", text, shown(got), shown(want))
					}
					text = "a " + one.text + " (b " + two.text + " c)"
					if got, want := value(t, text), bin(one.op, a, bin(two.op, b, c)); !reflect.DeepEqual(got, want) {
						t.Errorf("%s: %s; want %s", text, shown(got), shown(want))
					}
				}
			}
		}
	}
}

// 8.2: an expression's place is that of its first token, that of an op of two where it stands; brackets about it are none of it.
func TestParseOfPlaces(t *testing.T) {
	for text, want := range map[string]int{
		"x": 0, "(x)": 1, "((x))": 2, "1": 0, "true": 0, "false": 0, "nil": 0, "( 1)": 2,
		"f(x)": 0, "(f(x))": 1, "make(1)": 0, "len(x)": 0, "-x": 0, "^x": 0, "!x": 0, "<-x": 0, "(-x)": 1, "(<-x)": 1,
		"x + 1": 2, "(x) + 1": 4, "(x + 1)": 3, "x + 1 + 2": 6, "x + 1 * 2": 2, "x * 1 + 2": 6, "x && 1": 2, "x || 1 && 2": 2, "(x + 1) * 2": 8, "x < 1 == 2": 6,
	} {
		ahead := "func main() {\nprint "
		src := parsed(t, ahead+text+"\n}")
		if got := src.Funcs[0].Body[0].Value.At; got != len(ahead)+want {
			t.Errorf("%s: at %d; want %d", text, got-len(ahead), want)
		}
	}
	l := body(t, "(f(1))\n  (x) <- 1\n(<-x)")
	if l[0].At != 14 || l[0].Value.At != 15 || l[1].At != 23 || l[1].To.At != 24 || l[2].At != 32 || l[2].Value.At != 33 {
		t.Errorf("statements in brackets: %+v", l)
	}
	if c := body(t, "select { case (<-(x)): }")[0].Cases[0]; c.At != 23 || c.To.At != 32 {
		t.Errorf("a case in brackets: %+v", c)
	}
}

// P2: what 8.2 doesn't name is nothing, of a text of nothing wrong, and of any other one.
func TestParseOfTheLastToken(t *testing.T) {
	wrongAt(t, "func main() { x := 1\n y }", api.ErrForm, 24)
	wrongAt(t, "var a\nvar b\nvar 1", api.ErrForm, 16)
	wrongAt(t, "var a // b\nfunc f() {}\nfunc", api.ErrForm, 27)
	wrongAt(t, "func f() { // }", api.ErrForm, 15)
	wrongAt(t, "func f() {   \n\n", api.ErrForm, 15)
}

// P4: what one call answers is not what another one did.
func TestParseTellsFreshTrees(t *testing.T) {
	text := "var a\nfunc f(x int) {\nprint f(x)\n}\n"
	first, second := parsed(t, text), parsed(t, text)
	first.Globals[0].Name = "?"
	first.Funcs[0].Params[0].Name = "?"
	first.Funcs[0].Body[0].Value.Args[0].Name = "?"
	first.Funcs[0].Body[0].Code = api.Sleep
	if got := tree.Print(second); got != "var a\nfunc f(x int) {\n  print f(x)\n}\n" {
		t.Errorf("what was told before has changed: %s", got)
	}
}
