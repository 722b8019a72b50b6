package tree_test

import (
	"reflect"
	"strings"
	"testing"

	"sluiceway/api"
	"sluiceway/lex"
	"sluiceway/plain"
	"sluiceway/tree"
)

// die draws numbers, the same ones each time.
type die uint64

func (d *die) n(most int) int {
	*d = *d*6364136223846793005 + 1442695040888963407
	return int(uint64(*d) >> 33 % uint64(most))
}

func (d *die) one(l ...string) string {
	return l[d.n(len(l))]
}

// expr is a drawn tree, so deep.
func (d *die) expr(deep int) *api.Expr {
	if deep == 0 {
		return []*api.Expr{num(d.n(100)), name(d.one("x", "y", "c", "gg")), {Code: api.True, N: d.n(2)}, {Code: api.Nil}, call("f")}[d.n(5)]
	}
	switch d.n(10) {
	case 0, 1, 2, 3:
		level := allOps[d.n(len(allOps))]
		return bin(level[d.n(len(level))].op, d.expr(deep-1), d.expr(d.n(deep)))
	case 4:
		return un(api.Neg+d.n(3), d.expr(deep-1))
	case 5:
		return recv(d.expr(deep - 1))
	case 6:
		return &api.Expr{Code: api.Make + d.n(2), Left: d.expr(deep - 1)}
	case 7:
		return d.call(deep)
	}
	return d.expr(deep - 1)
}

// call is a drawn call, so deep.
func (d *die) call(deep int) *api.Expr {
	x := call(d.one("f", "g", "main"))
	for range d.n(4) {
		x.Args = append(x.Args, d.expr(deep-1))
	}
	return x
}

// stmts are drawn statements, so deep.
func (d *die) stmts(deep int) []api.Stmt {
	var l []api.Stmt
	for range d.n(4) {
		l = append(l, d.stmt(deep))
	}
	return l
}

// stmt is a drawn statement, so deep.
func (d *die) stmt(deep int) api.Stmt {
	s := api.Stmt{Code: api.Let + d.n(api.Select)}
	if deep == 0 && s.Code >= api.If {
		s.Code = api.Print
	}
	switch s.Code {
	case api.Let, api.Set:
		s.Name = d.one("x", "y", "gg")
	case api.Send:
		s.To = d.expr(d.n(3))
	case api.If:
		s.Then, s.Else = d.stmts(deep-1), d.stmts(deep-1)
	case api.For:
		s.Then = d.stmts(deep - 1)
	case api.Select:
		for range d.n(4) {
			s.Cases = append(s.Cases, d.oneCase(deep-1))
		}
	}
	switch s.Code {
	case api.Break, api.Continue, api.Select:
	case api.Go:
		s.Value = d.call(3)
	case api.Do:
		s.Value = []*api.Expr{d.call(3), recv(d.expr(2))}[d.n(2)]
	case api.Return:
		s.Value = []*api.Expr{nil, d.expr(3)}[d.n(2)]
	default:
		s.Value = d.expr(d.n(4))
	}
	return s
}

// oneCase is a drawn case, so deep.
func (d *die) oneCase(deep int) api.Case {
	switch d.n(4) {
	case 0:
		return api.Case{Code: api.Else, Body: d.stmts(deep)}
	case 1:
		return api.Case{Code: api.Send, To: d.expr(d.n(3)), Value: d.expr(d.n(3)), Body: d.stmts(deep)}
	}
	return api.Case{Code: api.Recv, Name: d.one("", "v"), To: d.expr(d.n(3)), Body: d.stmts(deep)}
}

// source is a drawn program.
func (d *die) source() api.Source {
	var src api.Source
	for range d.n(3) {
		src.Globals = append(src.Globals, api.Global{Name: d.one("gg", "h")})
	}
	for range d.n(3) {
		f := api.Func{Name: d.one("main", "f"), Kind: d.n(4), Body: d.stmts(2)}
		for range d.n(3) {
			f.Params = append(f.Params, api.Param{Name: d.one("x", "c"), Kind: api.Int + d.n(3)})
		}
		src.Funcs = append(src.Funcs, f)
	}
	return src
}

// scribe writes a tree with brackets and blanks as they fall, and notes in it where each part begins.
type scribe struct {
	die
	text string
}

// put writes tokens, with something ahead of each that changes nothing, and says where the first one of them begins.
func (w *scribe) put(tokens ...string) int {
	first := -1
	for _, token := range tokens {
		w.text += w.one(" ", "  ", "\t", " \r")
		if first < 0 {
			first = len(w.text)
		}
		w.text += token
		if strings.Contains(" + * == && , ( { : := <- ", " "+token+" ") {
			w.text += w.one("", "", "\n", " // x\n\n")
		}
	}
	return first
}

// mayBe writes a bracket or nothing, and says whether it did.
func (w *scribe) mayBe(must bool) bool {
	if must || w.n(4) == 0 {
		w.put("(")
		return true
	}
	return false
}

// oneOf writes a ONE.
func (w *scribe) oneOf(x *api.Expr) {
	w.inBrackets(x, x.Code == api.Bin)
}

// inBrackets writes an expression in brackets, if it must be, or it falls so.
func (w *scribe) inBrackets(x *api.Expr, must bool) {
	open := w.mayBe(must)
	w.expr(x)
	if open {
		w.put(")")
	}
}

// expr writes an expression; ops of two that stand in another one are always in brackets.
func (w *scribe) expr(x *api.Expr) {
	switch x.Code {
	case api.Bin:
		w.oneOf(x.Left)
		for _, level := range allOps {
			for _, op := range level {
				if op.op == x.Op {
					x.At = w.put(op.text)
				}
			}
		}
		w.oneOf(x.Right)
	case api.Un:
		x.At = w.put([]string{"-", "^", "!"}[x.Op-api.Neg])
		w.oneOf(x.Left)
	case api.Recv:
		x.At = w.put("<-")
		w.oneOf(x.Left)
	case api.Call:
		w.call(x)
	case api.Make, api.Len:
		x.At = w.put([]string{"make", "len"}[x.Code-api.Make], "(")
		w.inBrackets(x.Left, false)
		w.put(")")
	default:
		x.At = w.put(tree.Text(x))
	}
}

// call writes a call.
func (w *scribe) call(x *api.Expr) {
	x.At = w.put(x.Name, "(")
	for k, arg := range x.Args {
		if k > 0 {
			w.put(",")
		}
		w.inBrackets(arg, false)
	}
	w.put(")")
}

// block writes statements in { and }.
func (w *scribe) block(l []api.Stmt) {
	w.put("{")
	w.stmts(l, true)
	w.put("}")
}

// stmts writes statements, each with an end; ahead of } the last one may have none.
func (w *scribe) stmts(l []api.Stmt, ahead bool) {
	for k := range l {
		w.stmt(&l[k])
		if k < len(l)-1 || !ahead || w.n(2) == 0 {
			w.text += w.one(";", " ;\n", "\n", "\r\n\n", " // y\n")
		}
	}
}

// stmt writes a statement, and notes where it begins.
func (w *scribe) stmt(s *api.Stmt) {
	switch s.Code {
	case api.Let:
		s.At = w.put(s.Name, ":=")
		w.inBrackets(s.Value, false)
	case api.Set:
		s.At = w.put(s.Name, "=")
		w.inBrackets(s.Value, false)
	case api.Send:
		s.At = w.begins(func() { w.oneOf(s.To) })
		w.put("<-")
		w.inBrackets(s.Value, false)
	case api.Close:
		s.At = w.put("close", "(")
		w.inBrackets(s.Value, false)
		w.put(")")
	case api.Print, api.Sleep:
		s.At = w.put([]string{"print", "sleep"}[s.Code-api.Print])
		w.inBrackets(s.Value, false)
	case api.Go:
		s.At = w.put("go")
		w.call(s.Value)
	case api.Return:
		s.At = w.put("return")
		if s.Value != nil {
			w.inBrackets(s.Value, false)
		}
	case api.Break, api.Continue:
		s.At = w.put([]string{"break", "continue"}[s.Code-api.Break])
	case api.Do:
		s.At = w.begins(func() { w.oneOf(s.Value) })
	case api.If, api.For:
		w.branch(s)
	case api.Select:
		s.At = w.put("select", "{")
		for k := range s.Cases {
			w.oneCase(&s.Cases[k], k == len(s.Cases)-1)
		}
		w.put("}")
	}
}

// branch writes an if or a for.
func (w *scribe) branch(s *api.Stmt) {
	s.At = w.put(map[int]string{api.If: "if", api.For: "for"}[s.Code])
	w.inBrackets(s.Value, false)
	w.block(s.Then)
	if len(s.Else) > 0 || s.Code == api.If && w.n(4) == 0 {
		w.put("else")
		w.block(s.Else)
	}
}

// begins is where what is written then has its first token.
func (w *scribe) begins(write func()) int {
	from := len(w.text)
	write()
	return from + len(w.text[from:]) - len(strings.TrimLeft(w.text[from:], " \t\r"))
}

// oneCase writes a case, and notes where it begins.
func (w *scribe) oneCase(c *api.Case, last bool) {
	switch {
	case c.Code == api.Else:
		c.At = w.put("default")
	case c.Code == api.Send:
		c.At = w.put("case")
		w.oneOf(c.To)
		w.put("<-")
		w.inBrackets(c.Value, false)
	case c.Name != "":
		c.At = w.put("case", c.Name, ":=", "<-")
		w.oneOf(c.To)
	default:
		c.At = w.put("case")
		open := w.mayBe(false)
		w.put("<-")
		w.oneOf(c.To)
		if open {
			w.put(")")
		}
	}
	w.put(":")
	w.stmts(c.Body, last)
}

// source writes a program.
func (w *scribe) source(src api.Source) {
	kinds := []string{"", "int", "bool", "chan"}
	for k := range src.Globals {
		w.put("var")
		src.Globals[k].At = w.put(src.Globals[k].Name)
		w.text += ";"
	}
	for k := range src.Funcs {
		f := &src.Funcs[k]
		w.put("func")
		f.At = w.put(f.Name)
		w.put("(")
		for i := range f.Params {
			if i > 0 {
				w.put(",")
			}
			f.Params[i].At = w.put(f.Params[i].Name)
			w.put(kinds[f.Params[i].Kind])
		}
		w.put(")", kinds[f.Kind])
		w.block(f.Body)
		w.text += w.one("\n", ";", " // z\n")
	}
}

// 8.1, 8.2: drawn trees, written as they may be, are read as they are, with all their places.
func TestParseOfDrawnTrees(t *testing.T) {
	read := 0
	for k := range 3000 {
		w := scribe{die: die(k)}
		src := w.drawn()
		if len(w.text) > api.MaxText {
			continue
		}
		read++
		got, err := tree.Parse(w.text)
		if e, place := plain.Place(err); err != nil {
			t.Fatalf("Parse(%q): %d at %d", w.text, e, place)
		}
		if !reflect.DeepEqual(got, src) {
			t.Fatalf("Parse(%q) = %s", w.text, tree.Print(got))
		}
	}
	if read < 2000 {
		t.Errorf("just %d of them are short enough", read)
	}
}

// drawn draws a program, and writes it.
func (w *scribe) drawn() api.Source {
	src := w.die.source()
	w.source(src)
	return src
}

// 8.1, 8.3: drawn trees, printed, are read as they are, and printed so again.
func TestPrintOfDrawnTrees(t *testing.T) {
	for k := range 3000 {
		d := die(k)
		src := d.source()
		text := tree.Print(src)
		if len(text) > api.MaxText {
			continue
		}
		got, err := tree.Parse(text)
		if e, place := plain.Place(err); err != nil {
			t.Fatalf("Parse(%q): %d at %d", text, e, place)
		}
		if !reflect.DeepEqual(bare(got), bare(src)) {
			t.Fatalf("%q is read as %q", text, tree.Print(got))
		}
	}
}

// 8.3: without any two of its brackets a text is no longer that of its tree.
func TestTextHasNoBracketsTooMany(t *testing.T) {
	d := die(5)
	for range 2000 {
		x := d.expr(4)
		text := tree.Text(x)
		if got := value(t, text); !reflect.DeepEqual(got, x) {
			t.Fatalf("%s is read as %s", text, tree.Text(got))
		}
		for open := range len(text) {
			if text[open] != '(' {
				continue
			}
			shut := partner(text, open)
			less := text[:open] + " " + text[open+1:shut] + " " + text[shut+1:]
			src, err := tree.Parse(inMain("print " + less))
			if err == nil && reflect.DeepEqual(bareExpr(src.Funcs[0].Body[0].Value), x) {
				t.Fatalf("%s is %s, too", less, text)
			}
		}
	}
}

// partner is where the bracket is shut that is opened at a place.
func partner(text string, open int) int {
	depth := 0
	for k := open; k < len(text); k++ {
		switch text[k] {
		case '(':
			depth++
		case ')':
			depth--
		}
		if depth == 0 {
			return k
		}
	}
	return -1
}

// grammar is that of 8.1: a name's rules, of which each is symbols in a row; those that are no name are tokens. What the chapter writes with .. is a rule of its own here, and a ONE that is a statement, or stands in a case, is one, too.
const grammar = `
PROGRAM: | DECL PROGRAM
DECL: var NAME ; | func NAME ( PARAMS ) TYPE BLOCK ; | func NAME ( PARAMS ) BLOCK ;
PARAMS: | NAME TYPE PARAMREST
PARAMREST: | , NAME TYPE PARAMREST
TYPE: int | bool | chan
BLOCK: { STMTS }
STMTS: | STMT | STMT ; STMTS
STMT: NAME := EXPR | NAME = EXPR | ONE <- EXPR | close ( EXPR ) | print EXPR | sleep EXPR | go NAME ( ARGS ) | return | return EXPR | break | continue | DOES | if EXPR BLOCK | if EXPR BLOCK else BLOCK | for EXPR BLOCK | select { CASES }
CASES: | CASE | CASE BODY CASES | CASE STMTS
BODY: | STMT ; BODY
CASE: case NAME := <- ONE : | case TAKES : | case ONE <- EXPR : | default :
DOES: NAME ( ARGS ) | TAKES | ( DOES )
TAKES: <- ONE | ( TAKES )
ARGS: | EXPR ARGREST
ARGREST: | , EXPR ARGREST
EXPR: ALL ORS
ORS: | || ALL ORS
ALL: CMP ANDS
ANDS: | && CMP ANDS
CMP: SUM CMPS
CMPS: | < SUM CMPS | <= SUM CMPS | > SUM CMPS | >= SUM CMPS | == SUM CMPS | != SUM CMPS
SUM: PROD SUMS
SUMS: | + PROD SUMS | - PROD SUMS | OR PROD SUMS | ^ PROD SUMS
PROD: ONE PRODS
PRODS: | * ONE PRODS | / ONE PRODS | % ONE PRODS | << ONE PRODS | >> ONE PRODS | & ONE PRODS
ONE: - ONE | ^ ONE | ! ONE | <- ONE | NUMBER | NAME | NAME ( ARGS ) | true | false | nil | make ( EXPR ) | len ( EXPR ) | ( EXPR )
`

// rules are those of the grammar, by their names.
func rules() map[string][][]string {
	all := map[string][][]string{}
	for line := range strings.Lines(strings.TrimSpace(grammar)) {
		name, right, _ := strings.Cut(line, ":")
		rule := []string{}
		var l [][]string
		for _, symbol := range strings.Fields(right) {
			switch symbol {
			case "|":
				l = append(l, rule)
				rule = []string{}
			case "OR":
				rule = append(rule, "|")
			default:
				rule = append(rule, symbol)
			}
		}
		all[name] = append(l, rule)
	}
	return all
}

// judge tells whether tokens are of the grammar: at each place all is tried that may begin there.
type judge struct {
	rules  map[string][][]string
	tokens []api.Token
	known  map[ask]map[int]bool
	far    int
}

// ask is a symbol, and the token at which it begins.
type ask struct {
	symbol string
	from   int
}

// ends are the tokens at which a symbol may end that begins at one.
func (j *judge) ends(symbol string, from int) map[int]bool {
	q := ask{symbol, from}
	if l, ok := j.known[q]; ok {
		return l
	}
	l := map[int]bool{}
	if rules, ok := j.rules[symbol]; ok {
		for _, rule := range rules {
			at := map[int]bool{from: true}
			for _, part := range rule {
				next := map[int]bool{}
				for k := range at {
					for end := range j.ends(part, k) {
						next[end] = true
					}
				}
				at = next
			}
			for end := range at {
				l[end] = true
			}
		}
	} else if j.stands(symbol, from) {
		l[from+1] = true
	}
	j.known[q] = l
	return l
}

// stands says whether a token is this one; the last one that is none is where the text is wrong.
func (j *judge) stands(symbol string, at int) bool {
	j.far = max(j.far, at)
	if at >= len(j.tokens) {
		return false
	}
	switch token := j.tokens[at]; token.Kind {
	case api.Word:
		return symbol == "NAME"
	case api.Number:
		return symbol == "NUMBER"
	case api.Line:
		return symbol == ";"
	default:
		return symbol == token.Text
	}
}

// judged is where the first token is that may not stand there, -1, if there is none.
func judged(text string, tokens []api.Token, rules map[string][][]string) int {
	j := judge{rules: rules, tokens: tokens, known: map[ask]map[int]bool{}}
	if j.ends("PROGRAM", 0)[len(tokens)] {
		return -1
	}
	if j.far >= len(tokens) {
		return len(text)
	}
	return tokens[j.far].At
}

// bent is a text in which a few tokens were dropped, doubled, put elsewhere, or made others.
func (d *die) bent(text string) string {
	tokens, _ := lex.Lex(text)
	var l []string
	for _, token := range tokens {
		if token.Kind == api.Line {
			token.Text = ";"
		}
		l = append(l, token.Text)
	}
	all := strings.Fields("( ) { } , : ; ; := = <- <- - ! + * || && < x x f c 1 0 true nil make len close print sleep go return break if else for select case default func var int chan bool")
	for range d.n(3) {
		if len(l) == 0 {
			break
		}
		k := d.n(len(l))
		switch d.n(5) {
		case 0:
			l = append(l[:k], l[k+1:]...)
		case 1:
			l = append(l[:k+1], l[k:]...)
		case 2:
			i := d.n(len(l))
			l[k], l[i] = l[i], l[k]
		case 3:
			l = l[:k]
		default:
			l[k] = all[d.n(len(all))]
		}
	}
	return strings.Join(l, " ")
}

// 8.1: texts are of the grammar, or wrong at the first token at which no text of the grammar goes on so.
func TestParseAsTheGrammar(t *testing.T) {
	grammar := rules()
	good, bad := 0, 0
	for k := range 6000 {
		d := die(k)
		text := d.bent(tree.Print(d.source()))
		tokens, err := lex.Lex(text)
		if err != nil || len(tokens) > 250 {
			continue
		}
		_, err = tree.Parse(text)
		e, place := plain.Place(err)
		if want := judged(text, tokens, grammar); place != want || (want < 0) != (e == api.OK) || want >= 0 && e != api.ErrForm {
			t.Fatalf("Parse(%q): %d at %d; want it wrong at %d", text, e, place, want)
		}
		if place < 0 {
			good++
		} else {
			bad++
		}
	}
	if good < 500 || bad < 1000 {
		t.Errorf("just %d good ones, %d bad ones", good, bad)
	}
}

// P1, P2, P3: any tokens in a row make a tree, which is printed as one that is read, or an error with its place, and no tree.
func TestParseOfAnyTokens(t *testing.T) {
	grammar := rules()
	all := strings.Fields("( ) { } , : ; := = <- - ! ^ + * / || && | & < == x y f 1 2 true nil make len close print sleep go return break continue if else for select case default func var int")
	starts := []string{"", "func f() {", "func f() { print ", "func f() { select { ", "func f() { select { case ", "func f(", "func f() { x "}
	for k := range 20000 {
		d := die(k)
		text := starts[d.n(len(starts))]
		for range d.n(9) {
			text += " " + all[d.n(len(all))]
		}
		text += d.one("", "}", " }}", " }\n}\n")
		tokens, err := lex.Lex(text)
		if err != nil {
			t.Fatalf("Lex(%q): %v", text, err)
		}
		src, err := tree.Parse(text)
		e, place := plain.Place(err)
		if want := judged(text, tokens, grammar); place != want || err != nil && (e != api.ErrForm || len(src.Globals)+len(src.Funcs) > 0) {
			t.Fatalf("Parse(%q): %d at %d; want it wrong at %d", text, e, place, want)
		}
		if again, err := tree.Parse(tree.Print(src)); err != nil || !reflect.DeepEqual(bare(again), bare(src)) {
			t.Fatalf("%q is printed as %q", text, tree.Print(src))
		}
	}
}
