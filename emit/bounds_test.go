package emit_test

import (
	"strings"
	"testing"

	"sluiceway/api"
	"sluiceway/plain"
	"sluiceway/tree"
	"sluiceway/verify"
)

// filled is a text of a head, as many middles as a program has bytes for, and a tail.
func filled(head, middle, tail string) string {
	return head + strings.Repeat(middle, (api.MaxText-len(head)-len(tail))/len(middle)) + tail
}

// 17.2, 17.3: of the longest texts there are no more instructions than there may be.
func TestMostInstructions(t *testing.T) {
	most := 0
	for _, text := range []string{
		filled("func main(){a:=true;a=a", "||a", "}"),
		filled("func main(){a:=true;a=a", "&&a", "}"),
		filled("func main(){a:=1;a=a", "+a", "}"),
		filled("func main(){", "f();", "};func f()int{}"),
		filled("func main(){", "<-nil;", "}"),
		filled("func main(){a:=true;", "for a{};", "}"),
		filled("func main(){a:=true;for a{", "break;", "}}"),
		filled("func main(){", "return;", "}"),
		filled("func main(){", "select{default:};", "}"),
		filled("func main(){", "select{case<-nil:};", "}"),
		filled("func main(){a:=true;", "if a{}else{f()};", "};func f(){}"),
		filled("func main(){a:=1;a=a", "+------------a", "}"),
	} {
		p := emitted(t, text)
		if err := verify.Verify(p); err != nil {
			e, place := plain.Place(err)
			t.Errorf("%.60s..: %v at %d", text, e, place)
		}
		most = max(most, len(p.Fns[0].Code))
	}
	if most < api.MaxText {
		t.Errorf("just %d instructions are the most", most)
	}
}

// 17.2, 17.3: as deep as a text may be, there waits no more than there may.
func TestMostThatWaits(t *testing.T) {
	const params = "a int, b int, c int, d int, e int, f int, g int, h int, i int, j int, k int"
	call := func(x string) string { return "1|1*f(1,1,1,1,1,1,1,1,1,1,1,1<1|1*" + x + ")" }
	x := "1"
	for range api.MaxDepth {
		x = call(x)
	}
	text := "func main() {\nselect {\n" + strings.Repeat("case nil<-1:\n", api.MaxCases-1) + "case nil<-" + x + ":\n}\n}\nfunc f(" + params + ", l bool) int {\n}\n"
	p := emitted(t, text)
	l, err := verify.Shapes(p)
	if err != nil {
		t.Fatal(err)
	}
	most := 0
	for _, s := range l[0] {
		most = max(most, len(s.Kinds))
	}
	if most < 150 || most > api.MaxStack {
		t.Errorf("there wait %d", most)
	}
	if _, err := tree.Parse(strings.Replace(text, x, call(x), 1)); api.Tell(err) != api.ErrLimit {
		t.Errorf("one deeper: %v", err)
	}
}

// 17.3: as deep as blocks may lie in one another.
func TestDeepestBlocks(t *testing.T) {
	const deep = api.MaxDepth - 1
	text := "func main() { x := 0\n"
	want := "none 0 int; push 0; set 0"
	for range deep {
		text += "if x < 1 { x = 2\n"
		want += "; get 0; push 1; bin <; false 68; push 2; set 0"
	}
	is(t, text+strings.Repeat("}\n", deep+1), want+"; ret")
}
