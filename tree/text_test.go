package tree_test

import (
	"math"
	"reflect"
	"strconv"
	"strings"
	"testing"

	"sluiceway/api"
	"sluiceway/tree"
)

// 8.3: expressions as they are written, with brackets just where they must be.
func TestText(t *testing.T) {
	for text, want := range map[string]string{
		"0":                                 "0",
		"9223372036854775807":               "9223372036854775807",
		"true":                              "true",
		"false":                             "false",
		"nil":                               "nil",
		"x":                                 "x",
		"((x))":                             "x",
		"äö":                                "äö",
		"f( )":                              "f()",
		"f(x,1,(2))":                        "f(x, 1, 2)",
		"f((1+2)*3,g())":                    "f((1 + 2) * 3, g())",
		"make( (1)+2 )":                     "make(1 + 2)",
		"len((c))":                          "len(c)",
		"<- c":                              "<-c",
		"<- (c)":                            "<-c",
		"<- <- c":                           "<-<-c",
		"- - 1":                             "--1",
		"- 1":                               "-1",
		"^ x":                               "^x",
		"! x":                               "!x",
		"- ( 1+2 )":                         "-(1 + 2)",
		"<-(a+b)":                           "<-(a + b)",
		"!(a<b)":                            "!(a < b)",
		"-(f(x))":                           "-f(x)",
		"-(-(^(!x)))":                       "--^!x",
		"1+2":                               "1 + 2",
		"x- -1":                             "x - -1",
		"x<-1":                              "",
		"x<(-1)":                            "x < -1",
		"(x)<(<-c)":                         "x < <-c",
		"(1+2)+3":                           "1 + 2 + 3",
		"1+(2+3)":                           "1 + (2 + 3)",
		"1+(2*3)":                           "1 + 2 * 3",
		"(1+2)*3":                           "(1 + 2) * 3",
		"1*(2*3)":                           "1 * (2 * 3)",
		"(1*2)*3":                           "1 * 2 * 3",
		"1-(2-3)":                           "1 - (2 - 3)",
		"(a<b)==(c<d)":                      "a < b == (c < d)",
		"(a&&b)||(c&&d)":                    "a && b || c && d",
		"(a||b)&&(c||d)":                    "(a || b) && (c || d)",
		"a||(b||c)":                         "a || (b || c)",
		"(-a)*(-b)":                         "-a * -b",
		"-(a*b)":                            "-(a * b)",
		"((a+b)*c-d)<<(e&(f|g))":            "((a + b) * c - d) << (e & (f | g))",
		"(a == b) && (c != d || !(e >= f))": "a == b && (c != d || !(e >= f))",
	} {
		if want == "" {
			// x <-1 is sent: a < must stand apart.
			wrongAt(t, inMain("print "+text), api.ErrForm, len("func main() {\nprint x"))
			continue
		}
		x := parsed(t, inMain("print "+text)).Funcs[0].Body[0].Value
		if got := tree.Text(x); got != want {
			t.Errorf("Text(%s) = %s; want %s", text, got, want)
		}
	}
}

// 8.3: each op of two, one in another, is written with as few brackets as there may be.
func TestTextOfTwoOps(t *testing.T) {
	a, b, c := name("a"), name("b"), name("c")
	for i, level := range allOps {
		for _, one := range level {
			for j, other := range allOps {
				for _, two := range other {
					left, right := "a "+one.text+" b", "b "+two.text+" c"
					if i < j {
						left = "(" + left + ")"
					}
					if j <= i {
						right = "(" + right + ")"
					}
					if got, want := tree.Text(bin(two.op, bin(one.op, a, b), c)), left+" "+two.text+" c"; got != want {
						t.Errorf("%s; want %s", got, want)
					}
					if got, want := tree.Text(bin(one.op, a, bin(two.op, b, c))), "a "+one.text+" "+right; got != want {
						t.Errorf("%s; want %s", got, want)
					}
				}
			}
			for _, op := range []struct {
				text string
				tree *api.Expr
			}{{"-", un(api.Neg, bin(one.op, a, b))}, {"^", un(api.Flip, bin(one.op, a, b))}, {"!", un(api.Bang, bin(one.op, a, b))}, {"<-", recv(bin(one.op, a, b))}} {
				if got, want := tree.Text(op.tree), op.text+"(a "+one.text+" b)"; got != want {
					t.Errorf("%s; want %s", got, want)
				}
			}
		}
	}
}

// 8.3: of nothing there is no text.
func TestTextOfNothing(t *testing.T) {
	if got := tree.Text(nil); got != "" {
		t.Errorf("Text(nil) = %q", got)
	}
	if got := tree.Print(api.Source{}); got != "" {
		t.Errorf("Print of nothing = %q", got)
	}
}

// 8.3: a whole program as it is printed.
func TestPrint(t *testing.T) {
	text := `
var  a ; var b // two
func main( ){ c:=make(  1 );go  f( (2),c ) ; a=<- c
}
func f ( x int,c chan ) int {
	if x<1{ return 0 ;} else{ return(1)}
	if !(x<1) {} else {}
	if x==2 { } else { sleep 1; }
	for (true) { break;
		continue }; for x>0 {}
	select { case y:=<-c: print(y);case <-(c) : case c<- 1+2 : h(); <-c; default: select { } }
	(c)<-(x*(1+2)) ; close( (c) )
	return -(x)
}
func g(b bool) bool { return }; func h() chan {
(h()) ; (<- c); (a+1) <- 2
select { case z := <- (a+1): ; (break) } }
`
	text = strings.Replace(text, ": ; (break) }", ": break }", 1)
	want := `var a
var b
func main() {
  c := make(1)
  go f(2, c)
  a = <-c
}
func f(x int, c chan) int {
  if x < 1 {
    return 0
  } else {
    return 1
  }
  if !(x < 1) {
  }
  if x == 2 {
  } else {
    sleep 1
  }
  for true {
    break
    continue
  }
  for x > 0 {
  }
  select {
  case y := <-c:
    print y
  case <-c:
  case c <- 1 + 2:
    h()
    <-c
  default:
    select {
    }
  }
  c <- x * (1 + 2)
  close(c)
  return -x
}
func g(b bool) bool {
  return
}
func h() chan {
  h()
  <-c
  (a + 1) <- 2
  select {
  case z := <-(a + 1):
    break
  }
}
`
	src := parsed(t, text)
	got := tree.Print(src)
	if got != want {
		t.Errorf("Print = %s; want %s", got, want)
	}
	again := parsed(t, got)
	if !reflect.DeepEqual(bare(again), bare(src)) || tree.Print(again) != want {
		t.Errorf("what is printed is read as %s", tree.Print(again))
	}
}

// 8.3: globals are printed ahead of functions, each in their order.
func TestPrintOfGlobalsAndFunctions(t *testing.T) {
	got := tree.Print(parsed(t, "func b() {}\nvar d\nfunc a(x int, y bool, z chan) chan {}\nvar c\n"))
	if want := "var d\nvar c\nfunc b() {\n}\nfunc a(x int, y bool, z chan) chan {\n}\n"; got != want {
		t.Errorf("Print = %s; want %s", got, want)
	}
}

// 8.3: each block stands two blanks more to the right.
func TestPrintOfDepth(t *testing.T) {
	got := tree.Print(parsed(t, inMain("if a { for b { select { case <-c: if d { break } else { select { default: return } } } } }")))
	want := `func main() {
  if a {
    for b {
      select {
      case <-c:
        if d {
          break
        } else {
          select {
          default:
            return
          }
        }
      }
    }
  }
}
`
	if got != want {
		t.Errorf("Print = %s; want %s", got, want)
	}
}

// P1, P2: trees that no text has are written somehow.
func TestTextOfAnyTree(t *testing.T) {
	for code := -1; code <= 50; code++ {
		for _, op := range []int{math.MinInt, -1, 0, api.Add, api.Ne, api.Neg, api.Bang, api.Bang + 1, api.AndAnd, api.OrOr, api.OrOr + 1, math.MaxInt} {
			for _, x := range []*api.Expr{nil, {}, {Code: code}, {Code: code, Op: op}} {
				outer := &api.Expr{Code: code, Op: op, N: op, Left: x, Right: x, Args: []*api.Expr{x, nil, x}}
				tree.Text(outer)
				s := api.Stmt{Code: code, To: outer, Value: x, Cases: []api.Case{{Code: code, To: x, Value: outer}, {Code: op}, {}}}
				s.Then, s.Else = []api.Stmt{s, {}}, []api.Stmt{{Code: op}, {Code: code}}
				tree.Print(api.Source{Globals: []api.Global{{}}, Funcs: []api.Func{{Kind: op, Params: []api.Param{{Kind: op}, {Kind: code}}, Body: []api.Stmt{s, {Code: code}}}}})
			}
		}
	}
}

// P1: parts that are nested as deeply as the document's limits let them be.
func TestTextOfADeepTree(t *testing.T) {
	const deep = 1 << 16
	ones, left, right := name("x"), name("x"), name("x")
	for range deep - 1 {
		ones = un(api.Neg, ones)
		left = bin(api.Add, left, num(1))
		right = bin(api.Add, num(1), right)
	}
	if got := tree.Text(ones); got != strings.Repeat("-", deep-1)+"x" {
		t.Errorf("of ops of one: %d bytes", len(got))
	}
	if got := tree.Text(left); got != "x"+strings.Repeat(" + 1", deep-1) {
		t.Errorf("of ops of two at the left: %d bytes", len(got))
	}
	if got := tree.Text(right); got != "1 + "+strings.Repeat("(1 + ", deep-2)+"x"+strings.Repeat(")", deep-2) {
		t.Errorf("of ops of two at the right: %d bytes", len(got))
	}
}

// P4: what is written is left as it is, nor is it kept.
func TestPrintLeavesTreesAlone(t *testing.T) {
	text := "var a\nfunc f(x int, c chan) int {\nif x < (1 + 2) * 3 {\nselect {\ncase y := <-c:\nf(x, c)\ncase c <- 1:\n}\n} else {\nreturn -(x + 1)\n}\n}\n"
	src, same := parsed(t, text), parsed(t, text)
	printed := tree.Print(src)
	tree.Text(src.Funcs[0].Body[0].Value)
	if !reflect.DeepEqual(src, same) {
		t.Errorf("Print has changed %s", text)
	}
	src.Globals[0].Name = "b"
	src.Funcs[0].Body[0].Value.Left.Name = "y"
	if got := tree.Print(same); got != printed {
		t.Errorf("Print = %s; want %s", got, printed)
	}
}

// P5: numbers are written as P5 tells.
func TestTextOfNumbers(t *testing.T) {
	for _, n := range []int{0, 1, 9, 10, 1 << 40, math.MaxInt} {
		if got := tree.Text(num(n)); got != strconv.Itoa(n) {
			t.Errorf("Text of %d = %s", n, got)
		}
		if got := tree.Text(un(api.Neg, num(n))); got != "-"+strconv.Itoa(n) {
			t.Errorf("Text of - %d = %s", n, got)
		}
	}
}
