package verify_test

import (
	"reflect"
	"slices"
	"testing"

	"sluiceway/api"
	"sluiceway/verify"
)

// every is a program in which each instruction is live.
const every = `globals 1
fn none 0 int chan
  push 2
  make
  set 1
  get 1
  call 1
  set 0
  load 0
  push 3
  bin <
  false 12
  get 1
  go 2
  get 1
  nil
  push 1
  select 3
  caserecv 19
  casesend 21
  caseelse 21
  print
  jump 6
  get 0
  sleep
  ret
fn int 1 chan
  get 0
  len
  push 1
  bin +
  ret
fn none 1 chan
  get 0
  push 4
  send
  get 0
  recv
  un -
  store 0
  bool 0
  un !
  pop
  get 0
  close
  ret
`

// 16.3: of each function, of each instruction, what waits ahead of it.
func TestShapesOfAProgram(t *testing.T) {
	fits(t, every,
		"0 i c 0 c i 0 i ii b 0 c 0 c cc cci - - - i 0 0 i 0",
		"0 c i ii i",
		"0 c ci 0 c i i 0 b b 0 c 0")
}

// 16.3: kinds are those of the api.
func TestKindsThatWait(t *testing.T) {
	l, err := verify.Shapes(program(t, "globals 0; fn none 0; push 7; bool 1; nil; jump 3"))
	want := []int{api.Int, api.Bool, api.Chan}
	if err != nil || len(l) != 1 || len(l[0]) != 4 || !slices.Equal(l[0][3].Kinds, want) || !l[0][3].Live || !l[0][0].Live || len(l[0][0].Kinds) != 0 {
		t.Errorf("Shapes = %v, %v", l, err)
	}
}

// 16.1, 16.3: as many functions as there may be, as long as they may be, in which as many kinds wait as may.
func TestTheGreatestProgram(t *testing.T) {
	ins := slices.Repeat([]api.Ins{{Op: api.INil}}, api.MaxStack)
	for len(ins) < api.MaxIns-1 {
		ins = append(ins, api.Ins{Op: api.IJump, N: len(ins) + 1})
	}
	ins = append(ins, api.Ins{Op: api.IJump, N: api.MaxIns - 1})
	p := api.Program{Globals: api.MaxGlobals, Fns: slices.Repeat([]api.Fn{{Code: ins}}, api.MaxFuncs)}
	l, err := verify.Shapes(p)
	if err != nil || len(l) != api.MaxFuncs {
		t.Fatalf("%d functions, %v", len(l), err)
	}
	for k := range l {
		last := l[k][len(l[k])-1]
		if len(l[k]) != api.MaxIns || !last.Live || len(last.Kinds) != api.MaxStack {
			t.Errorf("function %d: %d shapes, the last one %v", k, len(l[k]), last)
		}
	}
}

// P4: a program that is handed in isn't written into, nor what is behind its lists' lengths, and what comes out is fresh.
func TestListsStayTheCallers(t *testing.T) {
	p := program(t, every)
	for k := range p.Fns {
		f := &p.Fns[k]
		f.Locals = append(slices.Clone(f.Locals), 7, 8)[:len(f.Locals)]
		f.Code = append(slices.Clone(f.Code), api.Ins{Op: 99, N: -99})[:len(f.Code)]
	}
	l, err := verify.Shapes(p)
	if err != nil || !reflect.DeepEqual(p, program(t, every)) {
		t.Errorf("Shapes wrote into its program, %v", err)
	}
	for _, f := range p.Fns {
		if n := len(f.Locals); f.Locals[:n+1][n] != 7 || f.Code[:len(f.Code)+1][len(f.Code)] != (api.Ins{Op: 99, N: -99}) {
			t.Errorf("Shapes wrote behind a list: %v", f.Locals[:n+1])
		}
	}
	want, _ := verify.Shapes(p)
	for k := range l {
		for i, s := range l[k] {
			for at := range s.Kinds {
				s.Kinds[at] = 99
			}
			_ = append(s.Kinds, 99)
			if !reflect.DeepEqual(l[k][i+1:], want[k][i+1:]) {
				t.Fatalf("shape %d of function %d shares memory with one behind it", i, k)
			}
		}
	}
	if again, _ := verify.Shapes(p); !reflect.DeepEqual(again, want) {
		t.Error("Shapes kept what it gave")
	}
}
