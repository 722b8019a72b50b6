package emit_test

import (
	"reflect"
	"testing"

	"sluiceway/api"
	"sluiceway/asm"
	"sluiceway/check"
	"sluiceway/emit"
	"sluiceway/fold"
	"sluiceway/room"
	"sluiceway/tree"
	"sluiceway/verify"
	"sluiceway/walk"
)

// drawn is a program that is drawn, of which nothing is wrong, and its text.
func (d *die) drawn(t *testing.T) (api.Source, string) {
	t.Helper()
	for {
		w := writer{die: die(d.n(1 << 30))}
		text := w.program()
		src, err := tree.Parse(text)
		if api.Tell(err) == api.ErrLimit {
			continue // it is too long
		}
		if err != nil {
			t.Fatalf("Parse(%s): %v", text, err)
		}
		if err := check.Check(src); err != nil {
			t.Fatalf("Check(%s): %v", text, err)
		}
		return src, text
	}
}

// fitting is the program that is made of a tree: it must fit together.
func fitting(t *testing.T, src api.Source) api.Program {
	t.Helper()
	p, err := emit.Emit(src)
	if err != nil {
		t.Fatalf("Emit(%s): %v", tree.Print(src), err)
	}
	if err := verify.Verify(p); err != nil {
		t.Fatalf("Verify(Emit(%s)): %v", tree.Print(src), err)
	}
	return p
}

// 17.1 to 17.3: programs that are drawn are what the paper writes; each Op is there often.
func TestDrawnPrograms(t *testing.T) {
	d := die(17)
	ops := map[int]int{}
	for range 4000 {
		src, text := d.drawn(t)
		p := fitting(t, src)
		got, err := asm.Write(p)
		if err != nil {
			t.Fatal(err)
		}
		if want := onPaper(src); got != want {
			t.Fatalf("%s\nis %s; want %s", text, got, want)
		}
		again, err := tree.Parse(text)
		if err != nil || !reflect.DeepEqual(src, again) {
			t.Fatalf("%s\nthe tree was written into", text)
		}
		for _, f := range p.Fns {
			for _, i := range f.Code {
				ops[i.Op]++
			}
		}
	}
	for op := api.IPush; op <= api.ICaseElse; op++ {
		if ops[op] < 300 {
			t.Errorf("Op %d is there just %d times", op, ops[op])
		}
	}
}

// sameRuns says that a program of instructions does what a tree does, turn by turn, by such picks, and tells how it ends.
func sameRuns(t *testing.T, text string, src api.Source, p api.Program, picks []api.Pick) int {
	t.Helper()
	byTree, err := walk.Start(src)
	if err != nil {
		t.Fatal(err)
	}
	byCode, err := room.New(&machine{p: p}, p.Globals)
	if err != nil {
		t.Fatal(err)
	}
	for k, pick := range picks {
		choices, want := byCode.Choices(), byTree.Choices()
		done, wantDone := byCode.Turn(pick), byTree.Turn(pick)
		if hall, wantHall := byCode.Hall(), byTree.Hall(); choices != want || done != wantDone || !reflect.DeepEqual(hall, wantHall) {
			t.Fatalf("%s\nturn %d: %d choices, %v; want %d, %v", text, k, choices, hall, want, wantHall)
		}
	}
	if got, want := byCode.Events(), byTree.Events(); !reflect.DeepEqual(got, want) {
		t.Fatalf("%s\nthe events are %v; want %v", text, got, want)
	}
	return byCode.Hall().End
}

// 17.2, 17.3: the instructions do what the tree does, turn by turn, whoever takes which turn; so do those of what is reckoned ahead.
func TestDrawnRuns(t *testing.T) {
	d := die(1717)
	ends := map[int]int{}
	for range 2500 {
		src, text := d.drawn(t)
		var picks []api.Pick
		for range 10 + d.n(150) {
			picks = append(picks, api.Pick{Who: d.n(9), Draw: d.n(9)})
		}
		ends[sameRuns(t, text, src, fitting(t, src), picks)]++
		folded := fold.Fold(src)
		sameRuns(t, text, src, fitting(t, folded), picks)
	}
	for end := api.Going; end <= api.Full; end++ {
		if ends[end] < 3 {
			t.Errorf("%d runs ended by %d: %v", ends[end], end, ends)
		}
	}
}

// 17.2, 17.3: a turn has as many ticks: loops that go on, are left, and go round, and functions that wait for one another, up to too many.
func TestTicks(t *testing.T) {
	for _, text := range []string{
		"func main() { for true { } }",
		"var g; func main() { for g < 120 { g = g + 1; print g } }",
		"var g; func main() { x := 0; for x < 120 { x = x + 1; if x % 3 == 0 { continue }; if x > 110 { break }; g = x } }",
		"func main() { x := 0; for x < 30 { y := 0; for true { y = y + 1; if y > x { break } }; x = x + 1 }; print x }",
		"func main() { print sum(14); print sum(15); print sum(16) }; func sum(n int) int { if n < 1 { return 0 }; return n + sum(n - 1) }",
		"func main() { x := 0; for x < 60 { f(); x = x + one(1) } }; func f() { }; func one(a int) int { return a }",
		"func main() { c := make(1); for true { select { case c <- 1: case <-c: continue; default: break } } }",
	} {
		src := parsed(t, text)
		p := fitting(t, src)
		for extra := range 3 {
			sameRuns(t, text, src, p, make([]api.Pick, 300+extra))
		}
	}
}
