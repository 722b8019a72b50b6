package pipe_test

import (
	"math"
	"slices"
	"testing"

	"sluiceway/api"
	"sluiceway/pipe"
)

// far are numbers at which no channel is, and no size, however many were made.
func far() []int {
	return []int{-1, -2, math.MinInt, math.MaxInt, 1 << 32, -1 << 32, 1 << 16}
}

func send(c, n int) api.Talk { return api.Talk{What: api.Send, Chan: c, N: n} }

func recv(c int) api.Talk { return api.Talk{What: api.Recv, Chan: c} }

func other() api.Talk { return api.Talk{What: api.Else} }

// made are channels of these sizes, numbered from 1 on.
func made(t *testing.T, sizes ...int) *pipe.Pipes {
	t.Helper()
	p := &pipe.Pipes{}
	for k, size := range sizes {
		if n, err := p.Make(size); n != k+1 || err != nil {
			t.Fatalf("Make(%d) = %d, %v; want %d", size, n, err, k+1)
		}
	}
	return p
}

// came is all that a Talk answers.
type came struct {
	answer api.Answer
	wakes  []api.Wake
	waits  bool
	err    api.Errno
}

func (c came) is(other came) bool {
	return c.answer == other.answer && slices.Equal(c.wakes, other.wakes) && c.waits == other.waits && c.err == other.err
}

// waits is what comes of a Talk of a task that waits now.
func waits() came { return came{waits: true} }

// does is what comes of a Talk that is done: which one, what was received, and who goes on.
func does(k, n int, wakes ...api.Wake) came {
	return came{answer: api.Answer{Case: k, N: n}, wakes: wakes}
}

// wakes is a task that goes on: at which case, and with what.
func wakes(task, k, n int) api.Wake {
	return api.Wake{Task: task, Answer: api.Answer{Case: k, N: n}}
}

// asked is what comes of a Talk.
func asked(p *pipe.Pipes, task, draw int, l ...api.Talk) came {
	a, w, waits, err := p.Talk(task, l, draw)
	return came{answer: a, wakes: w, waits: waits, err: api.Tell(err)}
}

// talks lets a task talk, and says what must come of it.
func talks(t *testing.T, p *pipe.Pipes, task, draw int, want came, l ...api.Talk) {
	t.Helper()
	if got := asked(p, task, draw, l...); !got.is(want) {
		t.Fatalf("Talk(%d, %v, %d) = %v; want %v", task, l, draw, got, want)
	}
}

// closes shuts a channel, and says what must come of it.
func closes(t *testing.T, p *pipe.Pipes, c int, want api.Errno, who ...api.Wake) {
	t.Helper()
	if w, err := p.Close(c); !slices.Equal(w, who) || api.Tell(err) != want {
		t.Fatalf("Close(%d) = %v, %v; want %v, %v", c, w, err, who, want)
	}
}

// looks says what is to be seen of all channels.
func looks(t *testing.T, p *pipe.Pipes, want ...api.Pipe) {
	t.Helper()
	if got := p.Look(); !slices.EqualFunc(got, want, same) {
		t.Fatalf("Look = %v; want %v", got, want)
	}
	if p.Made() != len(want) {
		t.Fatalf("Made = %d; want %d", p.Made(), len(want))
	}
	for k, c := range want {
		if n, err := p.Len(k + 1); n != len(c.Nums) || err != nil {
			t.Fatalf("Len(%d) = %d, %v; want %d", k+1, n, err, len(c.Nums))
		}
	}
}

func same(a, b api.Pipe) bool {
	return a.Size == b.Size && slices.Equal(a.Nums, b.Nums) && a.Shut == b.Shut && slices.Equal(a.Sends, b.Sends) && slices.Equal(a.Recvs, b.Recvs)
}

// 11.1: none was made at first; each new one has the next number, from 1 on, its size, and nothing in it.
func TestMake(t *testing.T) {
	p := &pipe.Pipes{}
	looks(t, p)
	var want []api.Pipe
	for size := range api.MaxCap + 1 {
		if n, err := p.Make(size); n != size+1 || err != nil {
			t.Fatalf("Make(%d) = %d, %v", size, n, err)
		}
		want = append(want, api.Pipe{Size: size})
		looks(t, p, want...)
	}
}

// 11.1, 11.3: a channel takes as many numbers as its size tells, and no more.
func TestMakeSizes(t *testing.T) {
	for size := range api.MaxCap + 1 {
		p := made(t, size)
		for n := range size {
			talks(t, p, 0, 0, does(0, 0), send(1, n))
		}
		talks(t, p, 0, 0, waits(), send(1, size))
	}
}

// 11.1: ErrRange of any other size, of however many channels; nothing is made then.
func TestMakeRange(t *testing.T) {
	for _, size := range append(far(), api.MaxCap+1) {
		p := &pipe.Pipes{}
		if n, err := p.Make(size); n != 0 || api.Tell(err) != api.ErrRange {
			t.Errorf("Make(%d) = %d, %v; want ErrRange", size, n, err)
		}
		looks(t, p)
	}
}

// 11.1: as many as MaxChans, then ErrFull; a wrong size is told first. A channel that is shut is one that was made.
func TestMakeFull(t *testing.T) {
	p := &pipe.Pipes{}
	for k := range api.MaxChans {
		if n, err := p.Make(k % 3); n != k+1 || err != nil {
			t.Fatalf("Make = %d, %v; want %d", n, err, k+1)
		}
		closes(t, p, k+1, api.OK)
	}
	for _, c := range []struct {
		size int
		want api.Errno
	}{{0, api.ErrFull}, {api.MaxCap, api.ErrFull}, {-1, api.ErrRange}, {api.MaxCap + 1, api.ErrRange}} {
		if n, err := p.Make(c.size); n != 0 || api.Tell(err) != c.want {
			t.Errorf("Make(%d) = %d, %v; want %v", c.size, n, err, c.want)
		}
	}
	if p.Made() != api.MaxChans || len(p.Look()) != api.MaxChans {
		t.Errorf("Made, Look: %d, %d channels; want %d", p.Made(), len(p.Look()), api.MaxChans)
	}
	talks(t, p, 0, 0, came{err: api.ErrRange}, recv(api.MaxChans+1))
	talks(t, p, 0, 0, does(0, 0), recv(api.MaxChans))
}

// 11.4: ErrRange of a channel that there isn't; 0 is none, and has no numbers.
func TestLen(t *testing.T) {
	p := &pipe.Pipes{}
	for _, c := range append(far(), 1) {
		if n, err := p.Len(c); n != 0 || api.Tell(err) != api.ErrRange {
			t.Errorf("Len(%d) of no channels = %d, %v; want ErrRange", c, n, err)
		}
	}
	if n, err := p.Len(0); n != 0 || err != nil {
		t.Errorf("Len(0) = %d, %v", n, err)
	}
	p = made(t, 0, 3)
	for _, c := range append(far(), 3) {
		if n, err := p.Len(c); n != 0 || api.Tell(err) != api.ErrRange {
			t.Errorf("Len(%d) of two channels = %d, %v; want ErrRange", c, n, err)
		}
	}
	if n, err := p.Len(0); n != 0 || err != nil {
		t.Errorf("Len(0) = %d, %v", n, err)
	}
}

// 11.4: the numbers in a channel are told, not those of tasks that wait; shut ones have theirs yet.
func TestLenCounts(t *testing.T) {
	p := made(t, 2)
	for want, task := range []int{5, 6} {
		if n, err := p.Len(1); n != want || err != nil {
			t.Fatalf("Len = %d, %v; want %d", n, err, want)
		}
		talks(t, p, task, 0, does(0, 0), send(1, 9))
	}
	talks(t, p, 7, 0, waits(), send(1, 9))
	looks(t, p, api.Pipe{Size: 2, Nums: []int{9, 9}, Sends: []api.Wait{{Task: 7}}})
	talks(t, p, 8, 0, does(0, 9, wakes(7, 0, 0)), recv(1))
	looks(t, p, api.Pipe{Size: 2, Nums: []int{9, 9}})
	closes(t, p, 1, api.OK)
	looks(t, p, api.Pipe{Size: 2, Nums: []int{9, 9}, Shut: true})
	talks(t, p, 8, 0, does(0, 9), recv(1))
	looks(t, p, api.Pipe{Size: 2, Nums: []int{9}, Shut: true})
}

// 11.4: ErrRange, likewise; ErrArg of 0, and of what is shut; nothing is changed then.
func TestCloseErrors(t *testing.T) {
	p := &pipe.Pipes{}
	for _, c := range append(far(), 1) {
		closes(t, p, c, api.ErrRange)
	}
	closes(t, p, 0, api.ErrArg)
	p = made(t, 1, 1)
	talks(t, p, 0, 0, does(0, 0), send(1, 4))
	closes(t, p, 1, api.OK)
	for _, c := range append(far(), 3) {
		closes(t, p, c, api.ErrRange)
	}
	closes(t, p, 0, api.ErrArg)
	closes(t, p, 1, api.ErrArg)
	looks(t, p, api.Pipe{Size: 1, Nums: []int{4}, Shut: true}, api.Pipe{Size: 1})
}

// 11.4: ErrFalse, if a task waits to send into it: it isn't shut, whoever waits to receive; it may be, when that one has gone on.
func TestCloseFalse(t *testing.T) {
	p := made(t, 0, 0)
	talks(t, p, 1, 0, waits(), send(1, 4), recv(1), recv(2))
	row := []api.Wait{{Task: 1, Case: 1}}
	want := []api.Pipe{{Sends: []api.Wait{{Task: 1}}, Recvs: row}, {Recvs: []api.Wait{{Task: 1, Case: 2}}}}
	closes(t, p, 1, api.ErrFalse)
	looks(t, p, want...)
	talks(t, p, 2, 0, does(0, 0, wakes(1, 2, 7)), send(2, 7))
	closes(t, p, 1, api.OK)
	looks(t, p, api.Pipe{Shut: true}, api.Pipe{})
}

// 11.4: all that wait to receive go on, in their order, with 0; they wait nowhere any more, others do.
func TestCloseWakes(t *testing.T) {
	p := made(t, 2, 0, 1)
	talks(t, p, 5, 0, waits(), recv(2), recv(1))
	talks(t, p, 3, 0, waits(), recv(1))
	talks(t, p, 8, 0, waits(), recv(2))
	talks(t, p, 4, 0, waits(), recv(3), recv(1))
	closes(t, p, 1, api.OK, wakes(5, 1, 0), wakes(3, 0, 0), wakes(4, 1, 0))
	looks(t, p, api.Pipe{Size: 2, Shut: true}, api.Pipe{Recvs: []api.Wait{{Task: 8}}}, api.Pipe{Size: 1})
	for _, task := range []int{4, 5, 3} {
		talks(t, p, task, 0, does(0, 0), recv(1))
	}
	talks(t, p, 8, 0, came{err: api.ErrState}, recv(1))
}

// 11.4: a task that waits there several times goes on once, where it stood first.
func TestCloseOnce(t *testing.T) {
	p := made(t, 0, 0)
	talks(t, p, 5, 0, waits(), recv(2), recv(1), recv(1))
	talks(t, p, 3, 0, waits(), recv(1), recv(1), recv(1))
	talks(t, p, 9, 0, waits(), recv(0), recv(2), recv(0), recv(1))
	closes(t, p, 1, api.OK, wakes(5, 1, 0), wakes(3, 0, 0), wakes(9, 3, 0))
	looks(t, p, api.Pipe{Shut: true}, api.Pipe{})
	for _, task := range []int{5, 3, 9} {
		talks(t, p, task, 0, does(0, 0), recv(1))
	}
}
