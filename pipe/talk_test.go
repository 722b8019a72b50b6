package pipe_test

import (
	"math"
	"slices"
	"testing"

	"sluiceway/api"
	"sluiceway/pipe"
)

// 11.2: ErrState of a task that waits, whatever it asks for; any other one may talk.
func TestTalkState(t *testing.T) {
	for _, first := range [][]api.Talk{
		{recv(1)},
		{send(2, 5)},
		{send(2, 5), recv(1), recv(0)},
		{recv(0)},
		{send(0, 5)},
		{},
		nil,
	} {
		p := made(t, 1, 0, 1)
		talks(t, p, 7, 0, waits(), first...)
		want := p.Look()
		for _, l := range [][]api.Talk{
			{send(3, 1)},
			{other()},
			{other(), other()},
			{{What: 99}},
			{recv(99)},
			{},
			make([]api.Talk, api.MaxCases+1),
		} {
			talks(t, p, 7, 0, came{err: api.ErrState}, l...)
			looks(t, p, want...)
		}
		talks(t, p, 8, 0, does(0, 0), send(3, 1))
	}
}

// 11.2: ErrLimit of more than MaxCases, whatever is in them; so many may be.
func TestTalkLimit(t *testing.T) {
	p := made(t, 1)
	most := slices.Repeat([]api.Talk{recv(1)}, api.MaxCases)
	for _, l := range [][]api.Talk{
		append(slices.Clone(most), recv(1)),
		append(slices.Clone(most), other()),
		append(slices.Clone(most), other(), other()),
		append(slices.Clone(most), api.Talk{What: 99}),
		append(slices.Clone(most), recv(99)),
		make([]api.Talk, 3000),
	} {
		talks(t, p, 1, 0, came{err: api.ErrLimit}, l...)
		looks(t, p, api.Pipe{Size: 1})
	}
	most[api.MaxCases-1] = send(1, 3)
	talks(t, p, 1, 0, does(api.MaxCases-1, 0), most...)
	most[api.MaxCases-1] = send(1, 4)
	talks(t, p, 1, 5, does(5%(api.MaxCases-1), 3), most...)
}

// 11.2: each talk is looked at in their order, wholly: the first one that is wrong is told.
func TestTalkErrors(t *testing.T) {
	odd := api.Talk{What: 99}
	both := api.Talk{What: 99, Chan: 99}
	for _, c := range []struct {
		want api.Errno
		l    []api.Talk
	}{
		{api.ErrTwice, []api.Talk{other(), other()}},
		{api.ErrTwice, []api.Talk{other(), send(1, 0), recv(1), other()}},
		{api.ErrTwice, []api.Talk{other(), other(), odd, recv(99)}},
		{api.ErrTwice, []api.Talk{other(), {What: api.Else, Chan: 99}}},
		{api.ErrArg, []api.Talk{odd}},
		{api.ErrArg, []api.Talk{both}},
		{api.ErrArg, []api.Talk{{}}},
		{api.ErrArg, []api.Talk{recv(1), send(1, 0), odd}},
		{api.ErrArg, []api.Talk{other(), odd, other()}},
		{api.ErrArg, []api.Talk{odd, other(), other()}},
		{api.ErrArg, []api.Talk{odd, recv(99)}},
		{api.ErrRange, []api.Talk{recv(99)}},
		{api.ErrRange, []api.Talk{send(1, 0), recv(3)}},
		{api.ErrRange, []api.Talk{other(), send(3, 0)}},
		{api.ErrRange, []api.Talk{other(), send(3, 0), other()}},
		{api.ErrRange, []api.Talk{recv(3), odd}},
		{api.ErrRange, []api.Talk{recv(3), other(), other()}},
	} {
		p := made(t, 1, 0)
		talks(t, p, 0, 0, waits(), recv(2))
		want := p.Look()
		talks(t, p, 1, 0, came{err: c.want}, c.l...)
		looks(t, p, want...)
		talks(t, p, 1, 0, does(0, 0), other()) // it doesn't wait
	}
}

// 11.2: ErrArg of all that is none of Send, Recv, Else.
func TestTalkArg(t *testing.T) {
	p := made(t, 1)
	for what := -300; what < 300; what++ {
		if what != api.Send && what != api.Recv && what != api.Else {
			talks(t, p, 1, 0, came{err: api.ErrArg}, api.Talk{What: what, Chan: 1})
		}
	}
	for _, what := range far() {
		talks(t, p, 1, 0, came{err: api.ErrArg}, api.Talk{What: what})
	}
	looks(t, p, api.Pipe{Size: 1})
}

// 11.2: ErrRange of a channel that there isn't, and is not 0; of an Else no channel matters.
func TestTalkRange(t *testing.T) {
	p := made(t, 1, 1)
	for _, c := range append(far(), 3) {
		talks(t, p, 1, 0, came{err: api.ErrRange}, send(c, 1))
		talks(t, p, 1, 0, came{err: api.ErrRange}, recv(c))
		talks(t, p, 1, 0, does(0, 0), api.Talk{What: api.Else, Chan: c, N: 5})
		talks(t, p, 1, 0, does(1, 0), recv(1), api.Talk{What: api.Else, Chan: c})
	}
	talks(t, p, 1, 0, does(0, 0), api.Talk{What: api.Else, Chan: 2, N: 5})
	looks(t, p, api.Pipe{Size: 1}, api.Pipe{Size: 1})
}

// stands are channels, each of them number 1, at which tasks stand in some way; task 9 doesn't.
func stands(t *testing.T) map[string]*pipe.Pipes {
	t.Helper()
	return map[string]*pipe.Pipes{
		"nothing, no room":     made(t, 0),
		"nothing, room":        made(t, 2),
		"a number, room":       after(t, 2, send(1, 5)),
		"numbers, no room":     after(t, 2, send(1, 5), send(1, 6)),
		"one sends, no room":   after(t, 0, send(1, 5)),
		"one sends, full":      after(t, 1, send(1, 5), send(1, 6)),
		"one receives":         after(t, 2, recv(1)),
		"one receives, none":   after(t, 0, recv(1)),
		"shut, nothing":        shut(t, after(t, 2)),
		"shut, no room":        shut(t, after(t, 0)),
		"shut, a number, room": shut(t, after(t, 2, send(1, 5))),
		"shut, numbers":        shut(t, after(t, 2, send(1, 5), send(1, 6))),
	}
}

// after is a channel of that size at which tasks talked, each one once.
func after(t *testing.T, size int, l ...api.Talk) *pipe.Pipes {
	t.Helper()
	p := made(t, size)
	for task, talk := range l {
		if got := asked(p, task, 0, talk); got.err != api.OK {
			t.Fatalf("Talk(%v): %v", talk, got.err)
		}
	}
	return p
}

func shut(t *testing.T, p *pipe.Pipes) *pipe.Pipes {
	t.Helper()
	closes(t, p, 1, api.OK)
	return p
}

// 11.2, 11.3: what is FREE at each stand of a channel, and what comes of it; else the Else, or the task waits.
func TestFree(t *testing.T) {
	wrong := came{err: api.ErrFalse}
	for stand, want := range map[string]struct{ send, recv came }{
		"nothing, no room":     {waits(), waits()},
		"nothing, room":        {does(0, 0), waits()},
		"a number, room":       {does(0, 0), does(0, 5)},
		"numbers, no room":     {waits(), does(0, 5)},
		"one sends, no room":   {waits(), does(0, 5, wakes(0, 0, 0))},
		"one sends, full":      {waits(), does(0, 5, wakes(1, 0, 0))},
		"one receives":         {does(0, 0, wakes(0, 0, 8)), waits()},
		"one receives, none":   {does(0, 0, wakes(0, 0, 8)), waits()},
		"shut, nothing":        {wrong, does(0, 0)},
		"shut, no room":        {wrong, does(0, 0)},
		"shut, a number, room": {wrong, does(0, 5)},
		"shut, numbers":        {wrong, does(0, 5)},
	} {
		t.Run(stand, func(t *testing.T) {
			talks(t, stands(t)[stand], 9, 0, want.send, send(1, 8))
			talks(t, stands(t)[stand], 9, 0, want.recv, recv(1))
			if want.send.waits {
				want.send = does(1, 0)
			}
			talks(t, stands(t)[stand], 9, 0, want.send, send(1, 8), other())
			if want.recv.waits {
				want.recv = does(1, 0)
			}
			talks(t, stands(t)[stand], 9, 0, want.recv, recv(1), other())
		})
	}
}

// 11.2: what is of channel 0 is never FREE: the Else is done, or the task waits, in no row.
func TestFreeZero(t *testing.T) {
	for _, l := range [][]api.Talk{{send(0, 4)}, {recv(0)}, {recv(0), send(0, 4), recv(0)}, {}, nil} {
		for stand, p := range stands(t) {
			want := p.Look()
			talks(t, p, 9, 0, does(len(l), 0), append(slices.Clone(l), other())...)
			talks(t, p, 9, 0, waits(), l...)
			looks(t, p, want...)
			if stand == "nothing, room" {
				talks(t, p, 8, 0, does(1, 0), recv(0), send(1, 3))
			}
		}
	}
}

// 11.2: of those that are FREE, in their order, the one is done that draw stands for.
func TestDraw(t *testing.T) {
	l := []api.Talk{recv(1), send(2, 7), other(), recv(0), recv(3), send(4, 8)}
	free := []int{1, 4, 5}
	for draw, k := range map[int]int{
		0: 0, 1: 1, 2: 2, 3: 0, 4: 1, 5: 2, 6: 0, 300: 0, 301: 1,
		-1: 2, -2: 1, -3: 0, -4: 2, -5: 1, -6: 0, -300: 0, -301: 2,
		math.MaxInt: math.MaxInt % 3, math.MinInt: (math.MinInt%3 + 3) % 3,
	} {
		p := made(t, 1, 1, 1, 0)
		talks(t, p, 1, 0, does(0, 0), send(3, 9))
		talks(t, p, 2, 0, waits(), recv(4))
		want := []came{does(1, 0), does(4, 9), does(5, 0, wakes(2, 0, 8))}[k]
		if want.answer.Case != free[k] {
			t.Fatalf("the test is wrong: %v", want)
		}
		talks(t, p, 7, draw, want, l...)
	}
}

// 11.2: as many times added or taken off as needed, for each number of those that are FREE.
func TestDrawMany(t *testing.T) {
	for many := 1; many <= api.MaxCases; many++ {
		for _, draw := range []int{0, 1, 2, 3, 4, 5, 6, 7, 59, 60, 61, -1, -2, -3, -4, -5, -6, -7, -59, -60, -61} {
			p := &pipe.Pipes{}
			var l []api.Talk
			for k := range many {
				if _, err := p.Make(1); err != nil {
					t.Fatal(err)
				}
				l = append(l, send(k+1, 5))
			}
			k := draw
			for k < 0 {
				k += many
			}
			for k >= many {
				k -= many
			}
			talks(t, p, 1, draw, does(k, 0), l...)
			if n, _ := p.Len(k + 1); n != 1 {
				t.Errorf("draw %d of %d: channel %d has %d numbers", draw, many, k+1, n)
			}
		}
	}
}

// 11.2: the Else is done just if nothing is FREE, wherever it stands, whatever the draw.
func TestElse(t *testing.T) {
	for at := range 4 {
		for draw := -4; draw < 5; draw++ {
			l := slices.Insert([]api.Talk{recv(1), send(2, 4), recv(0)}, at, api.Talk{What: api.Else, N: 77})
			p := made(t, 1, 0)
			talks(t, p, 5, draw, does(at, 0), l...)
			looks(t, p, api.Pipe{Size: 1}, api.Pipe{})
			talks(t, p, 5, draw, does(0, 0), send(1, 6))
			talks(t, p, 5, draw, does(slices.Index(l, recv(1)), 6), l...)
		}
	}
}

// 11.2: a task that waits stands behind all others, in the row of each channel, in the order of what it asks for.
func TestWait(t *testing.T) {
	p := made(t, 0, 2)
	talks(t, p, 4, 0, waits(), recv(2), recv(1), recv(2))
	talks(t, p, 2, 0, waits(), recv(2))
	talks(t, p, 9, 0, waits(), recv(0), recv(1), recv(2), recv(1))
	looks(t, p,
		api.Pipe{Recvs: []api.Wait{{Task: 4, Case: 1}, {Task: 9, Case: 1}, {Task: 9, Case: 3}}},
		api.Pipe{Size: 2, Recvs: []api.Wait{{Task: 4}, {Task: 4, Case: 2}, {Task: 2}, {Task: 9, Case: 2}}})
	p = made(t, 0, 0)
	talks(t, p, 4, 0, waits(), send(1, 3), recv(2), send(1, 5))
	talks(t, p, 2, 0, waits(), send(1, 6), recv(2))
	looks(t, p,
		api.Pipe{Sends: []api.Wait{{Task: 4}, {Task: 4, Case: 2}, {Task: 2}}},
		api.Pipe{Recvs: []api.Wait{{Task: 4, Case: 1}, {Task: 2, Case: 1}}})
}

// 11.2, 11.3: a task may wait to send into a channel, and to receive from it; it doesn't meet itself, but others do.
func TestWaitBoth(t *testing.T) {
	both := []api.Talk{send(1, 3), recv(1)}
	stand := api.Pipe{Sends: []api.Wait{{Task: 4}}, Recvs: []api.Wait{{Task: 4, Case: 1}}}
	for draw, want := range []came{does(0, 0, wakes(4, 1, 3)), does(1, 3, wakes(4, 0, 0))} {
		p := made(t, 0)
		talks(t, p, 4, draw, waits(), both...)
		looks(t, p, stand)
		talks(t, p, 5, draw, want, both...)
		looks(t, p, api.Pipe{})
	}
	p := made(t, 0)
	talks(t, p, 4, 0, waits(), both...)
	talks(t, p, 5, 0, does(0, 0, wakes(4, 1, 8)), send(1, 8))
	talks(t, p, 4, 0, waits(), both...)
	talks(t, p, 5, 0, does(0, 3, wakes(4, 0, 0)), recv(1))
	looks(t, p, api.Pipe{})
}

// 11.3: into what is shut nothing is sent: ErrFalse, and nothing is changed, whoever could go on by another talk.
func TestSendShut(t *testing.T) {
	p := made(t, 2, 0)
	talks(t, p, 1, 0, does(0, 0), send(1, 4))
	talks(t, p, 2, 0, waits(), recv(2))
	closes(t, p, 1, api.OK)
	want := []api.Pipe{{Size: 2, Nums: []int{4}, Shut: true}, {Recvs: []api.Wait{{Task: 2}}}}
	looks(t, p, want...)
	l := []api.Talk{other(), send(2, 6), send(1, 5), recv(1)}
	talks(t, p, 3, 1, came{err: api.ErrFalse}, l...)
	looks(t, p, want...)
	talks(t, p, 3, 2, does(3, 4), l...)
	talks(t, p, 3, 0, does(1, 0, wakes(2, 0, 6)), l...)
}

// 11.3: the first task that waits to receive has the number; is there none, it lies behind the others.
func TestSend(t *testing.T) {
	p := made(t, 3, 0)
	talks(t, p, 1, 0, waits(), recv(2), recv(1))
	talks(t, p, 2, 0, waits(), recv(1))
	talks(t, p, 3, 0, waits(), recv(2))
	talks(t, p, 9, 0, does(0, 0, wakes(1, 1, 5)), send(1, 5))
	looks(t, p, api.Pipe{Size: 3, Recvs: []api.Wait{{Task: 2}}}, api.Pipe{Recvs: []api.Wait{{Task: 3}}})
	talks(t, p, 9, 0, does(0, 0, wakes(2, 0, 6)), send(1, 6))
	for n := 7; n < 10; n++ {
		talks(t, p, 9, 0, does(0, 0), send(1, n))
	}
	looks(t, p, api.Pipe{Size: 3, Nums: []int{7, 8, 9}}, api.Pipe{Recvs: []api.Wait{{Task: 3}}})
}

// 11.3: the first number comes out, and the one of the first task that waits to send is behind the others then.
func TestRecv(t *testing.T) {
	p := made(t, 2, 0)
	talks(t, p, 1, 0, does(0, 0), send(1, 10))
	talks(t, p, 1, 0, does(0, 0), send(1, 11))
	talks(t, p, 1, 0, waits(), recv(2), send(1, 12), send(1, 99))
	talks(t, p, 2, 0, waits(), send(1, 13))
	talks(t, p, 9, 0, does(0, 10, wakes(1, 1, 0)), recv(1))
	looks(t, p, api.Pipe{Size: 2, Nums: []int{11, 12}, Sends: []api.Wait{{Task: 2}}}, api.Pipe{})
	talks(t, p, 9, 0, does(0, 11, wakes(2, 0, 0)), recv(1))
	looks(t, p, api.Pipe{Size: 2, Nums: []int{12, 13}}, api.Pipe{})
	talks(t, p, 9, 0, does(0, 12), recv(1))
	talks(t, p, 9, 0, does(0, 13), recv(1))
	talks(t, p, 9, 0, waits(), recv(1))
}

// 11.3: without a number the one of the first task that waits to send is received.
func TestRecvFromTask(t *testing.T) {
	p := made(t, 0, 0)
	talks(t, p, 1, 0, waits(), recv(2), send(1, 12), send(1, 99))
	talks(t, p, 2, 0, waits(), send(1, 13))
	talks(t, p, 9, 0, does(0, 12, wakes(1, 1, 0)), recv(1))
	looks(t, p, api.Pipe{Sends: []api.Wait{{Task: 2}}}, api.Pipe{})
	talks(t, p, 9, 0, does(0, 13, wakes(2, 0, 0)), recv(1))
	looks(t, p, api.Pipe{}, api.Pipe{})
}

// 11.3: what is shut gives its numbers, then 0, as often as it is asked.
func TestRecvShut(t *testing.T) {
	p := made(t, 2)
	talks(t, p, 1, 0, does(0, 0), send(1, 10))
	talks(t, p, 1, 0, does(0, 0), send(1, -11))
	closes(t, p, 1, api.OK)
	for _, n := range []int{10, -11, 0, 0, 0} {
		talks(t, p, 2, 0, does(0, n), recv(1))
	}
	looks(t, p, api.Pipe{Size: 2, Shut: true})
}

// 11.3: a task that goes on waits in no row any more, and may talk again: behind all others.
func TestWake(t *testing.T) {
	p := made(t, 0, 0, 0)
	all := []api.Talk{recv(1), send(2, 6), recv(3), recv(1)}
	talks(t, p, 1, 0, waits(), all...)
	talks(t, p, 2, 0, waits(), all...)
	talks(t, p, 5, 0, does(0, 6, wakes(1, 1, 0)), recv(2))
	rest := []api.Pipe{
		{Recvs: []api.Wait{{Task: 2}, {Task: 2, Case: 3}}},
		{Sends: []api.Wait{{Task: 2, Case: 1}}},
		{Recvs: []api.Wait{{Task: 2, Case: 2}}},
	}
	looks(t, p, rest...)
	talks(t, p, 1, 0, waits(), recv(3), recv(1))
	rest[0].Recvs = append(rest[0].Recvs, api.Wait{Task: 1, Case: 1})
	rest[2].Recvs = append(rest[2].Recvs, api.Wait{Task: 1})
	looks(t, p, rest...)
	talks(t, p, 5, 0, does(0, 0, wakes(2, 0, 4)), send(1, 4))
	talks(t, p, 5, 0, does(0, 0, wakes(1, 1, 3)), send(1, 3))
	looks(t, p, api.Pipe{}, api.Pipe{}, api.Pipe{})
	talks(t, p, 5, 0, waits(), send(1, 4), send(3, 4), recv(2))
}

// 11.2, 11.3: numbers of 64 bits, and tasks of any number, are as all others.
func TestAnyNumbers(t *testing.T) {
	for _, task := range append(far(), 0) {
		for _, n := range append(far(), 0) {
			p := made(t, 0, 1)
			talks(t, p, task, 0, waits(), send(1, n))
			talks(t, p, task, 0, came{err: api.ErrState}, send(1, n))
			talks(t, p, 9, 0, does(0, n, wakes(task, 0, 0)), recv(1))
			talks(t, p, task, 0, waits(), recv(1))
			talks(t, p, 9, 0, does(0, 0, wakes(task, 0, n)), send(1, n))
			talks(t, p, task, 0, does(0, 0), send(2, n))
			talks(t, p, task, 0, does(0, n), recv(2))
		}
	}
}

// P4: what is handed in isn't written into, nor kept: a task that waits asks for what it asked for.
func TestListIsNotKept(t *testing.T) {
	p := made(t, 0, 0)
	whole := []api.Talk{send(1, 3), recv(2), send(2, 5), recv(1)}
	before := slices.Clone(whole)
	l := whole[:2]
	talks(t, p, 1, 0, waits(), l...)
	if !slices.Equal(whole, before) {
		t.Fatalf("Talk has written: %v", whole)
	}
	for k := range whole {
		whole[k] = send(2, 99)
	}
	looks(t, p, api.Pipe{Sends: []api.Wait{{Task: 1}}}, api.Pipe{Recvs: []api.Wait{{Task: 1, Case: 1}}})
	talks(t, p, 2, 0, does(0, 3, wakes(1, 0, 0)), recv(1))
	looks(t, p, api.Pipe{}, api.Pipe{})
}

// P4: what comes out is the caller's: who writes into it, or behind its length, changes nothing.
func TestAnswersAreFresh(t *testing.T) {
	p := made(t, 2, 0)
	talks(t, p, 1, 0, does(0, 0), send(1, 4))
	talks(t, p, 1, 0, waits(), send(2, 6))
	talks(t, p, 2, 0, waits(), send(2, 7))
	want := p.Look()
	spoil(p.Look())
	looks(t, p, want...)
	closes(t, p, 1, api.OK)
	talks(t, p, 3, 0, does(0, 4), recv(1))
	_, w, _, _ := p.Talk(3, []api.Talk{recv(2)}, 0)
	w[0].Task = 2
	talks(t, p, 3, 0, does(0, 7, wakes(2, 0, 0)), recv(2))

	p = made(t, 0, 0)
	talks(t, p, 1, 0, waits(), recv(1))
	talks(t, p, 2, 0, waits(), recv(2), recv(1))
	want = p.Look()
	spoil(p.Look())
	looks(t, p, want...)
	seen := p.Look()
	closes(t, p, 1, api.OK, wakes(1, 0, 0), wakes(2, 1, 0))
	if !slices.EqualFunc(seen, want, same) {
		t.Errorf("what was told has changed: %v; want %v", seen, want)
	}
}

// spoil writes into all that is told of channels, and behind each list's length.
func spoil(l []api.Pipe) {
	for k := range l {
		nums := l[k].Nums[:cap(l[k].Nums)]
		for j := range nums {
			nums[j] = 99
		}
		for _, row := range [][]api.Wait{l[k].Sends, l[k].Recvs} {
			row = row[:cap(row)]
			for j := range row {
				row[j] = api.Wait{Task: 99, Case: 99}
			}
		}
		l[k] = api.Pipe{}
	}
}
