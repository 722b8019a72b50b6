package room_test

import (
	"math"
	"slices"
	"testing"

	"sluiceway/api"
	"sluiceway/room"
)

// asks is a room in which task 0 has asked for these, of which the last one is looked at: nothing else was asked of its Doer since.
func asks(t *testing.T, l ...api.Ask) (*room.Room, *actors) {
	t.Helper()
	r, a := begins(t, l)
	takes(t, r, make([]int, len(l)-1)...)
	a.calls = nil
	takes(t, r, 0)
	return r, a
}

// ends says that by the last one of these all ends so; task 0 stays Ready, is told nothing, and all else is as it was.
func ends(t *testing.T, end int, l ...api.Ask) {
	t.Helper()
	before, _ := begins(t, l)
	takes(t, before, make([]int, len(l)-1)...)
	want, events := before.Hall(), before.Events()
	want.End = end
	r, a := asks(t, l...)
	calls(t, a, next(0))
	looks(t, r, want)
	if !slices.Equal(r.Events(), events) {
		t.Errorf("Events = %v; want %v", r.Events(), events)
	}
	over(t, r, a, end)
}

// 12.3: AskEnd: a task has ended; of task 0: all is Done, whoever could go on.
func TestAskEnd(t *testing.T) {
	r, a := begins(t, []api.Ask{ask(api.AskGo, 1), ask(api.AskGo, 1)}, nil, nil)
	takes(t, r, 0, 0)
	a.calls = nil
	takes(t, r, 1)
	calls(t, a, next(1))
	looks(t, r, api.Hall{Tasks: []int{api.Ready, api.Ended, api.Ready}})
	takes(t, r, 0)
	calls(t, a, next(0))
	looks(t, r, api.Hall{End: api.Done, Tasks: []int{api.Ended, api.Ended, api.Ready}})
	over(t, r, a, api.Done)

	r, a = begins(t)
	takes(t, r, 0)
	looks(t, r, api.Hall{End: api.Done, Tasks: []int{api.Ended}})
	over(t, r, a, api.Done)
}

// 12.3: AskPause: nothing, whatever else it tells.
func TestAskPause(t *testing.T) {
	for _, l := range []api.Ask{pause(), {What: api.AskPause, N: 5, Args: []int{1, 2}, Cases: []api.Talk{other(), other()}}} {
		r, a := asks(t, l)
		calls(t, a, next(0))
		looks(t, r, api.Hall{Tasks: []int{api.Ready}})
		choices(t, r, 1)
	}
}

// 12.3: AskFault: all ends by N, if that is from Zero to Full; else it is Odd.
func TestAskFault(t *testing.T) {
	for n := -300; n < 300; n++ {
		want := api.Odd
		if n >= api.Zero && n <= api.Full {
			want = n
		}
		ends(t, want, ask(api.AskFault, n))
	}
	for _, n := range far() {
		ends(t, api.Odd, ask(api.AskFault, n))
	}
	ends(t, api.Deep, ask(api.AskPrint, 1), ask(api.AskStore, 0, 4), ask(api.AskFault, api.Deep))
}

// 12.3: AskGo: a new task begins, of function N, of Args, and is Ready; then who asked is GIVEN.
func TestAskGo(t *testing.T) {
	for _, fn := range append(far(), 0, 1, 3) {
		r, a := asks(t, pause(), ask(api.AskGo, fn, 4, -5, math.MinInt))
		calls(t, a, next(0), began(fn, 4, -5, math.MinInt), given(0, 0))
		looks(t, r, api.Hall{Tasks: []int{api.Ready, api.Ready}})
		events(t, r, api.Event{Task: 0, What: api.EvFork, Obj: 1})
	}
	r, a := asks(t, ask(api.AskGo, 2))
	calls(t, a, next(0), began(2), given(0, 0))
	choices(t, r, 2)
}

// 12.3: AskGo: MaxTasks tasks are not Ended: it is Full; those that have ended don't count, those that wait or sleep do.
func TestAskGoFull(t *testing.T) {
	goes := slices.Repeat([]api.Ask{ask(api.AskGo, 1)}, api.MaxTasks+2)
	for name, fn := range map[string][]api.Ask{
		"Ready":   slices.Repeat([]api.Ask{pause()}, api.MaxTasks),
		"Blocked": {talk(recv(0))},
		"Asleep":  {ask(api.AskSleep, 9)},
	} {
		r, a := begins(t, goes, fn)
		for range api.MaxTasks - 1 {
			takes(t, r, 0, 1) // the first one that has begun, and may, does what it does
		}
		a.calls = nil
		before := r.Hall()
		takes(t, r, 0)
		calls(t, a, next(0))
		before.End = api.Full
		looks(t, r, before)
		if n := len(r.Events()); n != api.MaxTasks-1 {
			t.Errorf("%s: there are %d events", name, n)
		}
		over(t, r, a, api.Full)
	}

	r, a := begins(t, goes)
	takes(t, r, make([]int, api.MaxTasks-1)...)
	choices(t, r, api.MaxTasks)
	takes(t, r, 7) // task 7 ends
	a.calls = nil
	takes(t, r, 0)
	calls(t, a, next(0), began(1), given(0, 0))
	choices(t, r, api.MaxTasks)
	takes(t, r, -1) // the new one ends, which is numbered behind all others
	calls(t, a, next(api.MaxTasks))
	takes(t, r, 0, 0)
	over(t, r, a, api.Full)
	if n := len(r.Hall().Tasks); n != api.MaxTasks+2 {
		t.Errorf("there are %d tasks", n)
	}
}

// keeper is a Doer that keeps what Begin hands it, and hands out the same list each time.
type keeper struct {
	list []int
	kept [][]int
}

func (k *keeper) Begin(_ int, args []int) { k.kept = append(k.kept, args) }

func (k *keeper) Next(int) api.Ask { return api.Ask{What: api.AskGo, Args: k.list[:2]} }

func (k *keeper) Give(int, api.Answer) {}

// 12.3: what a task has in Args is handed on as memory of its own.
func TestArgsAreFresh(t *testing.T) {
	k := &keeper{list: []int{1, 2, 3}}
	r, err := room.New(k, 0)
	if err != nil {
		t.Fatal(err)
	}
	takes(t, r, 0)
	k.list[0], k.list[2] = 8, 9
	takes(t, r, 0)
	spoil(k.kept[2], 7)
	if !slices.Equal(k.kept[1], []int{1, 2}) || !slices.Equal(k.list, []int{8, 2, 9}) {
		t.Errorf("the first one has %v; the list is %v", k.kept[1], k.list)
	}
}

// P4: the cases a task asks by aren't kept, nor written into.
func TestCasesAreNotKept(t *testing.T) {
	l := []api.Talk{recv(1), send(1, 5), send(1, 6)}
	r, a := begins(t, []api.Ask{ask(api.AskMake, 0), ask(api.AskGo, 1), talk(l[:2]...)}, []api.Ask{talk(recv(1))})
	takes(t, r, 0, 0, 0)
	if !slices.Equal(l, []api.Talk{recv(1), send(1, 5), send(1, 6)}) {
		t.Errorf("the list was written into: %v", l)
	}
	for k := range l {
		l[k] = send(1, 99)
	}
	a.calls = nil
	takes(t, r, 0)
	calls(t, a, next(1), gave(1, 0, 5), gave(0, 1, 0))
}

// 12.3: AskTalk: into what is shut nothing is sent: Sent; any other error: Odd.
func TestAskTalkErrors(t *testing.T) {
	made := ask(api.AskMake, 1)
	ends(t, api.Sent, made, ask(api.AskClose, 1), talk(send(1, 4)))
	ends(t, api.Sent, made, ask(api.AskClose, 1), talk(recv(0), send(1, 4), other()))
	for _, l := range [][]api.Talk{
		{other(), other()},
		{{What: 99, Chan: 1}},
		{{}},
		{recv(2)},
		{send(2, 4)},
		{recv(-1)},
		{recv(1), other(), {What: api.Send, Chan: math.MaxInt}},
		make([]api.Talk, api.MaxCases+1),
		slices.Repeat([]api.Talk{recv(1)}, api.MaxCases+1),
	} {
		ends(t, api.Odd, made, talk(l...))
		ends(t, api.Odd, made, ask(api.AskClose, 1), talk(l...))
	}
}

// 12.3: AskTalk: a task that waits is Blocked, and GIVEN nothing.
func TestAskTalkWaits(t *testing.T) {
	for _, l := range [][]api.Talk{nil, {recv(0)}, {send(0, 4)}, {recv(1)}, {send(1, 4), recv(1), recv(0)}} {
		r, a := begins(t, []api.Ask{ask(api.AskMake, 0), ask(api.AskGo, 1), talk(l...)})
		takes(t, r, 0, 0)
		a.calls = nil
		takes(t, r, 0)
		calls(t, a, next(0))
		h := r.Hall()
		if h.End != api.Going || !slices.Equal(h.Tasks, []int{api.Blocked, api.Ready}) {
			t.Errorf("%v: Hall = %v", l, h)
		}
		choices(t, r, 1)
	}
}

// 12.3: AskTalk: a task that needn't wait is GIVEN which one was done, and what it received.
func TestAskTalkDoes(t *testing.T) {
	made := []api.Ask{ask(api.AskMake, 2), talk(send(1, 7))}
	for _, c := range []struct {
		want call
		nums []int
		l    []api.Talk
	}{
		{gave(0, 0, 0), []int{7, 4}, []api.Talk{send(1, 4)}},
		{gave(0, 0, 7), nil, []api.Talk{recv(1)}},
		{gave(0, 2, 7), nil, []api.Talk{other(), recv(0), recv(1)}},
		{gave(0, 1, 0), []int{7}, []api.Talk{recv(0), other()}},
	} {
		r, a := asks(t, append(slices.Clone(made), talk(c.l...))...)
		calls(t, a, next(0), c.want)
		looks(t, r, api.Hall{Made: 1, Tasks: []int{api.Ready}, Pipes: []api.Pipe{{Size: 2, Nums: c.nums}}})
	}
}

// 12.3: AskTalk: the Pick's Draw tells which one of several is done.
func TestAskTalkDraw(t *testing.T) {
	for draw := -9; draw < 10; draw++ {
		r, a := begins(t, []api.Ask{ask(api.AskMake, 1), ask(api.AskMake, 1), talk(recv(1), send(2, 7), recv(0), send(1, 8), other())})
		takes(t, r, 0, 0)
		a.calls = nil
		if !r.Turn(api.Pick{Who: 5, Draw: draw}) {
			t.Fatal("no turn")
		}
		k := 1
		if draw%2 != 0 {
			k = 3
		}
		calls(t, a, next(0), gave(0, k, 0))
	}
}

// 12.3: AskTalk: who asked is GIVEN ahead of who goes on, which is Ready then, wherever it waited.
func TestAskTalkWakes(t *testing.T) {
	meet := func(waits, comes api.Ask) (*room.Room, *actors) {
		r, a := begins(t, []api.Ask{ask(api.AskMake, 0), ask(api.AskGo, 1), ask(api.AskGo, 2), pause()}, []api.Ask{waits}, []api.Ask{comes})
		takes(t, r, 0, 0, 0, 1)
		a.calls = nil
		takes(t, r, 1)
		looks(t, r, api.Hall{Made: 1, Tasks: []int{api.Ready, api.Ready, api.Ready}, Pipes: []api.Pipe{{}}})
		return r, a
	}
	r, a := meet(talk(recv(0), recv(1), send(1, 3)), talk(send(0, 1), send(1, 8)))
	calls(t, a, next(2), gave(2, 1, 0), gave(1, 1, 8))
	events(t, r, api.Event{What: api.EvFork, Obj: 1}, api.Event{What: api.EvFork, Obj: 2},
		api.Event{Task: 2, What: api.EvSend, Obj: 1}, api.Event{Task: 1, What: api.EvRecv, Obj: 1})
	_, a = meet(talk(recv(1), recv(0), send(1, 3)), talk(recv(0), recv(1)))
	calls(t, a, next(2), gave(2, 1, 3), gave(1, 2, 0))
}

// 12.3: AskClose: what is shut, and nil: Shut; what isn't there: Odd; into which a task waits to send: Sent.
func TestAskCloseErrors(t *testing.T) {
	ends(t, api.Shut, ask(api.AskClose, 0))
	ends(t, api.Shut, ask(api.AskMake, 1), ask(api.AskClose, 1), ask(api.AskClose, 1))
	ends(t, api.Shut, ask(api.AskMake, 1), talk(send(1, 4)), ask(api.AskClose, 1), ask(api.AskClose, 1))
	for _, c := range append(far(), 2) {
		ends(t, api.Odd, ask(api.AskMake, 1), ask(api.AskClose, c))
	}
	for _, first := range []api.Talk{send(1, 4), recv(2)} {
		r, a := begins(t, []api.Ask{ask(api.AskMake, 0), ask(api.AskMake, 0), ask(api.AskGo, 1), pause(), ask(api.AskClose, 1)}, []api.Ask{talk(first, send(1, 5))})
		takes(t, r, 0, 0, 0, 1, 0)
		before := r.Hall()
		a.calls = nil
		takes(t, r, 0)
		calls(t, a, next(0))
		before.End = api.Sent
		looks(t, r, before)
		events(t, r, api.Event{What: api.EvFork, Obj: 1})
		over(t, r, a, api.Sent)
	}
}

// 12.3: AskClose: who asked is GIVEN; then those that wait to receive, in their order, which are Ready then.
func TestAskClose(t *testing.T) {
	goes := func(fn int) api.Ask { return ask(api.AskGo, fn) }
	r, a := begins(t,
		[]api.Ask{ask(api.AskMake, 2), ask(api.AskMake, 0), goes(1), goes(2), goes(1), pause(), ask(api.AskClose, 1)},
		[]api.Ask{talk(recv(1), recv(1))}, []api.Ask{talk(recv(2), recv(1), recv(2))})
	takes(t, r, 0, 0, 0, 0, 0, 3, 1, 1, 0) // 3 waits ahead of 1, and 1 ahead of 2
	a.calls = nil
	takes(t, r, 0)
	calls(t, a, next(0), given(0, 0), gave(3, 0, 0), gave(1, 0, 0), gave(2, 1, 0))
	looks(t, r, api.Hall{
		Made: 2, Tasks: []int{api.Ready, api.Ready, api.Ready, api.Ready},
		Pipes: []api.Pipe{{Size: 2, Shut: true}, {}},
	})
	r, a = asks(t, ask(api.AskMake, 0), ask(api.AskClose, 1))
	calls(t, a, next(0), given(0, 0))
	looks(t, r, api.Hall{Made: 1, Tasks: []int{api.Ready}, Pipes: []api.Pipe{{Shut: true}}})
}

// 12.3: AskLen: GIVEN how many numbers there are; what isn't there: Odd.
func TestAskLen(t *testing.T) {
	made := []api.Ask{ask(api.AskMake, 3), ask(api.AskMake, 3), talk(send(2, 8)), talk(send(2, 9))}
	for c, n := range []int{0, 0, 2} {
		r, a := asks(t, append(slices.Clone(made), ask(api.AskLen, c))...)
		calls(t, a, next(0), given(0, n))
		looks(t, r, api.Hall{Made: 2, Tasks: []int{api.Ready}, Pipes: []api.Pipe{{Size: 3}, {Size: 3, Nums: []int{8, 9}}}})
	}
	for _, c := range append(far(), 3) {
		ends(t, api.Odd, append(slices.Clone(made), ask(api.AskLen, c))...)
	}
}

// 12.3: AskMake: GIVEN the new channel's number; of such a size none may be: Size; MaxChans were made: Full.
func TestAskMake(t *testing.T) {
	for size := range api.MaxCap + 1 {
		r, a := asks(t, ask(api.AskMake, 0), ask(api.AskMake, size))
		calls(t, a, next(0), given(0, 2))
		looks(t, r, api.Hall{Made: 2, Tasks: []int{api.Ready}, Pipes: []api.Pipe{{}, {Size: size}}})
	}
	most := slices.Repeat([]api.Ask{ask(api.AskMake, 1)}, api.MaxChans)
	for _, size := range append(far(), api.MaxCap+1) {
		ends(t, api.Size, ask(api.AskMake, size))
		ends(t, api.Size, append(slices.Clone(most), ask(api.AskMake, size))...)
	}
	ends(t, api.Full, append(slices.Clone(most), ask(api.AskMake, 0))...)
	_, a := asks(t, most...)
	calls(t, a, next(0), given(0, api.MaxChans))
}

// 12.3: AskPrint: N is told, behind all others, whoever tells it; were MaxOut told: Full.
func TestAskPrint(t *testing.T) {
	var l []api.Ask
	var want []int
	for k := range api.MaxOut {
		n := k * k * 9
		if k < len(far()) {
			n = far()[k]
		}
		want = append(want, n)
		l = append(l, ask(api.AskPrint, n))
		r, a := asks(t, l...)
		calls(t, a, next(0), given(0, 0))
		looks(t, r, api.Hall{Tasks: []int{api.Ready}, Out: want})
	}
	ends(t, api.Full, append(l, ask(api.AskPrint, 0))...)

	r, _ := begins(t, []api.Ask{ask(api.AskGo, 1), ask(api.AskPrint, 1), ask(api.AskPrint, 2)}, []api.Ask{ask(api.AskPrint, 3)})
	takes(t, r, 0, 0, 1, 0)
	looks(t, r, api.Hall{Tasks: []int{api.Ready, api.Ready}, Out: []int{1, 3, 2}})
}

// 12.3: AskSleep: for 0 and below: GIVEN; else the task is Asleep, up to Now and N, or MaxSleep, if N is above it.
func TestAskSleep(t *testing.T) {
	for _, n := range []int{0, -1, -api.MaxSleep, math.MinInt} {
		r, a := asks(t, ask(api.AskSleep, n))
		calls(t, a, next(0), given(0, 0))
		looks(t, r, api.Hall{Tasks: []int{api.Ready}})
		choices(t, r, 1)
	}
	for n, up := range map[int]int{
		1: 1, 2: 2, 999: 999, api.MaxSleep: api.MaxSleep,
		api.MaxSleep + 1: api.MaxSleep, 5000: api.MaxSleep, math.MaxInt: api.MaxSleep,
	} {
		r, a := asks(t, ask(api.AskSleep, n), ask(api.AskSleep, 7), ask(api.AskSleep, n))
		calls(t, a, next(0)) // the third turn: it has slept once, and woke, and sleeps again
		looks(t, r, api.Hall{Now: up, Tasks: []int{api.Asleep}, Wakes: []int{up + 7}})
		choices(t, r, 1)
		takes(t, r, 0)
		calls(t, a, given(0, 0))
		looks(t, r, api.Hall{Now: up + 7, Tasks: []int{api.Ready}})
		takes(t, r, 0)
		looks(t, r, api.Hall{Now: up + 7, Tasks: []int{api.Asleep}, Wakes: []int{2*up + 7}})
	}
}

// 12.3: AskStore: a global is what is in Args; AskLoad: GIVEN what it is.
func TestAskGlobals(t *testing.T) {
	for _, n := range append(far(), 0, 5) {
		l := []api.Ask{ask(api.AskStore, 1, n), ask(api.AskStore, 0, 77), ask(api.AskLoad, 1)}
		r, a := asks(t, l[:1]...)
		calls(t, a, next(0), given(0, 0))
		looks(t, r, api.Hall{Tasks: []int{api.Ready}, Globals: []int{0, n}})
		r, a = asks(t, l...)
		calls(t, a, next(0), given(0, n))
		looks(t, r, api.Hall{Tasks: []int{api.Ready}, Globals: []int{77, n}})
		_, a = asks(t, ask(api.AskStore, 1, n), ask(api.AskLoad, 0))
		calls(t, a, next(0), given(0, 0))
	}
	_, a := asks(t, ask(api.AskStore, 1, 4), ask(api.AskLoad, 1, 5, 6)) // Args are AskStore's alone
	calls(t, a, next(0), given(0, 4))
}

// 12.3: AskLoad, AskStore: there is no such global, or Args has none, or several: Odd.
func TestAskGlobalsOdd(t *testing.T) {
	for _, n := range append(far(), 2, api.MaxGlobals) {
		ends(t, api.Odd, ask(api.AskLoad, n))
		ends(t, api.Odd, ask(api.AskStore, n, 4))
	}
	ends(t, api.Odd, ask(api.AskStore, 1))
	ends(t, api.Odd, ask(api.AskStore, 1, 4, 5))
	ends(t, api.Odd, ask(api.AskStore, 1, 4, 5, 6))
	r, err := room.New(&actors{fns: [][]api.Ask{{ask(api.AskLoad, 0)}}}, 0)
	if err != nil {
		t.Fatal(err)
	}
	takes(t, r, 0)
	looks(t, r, api.Hall{End: api.Odd, Tasks: []int{api.Ready}, Globals: []int{}})
}

// 12.3: any other thing that is asked for: Odd.
func TestAskOther(t *testing.T) {
	for what := -300; what < 300; what++ {
		if what < api.AskEnd || what > api.AskMake {
			ends(t, api.Odd, ask(api.AskPrint, 1), api.Ask{What: what, N: 1, Args: []int{1}, Cases: []api.Talk{other()}})
		}
	}
	for _, what := range far() {
		ends(t, api.Odd, ask(what, 0))
	}
}

// 12.3: one that is not task 0 ends all as task 0 does.
func TestAskOddElsewhere(t *testing.T) {
	for end, l := range map[int]api.Ask{
		api.Odd: ask(0, 0), api.Zero: ask(api.AskFault, api.Zero), api.Size: ask(api.AskMake, -1),
		api.Shut: ask(api.AskClose, 0),
	} {
		r, a := begins(t, []api.Ask{ask(api.AskGo, 1), pause()}, []api.Ask{l})
		takes(t, r, 0, 1)
		looks(t, r, api.Hall{End: end, Tasks: []int{api.Ready, api.Ready}})
		over(t, r, a, end)
	}
}
