package room_test

import (
	"math"
	"slices"
	"testing"

	"sluiceway/api"
	"sluiceway/room"
)

// call is what a Doer was asked: Begin (of function N, of Args), Next or Give (of task N).
type call struct {
	what   string
	n      int
	args   []int
	answer api.Answer
}

func began(fn int, args ...int) call { return call{what: "Begin", n: fn, args: args} }

func next(task int) call { return call{what: "Next", n: task} }

func given(task, number int) call { return gave(task, 0, number) }

func gave(task, k, number int) call {
	return call{what: "Give", n: task, answer: api.Answer{Case: k, N: number}}
}

func sameCall(a, b call) bool {
	return a.what == b.what && a.n == b.n && slices.Equal(a.args, b.args) && a.answer == b.answer
}

// actors do what functions ask for, one behind the other, and AskEnd behind that.
type actors struct {
	fns   [][]api.Ask
	does  []int // each task's function
	at    []int // how many things each task has asked for
	calls []call
}

func (a *actors) Begin(fn int, args []int) {
	a.does = append(a.does, fn)
	a.at = append(a.at, 0)
	a.calls = append(a.calls, began(fn, args...))
}

func (a *actors) Next(task int) api.Ask {
	a.calls = append(a.calls, next(task))
	fn, at := a.does[task], a.at[task]
	a.at[task]++
	if fn >= len(a.fns) || at >= len(a.fns[fn]) {
		return api.Ask{What: api.AskEnd}
	}
	return a.fns[fn][at]
}

func (a *actors) Give(task int, answer api.Answer) {
	a.calls = append(a.calls, call{what: "Give", n: task, answer: answer})
}

// ask is what a task asks for.
func ask(what, n int, args ...int) api.Ask { return api.Ask{What: what, N: n, Args: args} }

func talk(l ...api.Talk) api.Ask { return api.Ask{What: api.AskTalk, Cases: l} }

func send(c, n int) api.Talk { return api.Talk{What: api.Send, Chan: c, N: n} }

func recv(c int) api.Talk { return api.Talk{What: api.Recv, Chan: c} }

func other() api.Talk { return api.Talk{What: api.Else} }

// pause is a turn in which nothing comes of what is asked for.
func pause() api.Ask { return ask(api.AskPause, 0) }

// far are numbers of which there is never a thing.
func far() []int {
	return []int{-1, -2, math.MinInt, math.MaxInt, 1 << 32, -1 << 32, 1 << 16}
}

// begins is a room of two globals, with these functions.
func begins(t *testing.T, fns ...[]api.Ask) (*room.Room, *actors) {
	t.Helper()
	a := &actors{fns: fns}
	r, err := room.New(a, 2)
	if err != nil {
		t.Fatal(err)
	}
	return r, a
}

// takes lets turns be taken, one by each of these, all of which there must be.
func takes(t *testing.T, r *room.Room, who ...int) {
	t.Helper()
	for k, w := range who {
		if !r.Turn(api.Pick{Who: w}) {
			t.Fatalf("turn %d (by %d) can't be taken: %v", k, w, r.Hall())
		}
	}
}

// calls looks at what a Doer was asked since it was looked at last.
func calls(t *testing.T, a *actors, want ...call) {
	t.Helper()
	if !slices.EqualFunc(a.calls, want, sameCall) {
		t.Errorf("the Doer was asked %v; want %v", a.calls, want)
	}
	a.calls = nil
}

// sameHall tells whether all that is to be seen is the same, empty lists being nil or not.
func sameHall(a, b api.Hall) bool {
	return a.End == b.End && a.Now == b.Now && a.Made == b.Made &&
		slices.Equal(a.Tasks, b.Tasks) && slices.Equal(a.Wakes, b.Wakes) &&
		slices.Equal(a.Globals, b.Globals) && slices.EqualFunc(a.Pipes, b.Pipes, samePipe) && slices.Equal(a.Out, b.Out)
}

func samePipe(a, b api.Pipe) bool {
	return a.Size == b.Size && slices.Equal(a.Nums, b.Nums) && a.Shut == b.Shut &&
		slices.Equal(a.Sends, b.Sends) && slices.Equal(a.Recvs, b.Recvs)
}

// looks looks at all that is to be seen. Globals, Wakes that are told as nil are as many noughts as there must be.
func looks(t *testing.T, r *room.Room, want api.Hall) {
	t.Helper()
	if want.Globals == nil {
		want.Globals = []int{0, 0}
	}
	if want.Wakes == nil {
		want.Wakes = make([]int, len(want.Tasks))
	}
	if got := r.Hall(); !sameHall(got, want) {
		t.Errorf("Hall = %v; want %v", got, want)
	}
}

// choices looks at how many may take the next turn.
func choices(t *testing.T, r *room.Room, want int) {
	t.Helper()
	if got := r.Choices(); got != want {
		t.Errorf("Choices = %d; want %d", got, want)
	}
}

// over says that all has ended so: no turn is taken, and none does anything.
func over(t *testing.T, r *room.Room, a *actors, end int) {
	t.Helper()
	before, events := r.Hall(), r.Events()
	if before.End != end {
		t.Errorf("End = %d; want %d", before.End, end)
	}
	a.calls = nil
	choices(t, r, 0)
	for _, who := range append(far(), 0, 1) {
		if r.Turn(api.Pick{Who: who}) {
			t.Errorf("a turn is taken by %d, when all has ended", who)
		}
	}
	if n := r.Play([]api.Pick{{}, {Who: 1}}); n != 0 {
		t.Errorf("Play = %d, when all has ended", n)
	}
	looks(t, r, before)
	if !slices.Equal(r.Events(), events) {
		t.Errorf("Events = %v; want %v", r.Events(), events)
	}
	calls(t, a)
}

// 12.1: task 0 begins, of function 0, of nothing; there is nothing else, but globals.
func TestNew(t *testing.T) {
	for globals := range api.MaxGlobals + 1 {
		a := &actors{}
		r, err := room.New(a, globals)
		if err != nil {
			t.Fatalf("New of %d globals: %v", globals, err)
		}
		calls(t, a, began(0))
		looks(t, r, api.Hall{End: api.Going, Tasks: []int{api.Ready}, Globals: make([]int, globals)})
		choices(t, r, 1)
		if l := r.Events(); len(l) > 0 {
			t.Errorf("Events = %v at first", l)
		}
		calls(t, a)
	}
}

// 12.1: ErrArg ahead of ErrRange; nothing begins then, and there is no room.
func TestNewErrors(t *testing.T) {
	for _, globals := range append(far(), 0, 3, api.MaxGlobals, api.MaxGlobals+1) {
		if r, err := room.New(nil, globals); r != nil || api.Tell(err) != api.ErrArg {
			t.Errorf("New(nil, %d) = %v, %v", globals, r, err)
		}
	}
	for _, globals := range append(far(), api.MaxGlobals+1) {
		a := &actors{}
		if r, err := room.New(a, globals); r != nil || api.Tell(err) != api.ErrRange {
			t.Errorf("New(.., %d) = %v, %v", globals, r, err)
		}
		calls(t, a)
	}
}

// P1: nobody is in a room's zero value, and in what is embedded in another thing's.
func TestZero(t *testing.T) {
	var holds struct{ *room.Room }
	for _, r := range []*room.Room{{}, holds.Room} {
		choices(t, r, 0)
		if r.Turn(api.Pick{}) || r.Play([]api.Pick{{}, {}}) != 0 {
			t.Error("a turn is taken, where nobody is")
		}
		if h := r.Hall(); !sameHall(h, api.Hall{}) {
			t.Errorf("Hall = %v, where nobody is", h)
		}
		if l := r.Events(); len(l) > 0 {
			t.Errorf("Events = %v, where nobody is", l)
		}
	}
}

// panics is a Doer that panics at what it says, as often as it is asked.
type panics struct{ begin, next, give bool }

func (p *panics) Begin(int, []int) {
	if p.begin {
		panic("begin")
	}
}

func (p *panics) Next(int) api.Ask {
	if p.next {
		panic(nil)
	}
	return ask(api.AskGo, 1)
}

func (p *panics) Give(int, api.Answer) {
	if p.give {
		panic(api.ErrArg)
	}
}

// P1: whatever Doer is handed in, nothing panics. One that panics has begun what it was to begin, was told what it was told, and asks for nothing that there is.
func TestDoerPanics(t *testing.T) {
	for _, d := range []room.Doer{&panics{begin: true}, &panics{give: true}, &panics{begin: true, give: true}} {
		r, err := room.New(d, 0)
		if err != nil {
			t.Fatal(err)
		}
		takes(t, r, 0, 1)
		looks(t, r, api.Hall{Tasks: []int{api.Ready, api.Ready, api.Ready}, Globals: []int{}})
	}
	for _, d := range []room.Doer{&panics{next: true}, (*panics)(nil), (*actors)(nil)} {
		r, err := room.New(d, 0)
		if err != nil {
			t.Fatal(err)
		}
		takes(t, r, 0)
		looks(t, r, api.Hall{End: api.Odd, Tasks: []int{api.Ready}, Globals: []int{}})
		choices(t, r, 0)
	}
}

// 12.2: as many choices as tasks are Ready, and one more, if any is Asleep; 0, if all has ended.
func TestChoices(t *testing.T) {
	goes := func(fn int) api.Ask { return ask(api.AskGo, fn) }
	sleeps := []api.Ask{ask(api.AskSleep, 5)}
	waits := []api.Ask{talk(recv(0))}
	r, a := begins(t, []api.Ask{goes(1), goes(1), goes(2), goes(3), goes(4), pause(), talk(recv(0))}, sleeps, waits, nil, []api.Ask{pause()})
	for k := range 5 {
		choices(t, r, k+1)
		takes(t, r, 0)
	}
	choices(t, r, 6)
	takes(t, r, 5) // a pause
	choices(t, r, 6)
	for _, want := range []int{6, 5, 4, 3} { // two sleep, one waits, one ends
		takes(t, r, 1)
		choices(t, r, want)
	}
	takes(t, r, 0, 0) // a pause, and the wait
	choices(t, r, 2)
	looks(t, r, api.Hall{Tasks: []int{api.Blocked, api.Asleep, api.Asleep, api.Blocked, api.Ended, api.Ready}, Wakes: []int{0, 5, 5, 0, 0, 0}})
	takes(t, r, 0) // the end of the last one that is Ready
	choices(t, r, 1)
	takes(t, r, 77) // the clock
	choices(t, r, 2)
	takes(t, r, 1, 0)
	over(t, r, a, api.Stuck)

	r, a = begins(t, []api.Ask{goes(1), goes(1), pause()}, sleeps)
	takes(t, r, 0, 0, 2)
	choices(t, r, 3)
	takes(t, r, 0, 0)
	over(t, r, a, api.Done)
	looks(t, r, api.Hall{End: api.Done, Tasks: []int{api.Ended, api.Ready, api.Asleep}, Wakes: []int{0, 0, 5}})
}

// crowd is a room in which tasks 1 and 4 are Ready, 0 and 3 wait, 2 has ended, and 5 sleeps.
func crowd(t *testing.T) (*room.Room, *actors) {
	t.Helper()
	waits := []api.Ask{talk(recv(0))}
	pauses := slices.Repeat([]api.Ask{pause()}, 9)
	var goes []api.Ask
	for _, fn := range []int{2, 3, 1, 2, 4} {
		goes = append(goes, ask(api.AskGo, fn))
	}
	r, a := begins(t, append(goes, waits[0]), waits, pauses, nil, []api.Ask{ask(api.AskSleep, 30)})
	takes(t, r, 0, 0, 0, 0, 0, 0, 1, 1, 2)
	looks(t, r, api.Hall{
		Tasks: []int{api.Blocked, api.Ready, api.Ended, api.Blocked, api.Ready, api.Asleep},
		Wakes: []int{0, 0, 0, 0, 0, 30},
	})
	a.calls = nil
	return r, a
}

// 12.2: Who stands for one of the tasks that are Ready, rising, and of the clock behind them, as many times added or taken off as needed.
func TestWho(t *testing.T) {
	r, _ := crowd(t)
	choices(t, r, 3)
	for who, k := range map[int]int{
		0: 0, 1: 1, 2: 2, 3: 0, 4: 1, 5: 2, 6: 0, 300: 0, 301: 1, 302: 2,
		-1: 2, -2: 1, -3: 0, -4: 2, -5: 1, -6: 0, -300: 0, -301: 2, -302: 1,
		math.MaxInt: math.MaxInt % 3, math.MinInt: (math.MinInt%3 + 3) % 3,
	} {
		r, a := crowd(t)
		takes(t, r, who)
		calls(t, a, []call{next(1), next(4), given(5, 0)}[k])
		if now := r.Hall().Now; now != []int{0, 0, 30}[k] {
			t.Errorf("Now = %d behind a turn by %d", now, who)
		}
	}
}

// 12.2: Who, for each number of tasks that are Ready, where nobody sleeps.
func TestWhoMany(t *testing.T) {
	for many := 1; many <= api.MaxTasks; many++ {
		for who := -40; who <= 40; who++ {
			r, a := begins(t, slices.Repeat([]api.Ask{ask(api.AskGo, 1)}, many-1))
			takes(t, r, make([]int, many-1)...)
			a.calls = nil
			choices(t, r, many)
			k := who
			for k < 0 {
				k += many
			}
			for k >= many {
				k -= many
			}
			takes(t, r, who)
			calls(t, a, next(k))
		}
	}
}

// sleepers is a room in which task 0 waits, and one task each sleeps for these times from 0 on.
func sleepers(t *testing.T, times ...int) (*room.Room, *actors) {
	t.Helper()
	var goes []api.Ask
	fns := [][]api.Ask{nil}
	for k, n := range times {
		goes = append(goes, ask(api.AskGo, k+1))
		fns = append(fns, []api.Ask{ask(api.AskSleep, n), talk(recv(0))})
	}
	fns[0] = append(goes, talk(recv(0)))
	r, a := begins(t, fns...)
	takes(t, r, make([]int, 2*len(times)+1)...)
	a.calls = nil
	return r, a
}

// 12.2: the clock: the earliest time is Now; those that wake then, rising, are Ready, and each is Given; all others sleep on.
func TestClock(t *testing.T) {
	r, a := sleepers(t, 30, 10, 30, 10, 20)
	looks(t, r, api.Hall{
		Tasks: []int{api.Blocked, api.Asleep, api.Asleep, api.Asleep, api.Asleep, api.Asleep},
		Wakes: []int{0, 30, 10, 30, 10, 20},
	})
	choices(t, r, 1)
	takes(t, r, 5)
	calls(t, a, given(2, 0), given(4, 0))
	looks(t, r, api.Hall{
		Now:   10,
		Tasks: []int{api.Blocked, api.Asleep, api.Ready, api.Asleep, api.Ready, api.Asleep},
		Wakes: []int{0, 30, 0, 30, 0, 20},
	})
	choices(t, r, 3)
	takes(t, r, 2)
	calls(t, a, given(5, 0))
	looks(t, r, api.Hall{
		Now:   20,
		Tasks: []int{api.Blocked, api.Asleep, api.Ready, api.Asleep, api.Ready, api.Ready},
		Wakes: []int{0, 30, 0, 30, 0, 0},
	})
	takes(t, r, 3)
	calls(t, a, given(1, 0), given(3, 0))
	looks(t, r, api.Hall{Now: 30, Tasks: []int{api.Blocked, api.Ready, api.Ready, api.Ready, api.Ready, api.Ready}})
	choices(t, r, 5)
	takes(t, r, 4, 3, 2, 1, 0)
	over(t, r, a, api.Stuck)
	if l := r.Events(); len(l) != 5 {
		t.Errorf("Events = %v: who sleeps does nothing", l)
	}
}

// 12.2: none Ready, none Asleep: it is Stuck, by the very turn by which it comes to that; while any sleeps, it isn't.
func TestStuck(t *testing.T) {
	r, a := begins(t, []api.Ask{talk(recv(0))})
	takes(t, r, 0)
	calls(t, a, began(0), next(0))
	looks(t, r, api.Hall{End: api.Stuck, Tasks: []int{api.Blocked}})
	over(t, r, a, api.Stuck)

	r, a = begins(t, []api.Ask{ask(api.AskGo, 1), talk()}, []api.Ask{pause()})
	takes(t, r, 0, 0, 0)
	looks(t, r, api.Hall{Tasks: []int{api.Blocked, api.Ready}})
	takes(t, r, 0)
	looks(t, r, api.Hall{End: api.Stuck, Tasks: []int{api.Blocked, api.Ended}})
	over(t, r, a, api.Stuck)

	r, a = sleepers(t, 4)
	looks(t, r, api.Hall{Tasks: []int{api.Blocked, api.Asleep}, Wakes: []int{0, 4}})
	takes(t, r, 0)
	looks(t, r, api.Hall{Now: 4, Tasks: []int{api.Blocked, api.Ready}})
	takes(t, r, 0)
	over(t, r, a, api.Stuck)
}

// 12.2: a turn asks one task for one thing; who pauses, goes on at another turn.
func TestTurn(t *testing.T) {
	r, a := begins(t, []api.Ask{pause(), ask(api.AskGo, 1, 8), pause()}, []api.Ask{pause()})
	calls(t, a, began(0))
	takes(t, r, 0)
	calls(t, a, next(0))
	takes(t, r, 0)
	calls(t, a, next(0), began(1, 8), given(0, 0))
	takes(t, r, 1)
	calls(t, a, next(1))
	takes(t, r, 1)
	calls(t, a, next(1))
	takes(t, r, 0, 0)
	calls(t, a, next(0), next(0))
	over(t, r, a, api.Done)
}

// 12.2: Play takes turns, each by its own Pick, up to the first that is false: how many were true.
func TestPlay(t *testing.T) {
	fns := [][]api.Ask{{ask(api.AskGo, 1), ask(api.AskMake, 3), talk(send(1, 4), send(1, 5)), pause()}, {pause(), pause(), pause()}}
	picks := []api.Pick{{}, {Who: 1}, {Who: 2}, {Who: -2, Draw: -1}, {Who: 1}}
	r, a := begins(t, fns...)
	if n := r.Play(picks); n != len(picks) {
		t.Errorf("Play = %d; want %d", n, len(picks))
	}
	calls(t, a, began(0), next(0), began(1), given(0, 0), next(1), next(0), given(0, 1), next(0), gave(0, 1, 0), next(1))
	looks(t, r, api.Hall{Made: 1, Tasks: []int{api.Ready, api.Ready}, Pipes: []api.Pipe{{Size: 3, Nums: []int{5}}}})
	if r.Play(nil) != 0 || r.Play([]api.Pick{}) != 0 {
		t.Error("Play of no turns is not 0")
	}
	calls(t, a)
	more := []api.Pick{{}, {Who: 1}, {}, {Who: 9}, {}}
	if n := r.Play(more); n != 3 { // a pause, another, and the end
		t.Errorf("Play = %d; want 3", n)
	}
	calls(t, a, next(0), next(1), next(0))
	over(t, r, a, api.Done)
	if want := []api.Pick{{}, {Who: 1}, {}, {Who: 9}, {}}; !slices.Equal(more, want) {
		t.Errorf("Play has written %v", more)
	}
}

// P1: tasks that have ended don't count, however many there were, and no turn takes longer for them.
func TestManyTasks(t *testing.T) {
	const many = 60_000
	r, a := begins(t, slices.Repeat([]api.Ask{ask(api.AskGo, 1)}, many))
	picks := []api.Pick{{}, {Who: 1}}
	for range many {
		if n := r.Play(picks); n != 2 {
			t.Fatalf("Play = %d", n)
		}
	}
	h := r.Hall()
	if h.End != api.Going || len(h.Tasks) != many+1 || len(h.Wakes) != many+1 || h.Tasks[0] != api.Ready || h.Tasks[many] != api.Ended {
		t.Errorf("End is %d, there are %d tasks", h.End, len(h.Tasks))
	}
	takes(t, r, 0)
	over(t, r, a, api.Done)
}

// P4: what comes out is the caller's: who writes into it, or behind its length, changes nothing.
func TestFresh(t *testing.T) {
	r, _ := begins(t,
		[]api.Ask{ask(api.AskMake, 2), ask(api.AskGo, 1), talk(send(1, 7)), ask(api.AskStore, 1, 9), ask(api.AskPrint, 3), ask(api.AskMake, 0), talk(recv(2))},
		[]api.Ask{ask(api.AskSleep, 3)})
	takes(t, r, 0, 0, 0, 0, 0, 0, 0, 0)
	want := api.Hall{
		Made: 2, Tasks: []int{api.Blocked, api.Asleep}, Wakes: []int{0, 3}, Globals: []int{0, 9},
		Pipes: []api.Pipe{{Size: 2, Nums: []int{7}}, {Recvs: []api.Wait{{}}}}, Out: []int{3},
	}
	looks(t, r, want)
	events := r.Events()
	for range 2 {
		h, l := r.Hall(), r.Events()
		for _, nums := range [][]int{h.Tasks, h.Wakes, h.Globals, h.Out, h.Pipes[0].Nums} {
			spoil(nums, 99)
		}
		spoil(h.Pipes[1].Recvs, api.Wait{Task: 9})
		spoil(h.Pipes, api.Pipe{Size: 9})
		spoil(l, api.Event{Task: 9})
		looks(t, r, want)
		if !slices.Equal(r.Events(), events) {
			t.Errorf("Events = %v; want %v", r.Events(), events)
		}
	}
	seen := r.Hall()
	takes(t, r, 0, 0)
	if !sameHall(seen, want) {
		t.Errorf("what was told has changed: %v; want %v", seen, want)
	}
}

// spoil writes v into all of a list, and behind its length.
func spoil[T any](l []T, v T) {
	l = l[:cap(l)]
	for k := range l {
		l[k] = v
	}
}
