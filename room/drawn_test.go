package room_test

import (
	"slices"
	"testing"

	"sluiceway/api"
	"sluiceway/pipe"
	"sluiceway/room"
)

// die: numbers that look drawn, the same each time.
type die uint64

func (d *die) n(most int) int {
	*d = *d*6364136223846793005 + 1442695040888963407
	return int(uint64(*d>>33) % uint64(most))
}

// drawn is a Doer whose tasks ask for what is drawn, each by a die of its own: what one asks for hangs on what it was told alone.
type drawn struct {
	seed  int
	ask   func(d *die, fn, at int) api.Ask
	does  []int
	at    []int // how many things each task has asked for
	dice  []die
	calls []call
}

func (d *drawn) Begin(fn int, args []int) {
	d.calls = append(d.calls, began(fn, args...))
	d.does, d.at = append(d.does, fn), append(d.at, 0)
	of := die(d.seed)*77 + die(fn)
	for _, n := range args {
		of = of*31 + die(n)
	}
	d.dice = append(d.dice, of)
}

func (d *drawn) Next(task int) api.Ask {
	d.calls = append(d.calls, next(task))
	d.at[task]++
	return d.ask(&d.dice[task], d.does[task], d.at[task]-1)
}

func (d *drawn) Give(task int, a api.Answer) {
	d.calls = append(d.calls, call{what: "Give", n: task, answer: a})
	d.dice[task] += die(a.N)*5 + die(a.Case)
}

// anything is what tasks may ask for, and now and then what they may not. Function 0 makes channels first, then lets tasks begin.
func anything(d *die, fn, at int) api.Ask {
	switch {
	case fn == 0 && at < 4:
		return ask(api.AskMake, at)
	case fn == 0 && at < 8:
		return ask(api.AskGo, at, d.n(90)) // function 0 never: that would go on and on
	case at > 12 && d.n(3) == 0:
		return talk(recv(0)) // so that now and then all wait
	}
	a := api.Ask{N: d.n(5), Args: []int{d.n(9)}}
	switch k := d.n(200); {
	case k < 100:
		a.What, a.Cases = api.AskTalk, talks(d, 4)
	case k < 106:
		a.What, a.N = api.AskMake, d.n(4)
	case k < 120:
		a.What, a.N, a.Args = api.AskGo, 1+d.n(9), []int{d.n(90), d.n(90)}[:d.n(3)]
	case k < 150:
		a.What, a.N = api.AskSleep, d.n(1300)-100
	case k < 170:
		a.What, a.N = api.AskLoad+d.n(2), d.n(3)
	case k < 180:
		a.What = api.AskPrint + d.n(2)*(api.AskPause-api.AskPrint)
	case k < 190:
		a.What = api.AskLen
	case k < 194:
		a.What = api.AskClose
	case k < 198:
		a.What = api.AskEnd
	case k < 199:
		a.What, a.N = api.AskFault, d.n(16)-3
	default:
		a.What, a.N = d.n(16)-1, d.n(16)-3
	}
	return a
}

// talks are some, of channels up to most.
func talks(d *die, most int) []api.Talk {
	var l []api.Talk
	for range 1 + d.n(2)*d.n(4) {
		t := api.Talk{What: api.Send, Chan: d.n(most + 1), N: d.n(90)}
		if d.n(2) == 0 {
			t.What = api.Recv
		}
		l = append(l, t)
	}
	if d.n(5) == 0 {
		l = append(l, other())
	}
	return l
}

// paper is what chapter 12 says, kept another way: all is in a Hall, from which it is counted anew at each turn; events are told from what channels looked like ahead of a turn.
type paper struct {
	d      *drawn
	hall   api.Hall
	pipes  pipe.Pipes
	events []api.Event
}

func (p *paper) begin(fn int, args ...int) {
	p.hall.Tasks = append(p.hall.Tasks, api.Ready)
	p.hall.Wakes = append(p.hall.Wakes, 0)
	p.d.Begin(fn, args)
}

// those are the tasks that are so.
func (p *paper) those(what int) []int {
	var l []int
	for task, is := range p.hall.Tasks {
		if is == what {
			l = append(l, task)
		}
	}
	return l
}

func (p *paper) choices() int {
	if p.hall.End != api.Going {
		return 0
	}
	return len(p.those(api.Ready)) + min(1, len(p.those(api.Asleep)))
}

func (p *paper) turn(pick api.Pick) bool {
	many, who := p.choices(), pick.Who
	if many == 0 {
		return false
	}
	for ; who < 0; who += many {
	}
	for ; who >= many; who -= many {
	}
	if ready := p.those(api.Ready); who < len(ready) {
		p.does(ready[who], p.d.Next(ready[who]), pick.Draw)
	} else {
		p.clock()
	}
	if p.hall.End == api.Going && p.choices() == 0 {
		p.hall.End = api.Stuck
	}
	return true
}

func (p *paper) clock() {
	asleep := p.those(api.Asleep)
	p.hall.Now = p.hall.Wakes[asleep[0]]
	for _, task := range asleep {
		p.hall.Now = min(p.hall.Now, p.hall.Wakes[task])
	}
	for _, task := range asleep {
		if p.hall.Wakes[task] == p.hall.Now {
			p.hall.Tasks[task], p.hall.Wakes[task] = api.Ready, 0
			p.d.Give(task, api.Answer{})
		}
	}
}

func (p *paper) does(task int, a api.Ask, draw int) {
	h := &p.hall
	odd := func(is bool) bool {
		if is {
			h.End = api.Odd
		}
		return is
	}
	n := 0
	switch a.What {
	case api.AskEnd:
		h.Tasks[task] = api.Ended
		if task == 0 {
			h.End = api.Done
		}
		return
	case api.AskPause:
		return
	case api.AskFault:
		h.End = a.N
		odd(!slices.Contains([]int{api.Zero, api.Shift, api.Sent, api.Shut, api.Size, api.Deep, api.Full}, a.N))
		return
	case api.AskGo:
		if len(h.Tasks)-len(p.those(api.Ended)) == api.MaxTasks {
			h.End = api.Full
			return
		}
		p.event(task, api.EvFork, len(h.Tasks))
		p.begin(a.N, a.Args...)
	case api.AskTalk:
		p.talk(task, a.Cases, draw)
		return
	case api.AskClose:
		p.close(task, a.N)
		return
	case api.AskLen:
		if odd(a.N < 0 || a.N > p.pipes.Made()) {
			return
		}
		if a.N > 0 {
			n = len(p.pipes.Look()[a.N-1].Nums)
		}
	case api.AskMake:
		if a.N < 0 || a.N > api.MaxCap {
			h.End = api.Size
			return
		}
		if p.pipes.Made() == api.MaxChans {
			h.End = api.Full
			return
		}
		n, _ = p.pipes.Make(a.N)
	case api.AskPrint:
		if len(h.Out) == api.MaxOut {
			h.End = api.Full
			return
		}
		h.Out = append(h.Out, a.N)
	case api.AskSleep:
		if a.N > 0 {
			h.Tasks[task], h.Wakes[task] = api.Asleep, h.Now+min(a.N, api.MaxSleep)
			return
		}
	case api.AskLoad:
		if odd(a.N < 0 || a.N >= len(h.Globals)) {
			return
		}
		n = h.Globals[a.N]
		p.event(task, api.EvRead, a.N)
	case api.AskStore:
		if odd(a.N < 0 || a.N >= len(h.Globals) || len(a.Args) != 1) {
			return
		}
		h.Globals[a.N] = a.Args[0]
		p.event(task, api.EvWrite, a.N)
	default:
		odd(true)
		return
	}
	p.d.Give(task, api.Answer{N: n})
}

func (p *paper) event(task, what, obj int) { p.events = append(p.events, event(task, what, obj)) }

func (p *paper) talk(task int, l []api.Talk, draw int) {
	seen := p.pipes.Look()
	answer, wakes, waits, err := p.pipes.Talk(task, l, draw)
	if err != nil {
		p.hall.End = map[api.Errno]int{api.ErrFalse: api.Sent}[api.Tell(err)]
		if p.hall.End == 0 {
			p.hall.End = api.Odd
		}
		return
	}
	if waits {
		p.hall.Tasks[task] = api.Blocked
		return
	}
	if t := l[answer.Case]; t.What != api.Else {
		p.talked(task, t, seen[t.Chan-1])
	}
	p.d.Give(task, answer)
	p.resume(wakes)
}

// talked tells the events of a talk that was done, with a channel that looked like that ahead of it.
func (p *paper) talked(task int, t api.Talk, c api.Pipe) {
	switch {
	case t.What == api.Send && len(c.Recvs) == 0:
		p.event(task, api.EvSend, t.Chan)
	case t.What == api.Send:
		p.event(task, api.EvSend, t.Chan)
		p.event(c.Recvs[0].Task, api.EvRecv, t.Chan)
	case c.Size == 0 && len(c.Sends) > 0:
		p.event(c.Sends[0].Task, api.EvSend, t.Chan)
		p.event(task, api.EvRecv, t.Chan)
	case len(c.Sends) > 0:
		p.event(task, api.EvRecv, t.Chan)
		p.event(c.Sends[0].Task, api.EvSend, t.Chan)
	case len(c.Nums) > 0:
		p.event(task, api.EvRecv, t.Chan)
	default:
		p.event(task, api.EvZero, t.Chan)
	}
}

func (p *paper) close(task, c int) {
	seen := p.pipes.Look()
	wakes, err := p.pipes.Close(c)
	if err != nil {
		p.hall.End = api.Odd
		if c >= 0 && c <= len(seen) {
			p.hall.End = api.Shut
		}
		if c > 0 && c <= len(seen) && len(seen[c-1].Sends) > 0 {
			p.hall.End = api.Sent
		}
		return
	}
	p.event(task, api.EvShut, c)
	var once []int
	for _, w := range seen[c-1].Recvs {
		if !slices.Contains(once, w.Task) {
			once = append(once, w.Task)
			p.event(w.Task, api.EvZero, c)
		}
	}
	p.d.Give(task, api.Answer{})
	p.resume(wakes)
}

func (p *paper) resume(wakes []api.Wake) {
	for _, w := range wakes {
		p.hall.Tasks[w.Task] = api.Ready
		p.d.Give(w.Task, w.Answer)
	}
}

func (p *paper) look() api.Hall {
	h := p.hall
	h.Made, h.Pipes = p.pipes.Made(), p.pipes.Look()
	return h
}

// balance says that of each channel as many numbers were received as were sent, but for those that are in it.
func balance(t *testing.T, h api.Hall, l []api.Event) {
	t.Helper()
	count := make([]int, len(h.Pipes)+1)
	for _, e := range l {
		switch e.What {
		case api.EvSend:
			count[e.Obj]++
		case api.EvRecv:
			if count[e.Obj]--; count[e.Obj] < 0 {
				t.Fatalf("channel %d: received ahead of what is sent: %v", e.Obj, l)
			}
		}
	}
	for k, c := range h.Pipes {
		if count[k+1] != len(c.Nums) {
			t.Fatalf("channel %d has %v; events %v", k+1, c.Nums, l)
		}
	}
}

// 12.1 to 12.4: whatever tasks ask for, whoever takes the turns, a room tells what the paper does; when it has ended, it has ended.
func TestDrawnAsPaper(t *testing.T) {
	d := die(12)
	var came [api.Odd + 1]int
	for k := range 3000 {
		p, q := &drawn{seed: k, ask: anything}, &paper{d: &drawn{seed: k, ask: anything}, hall: api.Hall{Globals: make([]int, 3)}}
		r, err := room.New(p, 3)
		if err != nil {
			t.Fatal(err)
		}
		q.begin(0)
		for range 120 {
			pick := api.Pick{Who: d.n(60) - 30, Draw: d.n(60) - 30}
			if is, want := r.Turn(pick), q.turn(pick); is != want {
				t.Fatalf("run %d: Turn(%v) = %v; want %v", k, pick, is, want)
			}
			if r.Choices() != q.choices() || !sameHall(r.Hall(), q.look()) {
				t.Fatalf("run %d: Hall = %v; want %v", k, r.Hall(), q.look())
			}
			if !slices.EqualFunc(p.calls, q.d.calls, sameCall) {
				t.Fatalf("run %d: the Doer was asked %v; want %v", k, p.calls, q.d.calls)
			}
			p.calls, q.d.calls = nil, nil
		}
		if !slices.Equal(r.Events(), q.events) {
			t.Fatalf("run %d: Events = %v; want %v", k, r.Events(), q.events)
		}
		balance(t, r.Hall(), r.Events())
		came[r.Hall().End]++
	}
	for end, n := range came {
		if n == 0 {
			t.Errorf("no run came to %d: %v", end, came)
		}
	}
}

const pairs = 3

// apart is a room in which three pairs of tasks, 1 and 2, 3 and 4, 5 and 6, have nothing in common: each has two channels, one that is shut, and a global of its own. Task 0 waits.
func apart(t *testing.T, seed int) (*room.Room, *drawn) {
	t.Helper()
	var first []api.Ask
	for k := range pairs {
		for size := range 3 {
			first = append(first, ask(api.AskMake, size))
		}
		first = append(first, ask(api.AskClose, 3*k+3))
	}
	for k := range 2 * pairs {
		first = append(first, ask(api.AskGo, 1+k/2, k))
	}
	first = append(first, talk(recv(0)))
	d := &drawn{seed: seed, ask: func(d *die, fn, at int) api.Ask {
		if fn > 0 {
			return alone(d, fn-1)
		}
		return first[at]
	}}
	r, err := room.New(d, pairs)
	if err != nil {
		t.Fatal(err)
	}
	takes(t, r, make([]int, len(first))...)
	return r, d
}

// alone is what a task of pair k may ask for.
func alone(d *die, k int) api.Ask {
	switch d.n(14) {
	case 0:
		return ask(api.AskLoad, k)
	case 1:
		return ask(api.AskStore, k, d.n(90))
	case 2:
		return ask(api.AskLen, 3*k+1+d.n(3))
	case 3:
		return talk(recv(3*k+3), recv(3*k+2), recv(3*k+1))
	case 4:
		return pause()
	}
	l := talks(d, 2)
	for j := range l {
		if l[j].Chan > 0 {
			l[j].Chan += 3 * k
		}
	}
	return talk(l...)
}

// turns lets pairs take their own turns, in the order that is told: each the next one of its own, if that task is Ready then.
func turns(t *testing.T, r *room.Room, own [][]api.Pick, order []int) {
	t.Helper()
	at := make([]int, pairs)
	for _, k := range order {
		pick := own[k][at[k]]
		at[k]++
		task := 1 + 2*k + pick.Who
		is := r.Hall().Tasks
		if is[task] != api.Ready {
			continue
		}
		who := 0
		for _, ahead := range is[:task] {
			if ahead == api.Ready {
				who++
			}
		}
		if !r.Turn(api.Pick{Who: who, Draw: pick.Draw}) {
			t.Fatalf("no turn: %v", r.Hall())
		}
	}
}

// ofPair is what is told of the tasks of pair k.
func ofPair(k int, r *room.Room, d *drawn) ([]api.Event, []call) {
	mine := func(task int) bool { return task > 0 && (task-1)/2 == k }
	events := slices.DeleteFunc(r.Events(), func(e api.Event) bool { return !mine(e.Task) })
	calls := slices.Clone(d.calls)
	return events, slices.DeleteFunc(calls, func(c call) bool { return c.what == "Begin" || !mine(c.n) })
}

// 12.2 to 12.4: who has nothing in common takes turns in any order: it comes to the same.
func TestDrawnAnyOrder(t *testing.T) {
	d := die(13)
	for seed := range 250 {
		own := make([][]api.Pick, pairs)
		var order []int
		for k := range own {
			for range 40 {
				own[k] = append(own[k], api.Pick{Who: d.n(2), Draw: d.n(60) - 30})
				order = append(order, k)
			}
		}
		r, one := apart(t, seed)
		turns(t, r, own, order)
		for range 3 {
			for k := range order {
				j := k + d.n(len(order)-k)
				order[k], order[j] = order[j], order[k]
			}
			s, two := apart(t, seed)
			turns(t, s, own, order)
			looks(t, s, r.Hall())
			for k := range pairs {
				events, calls := ofPair(k, r, one)
				others, asked := ofPair(k, s, two)
				if !slices.Equal(events, others) || !slices.EqualFunc(calls, asked, sameCall) {
					t.Fatalf("run %d: pair %d did %v, was told %v; then %v, %v", seed, k, events, calls, others, asked)
				}
			}
		}
	}
}
