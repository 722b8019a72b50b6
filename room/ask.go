package room

import (
	"slices"

	"sluiceway/api"
)

// do does what a task asks for. A task with which all ends stays as it is, and is told nothing.
func (r *Room) do(task int, a api.Ask, draw int) {
	switch a.What {
	case api.AskEnd:
		r.ended(task)
	case api.AskPause:
	case api.AskFault:
		r.end = fault(a.N)
	case api.AskGo:
		r.fork(task, a.N, a.Args)
	case api.AskTalk:
		r.talk(task, a.Cases, draw)
	case api.AskClose:
		r.shut(task, a.N)
	case api.AskSleep:
		r.sleep(task, a.N)
	default:
		n, end := r.number(task, a)
		if end != api.Going {
			r.end = end
			return
		}
		r.give(task, api.Answer{N: n})
	}
}

// number does what a task asks for, if nothing comes of it but a number that this task is told: that, and how all ends (Going: it doesn't).
func (r *Room) number(task int, a api.Ask) (int, int) {
	switch a.What {
	case api.AskLen:
		return r.count(a.N)
	case api.AskMake:
		return r.channel(a.N)
	case api.AskPrint:
		return r.print(a.N)
	case api.AskLoad:
		return r.load(task, a.N)
	case api.AskStore:
		return r.store(task, a.N, a.Args)
	}
	return 0, api.Odd
}

// ended lets a task end; with the first one all ends.
func (r *Room) ended(task int) {
	r.tasks[task] = api.Ended
	r.live = slices.DeleteFunc(r.live, func(other int) bool { return other == task })
	if task == 0 {
		r.end = api.Done
	}
}

// fault is the way in which all ends, if a task tells it: tasks can't tell each of them.
func fault(end int) int {
	if end < api.Zero || end > api.Full {
		return api.Odd
	}
	return end
}

// fork lets another task begin, of function fn.
func (r *Room) fork(task, fn int, args []int) {
	if len(r.live) >= api.MaxTasks {
		r.end = api.Full
		return
	}
	r.tell(task, api.EvFork, len(r.tasks))
	r.begin(fn, slices.Clone(args))
	r.give(task, api.Answer{})
}

// talk lets a task do one of several talks, or wait.
func (r *Room) talk(task int, l []api.Talk, draw int) {
	had := r.counts(l)
	answer, wakes, waits, err := r.pipes.Talk(task, l, draw)
	switch {
	case err != nil:
		r.end = wrong(err)
	case waits:
		r.tasks[task] = api.Blocked
	default:
		r.tellTalk(task, l[answer.Case], had[answer.Case], wakes)
		r.give(task, answer)
		r.resumeEach(wakes)
	}
}

// counts are how many numbers there are in the channel of each talk (0, if there is no such channel).
func (r *Room) counts(l []api.Talk) []int {
	counts := make([]int, len(l))
	for k, t := range l {
		counts[k], _ = r.pipes.Len(t.Chan)
	}
	return counts
}

// shut lets a task shut channel c.
func (r *Room) shut(task, c int) {
	wakes, err := r.pipes.Close(c)
	switch {
	case api.Tell(err) == api.ErrArg:
		r.end = api.Shut
	case err != nil:
		r.end = wrong(err)
	default:
		r.tell(task, api.EvShut, c)
		r.tellEach(wakes, api.EvZero, c)
		r.give(task, api.Answer{})
		r.resumeEach(wakes)
	}
}

// wrong is the way in which all ends by an error of a channel: ErrFalse is of a number that is sent into what is shut (or is shut while it waits to be); all else may not be asked for.
func wrong(err error) int {
	if api.Tell(err) == api.ErrFalse {
		return api.Sent
	}
	return api.Odd
}

// resumeEach lets those that waited at a channel go on, by their answers.
func (r *Room) resumeEach(wakes []api.Wake) {
	for _, w := range wakes {
		r.resume(w.Task, w.Answer)
	}
}

// sleep lets a task sleep, if it is for any time.
func (r *Room) sleep(task, n int) {
	if n <= 0 {
		r.give(task, api.Answer{})
		return
	}
	if err := r.clock.Set(r.clock.Now()+min(n, api.MaxSleep), task); err != nil {
		r.end = api.Odd
		return
	}
	r.tasks[task] = api.Asleep
}

// count is how many numbers there are in channel c, and how all ends.
func (r *Room) count(c int) (int, int) {
	n, err := r.pipes.Len(c)
	if err != nil {
		return 0, api.Odd
	}
	return n, api.Going
}

// channel makes a channel for so many numbers: its number, and how all ends.
func (r *Room) channel(size int) (int, int) {
	n, err := r.pipes.Make(size)
	switch {
	case api.Tell(err) == api.ErrRange:
		return 0, api.Size
	case err != nil:
		return 0, api.Full
	}
	return n, api.Going
}

// print tells n behind all that was told: 0, and how all ends.
func (r *Room) print(n int) (int, int) {
	if len(r.out) >= api.MaxOut {
		return 0, api.Full
	}
	r.out = append(r.out, n)
	return 0, api.Going
}

// load is what global n is, and how all ends.
func (r *Room) load(task, n int) (int, int) {
	if !r.has(n) {
		return 0, api.Odd
	}
	r.tell(task, api.EvRead, n)
	return r.globals[n], api.Going
}

// store lets global n be what a task has in its list, of one: 0, and how all ends.
func (r *Room) store(task, n int, args []int) (int, int) {
	if !r.has(n) || len(args) != 1 {
		return 0, api.Odd
	}
	r.globals[n] = args[0]
	r.tell(task, api.EvWrite, n)
	return 0, api.Going
}

// has tells whether there is a global n.
func (r *Room) has(n int) bool {
	return n >= 0 && n < len(r.globals)
}
