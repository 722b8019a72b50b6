package pipe_test

import (
	"cmp"
	"slices"
	"testing"

	"sluiceway/api"
	"sluiceway/pipe"
)

// die: numbers that look drawn, the same each time.
type die uint64

func (d *die) n(most int) int {
	*d = *d*6364136223846793005 + 1442695040888963407
	return int(uint64(*d>>33) % uint64(most))
}

// paper is what chapter 11 says, kept another way: there are no rows, but all that tasks ask for
// in one list, in the order in which they came; who waits where is looked up there.
type paper struct {
	pipes []api.Pipe // without rows
	asks  []ask
}

type ask struct {
	task int
	l    []api.Talk
}

// row is who waits to do that with channel c.
func (p *paper) row(what, c int) []api.Wait {
	var row []api.Wait
	for _, a := range p.asks {
		for k, t := range a.l {
			if c > 0 && t.What == what && t.Chan == c {
				row = append(row, api.Wait{Task: a.task, Case: k})
			}
		}
	}
	return row
}

// at is where among those that wait a task is, -1 if it isn't.
func (p *paper) at(task int) int {
	return slices.IndexFunc(p.asks, func(a ask) bool { return a.task == task })
}

// wake takes a task out of those that wait: what it sent, if it did, and how it goes on.
func (p *paper) wake(w api.Wait, n int) (int, api.Wake) {
	k := p.at(w.Task)
	sent := p.asks[k].l[w.Case].N
	p.asks = slices.Delete(p.asks, k, k+1)
	return sent, wakes(w.Task, w.Case, n)
}

func (p *paper) look() []api.Pipe {
	var l []api.Pipe
	for k, c := range p.pipes {
		c.Nums = slices.Clone(c.Nums)
		c.Sends, c.Recvs = p.row(api.Send, k+1), p.row(api.Recv, k+1)
		l = append(l, c)
	}
	return l
}

func (p *paper) make(size int) (int, api.Errno) {
	if size < 0 || size > api.MaxCap {
		return 0, api.ErrRange
	}
	if len(p.pipes) == api.MaxChans {
		return 0, api.ErrFull
	}
	p.pipes = append(p.pipes, api.Pipe{Size: size})
	return len(p.pipes), api.OK
}

func (p *paper) close(c int) ([]api.Wake, api.Errno) {
	if c < 0 || c > len(p.pipes) {
		return nil, api.ErrRange
	}
	if c == 0 || p.pipes[c-1].Shut {
		return nil, api.ErrArg
	}
	if p.row(api.Send, c) != nil {
		return nil, api.ErrFalse
	}
	p.pipes[c-1].Shut = true
	var l []api.Wake
	for row := p.row(api.Recv, c); row != nil; row = p.row(api.Recv, c) {
		_, w := p.wake(row[0], 0)
		l = append(l, w)
	}
	return l, api.OK
}

// wrong is the first thing that is wrong with talks.
func (p *paper) wrong(l []api.Talk) api.Errno {
	elses := 0
	for _, t := range l {
		switch t.What {
		case api.Else:
			if elses++; elses > 1 {
				return api.ErrTwice
			}
		case api.Send, api.Recv:
			if t.Chan < 0 || t.Chan > len(p.pipes) {
				return api.ErrRange
			}
		default:
			return api.ErrArg
		}
	}
	return api.OK
}

// free tells whether a talk is FREE.
func (p *paper) free(t api.Talk) bool {
	if t.What == api.Else || t.Chan == 0 {
		return false
	}
	c := p.pipes[t.Chan-1]
	if t.What == api.Send {
		return c.Shut || p.row(api.Recv, t.Chan) != nil || len(c.Nums) < c.Size
	}
	return len(c.Nums) > 0 || p.row(api.Send, t.Chan) != nil || c.Shut
}

func (p *paper) talk(task int, l []api.Talk, draw int) came {
	if p.at(task) >= 0 {
		return came{err: api.ErrState}
	}
	if len(l) > api.MaxCases {
		return came{err: api.ErrLimit}
	}
	if wrong := p.wrong(l); wrong != api.OK {
		return came{err: wrong}
	}
	var free []int
	for k, t := range l {
		if p.free(t) {
			free = append(free, k)
		}
	}
	if len(free) == 0 {
		k := slices.IndexFunc(l, func(t api.Talk) bool { return t.What == api.Else })
		if k < 0 {
			p.asks = append(p.asks, ask{task: task, l: slices.Clone(l)})
			return waits()
		}
		return does(k, 0)
	}
	for ; draw < 0; draw += len(free) {
	}
	k := free[draw%len(free)]
	if l[k].What == api.Send {
		return p.send(k, l[k])
	}
	return p.recv(k, l[k].Chan)
}

func (p *paper) send(k int, t api.Talk) came {
	c := &p.pipes[t.Chan-1]
	if c.Shut {
		return came{err: api.ErrFalse}
	}
	if row := p.row(api.Recv, t.Chan); row != nil {
		_, w := p.wake(row[0], t.N)
		return does(k, 0, w)
	}
	c.Nums = append(c.Nums, t.N)
	return does(k, 0)
}

func (p *paper) recv(k, c int) came {
	line := &p.pipes[c-1].Nums
	var who []api.Wake
	if row := p.row(api.Send, c); row != nil {
		n, w := p.wake(row[0], 0)
		who = append(who, w)
		*line = append(*line, n)
	}
	if len(*line) == 0 {
		return does(k, 0, who...)
	}
	n := (*line)[0]
	*line = (*line)[1:]
	return does(k, n, who...)
}

// cases are talks of channels up to most, and now and then of what isn't there.
func (d *die) cases(most int) []api.Talk {
	var l []api.Talk
	for range []int{0, 1, 1, 1, 2, 2, 3, 4, 6, 7}[d.n(10)] {
		t := api.Talk{What: api.Send, Chan: d.n(most + 1), N: d.n(90)}
		if d.n(2) == 0 {
			t.What = api.Recv
		}
		switch d.n(60) {
		case 0, 1, 2:
			t.What = api.Else
		case 3:
			t.What = d.n(50) - 5
		case 4:
			t.Chan = d.n(2*most+8) - 4
		}
		l = append(l, t)
	}
	return l
}

// step asks the channels and the paper for the same thing, and says whether both tell the same.
func step(t *testing.T, d *die, p *pipe.Pipes, q *paper) {
	t.Helper()
	switch d.n(16) {
	case 0:
		size := d.n(12) % 5 // small ones: there it is full sooner
		if d.n(9) == 0 {
			size = d.n(16) - 4
		}
		n, err := p.Make(size)
		if want, wrong := q.make(size); n != want || api.Tell(err) != wrong {
			t.Fatalf("Make(%d) = %d, %v; want %d, %v", size, n, err, want, wrong)
		}
	case 1:
		c := d.n(len(q.pipes)+3) - 1
		want, wrong := q.close(c)
		closes(t, p, c, wrong, want...)
	case 2:
		c := d.n(2*len(q.pipes)+6) - len(q.pipes) - 3
		n, err := p.Len(c)
		there := c >= 0 && c <= len(q.pipes)
		if n != 0 && (c < 1 || !there) || there != (err == nil) {
			t.Fatalf("Len(%d) of %d channels = %d, %v", c, len(q.pipes), n, err)
		}
	default:
		task, draw, l := d.n(9)-1, d.n(90)-45, d.cases(len(q.pipes))
		talks(t, p, task, draw, q.talk(task, l, draw), l...)
	}
	looks(t, p, q.look()...)
}

// 11.1 to 11.4: whatever is asked, channels tell what the paper does.
func TestDrawnAsPaper(t *testing.T) {
	d := die(11)
	for range 1500 {
		p, q := &pipe.Pipes{}, &paper{}
		for range 1 + d.n(3) {
			size := d.n(4)
			_, _ = p.Make(size)
			q.make(size)
		}
		for range 60 {
			step(t, &d, p, q)
		}
	}
}

// line is what is to be told of one channel: the numbers that were offered, in the order in which
// tasks came with them, and were neither received nor taken back.
type line struct {
	p     *pipe.Pipes
	asks  map[int][]api.Talk // of the tasks that wait
	lines map[int][]int      // by channel
	got   map[int]bool       // each number, which are all different
	next  int
}

// ask lets a task talk by numbers that were never sent before.
func (c *line) ask(t *testing.T, task, draw int, l []api.Talk) {
	t.Helper()
	for k := range l {
		if l[k].What == api.Send {
			c.next++
			l[k].N = c.next
		}
	}
	before := c.p.Look()
	came := asked(c.p, task, draw, l...)
	switch {
	case came.err != api.OK:
		return
	case came.waits:
		c.asks[task] = l
		for _, t := range l {
			c.offer(t)
		}
		return
	}
	did := l[came.answer.Case]
	if did.What == api.Send {
		c.offer(did)
	}
	for _, w := range came.wakes {
		c.goes(t, w)
	}
	if did.What == api.Recv {
		c.received(t, did.Chan, came.answer.N, before)
	}
}

// offer puts a talk's number, if it has one, behind its channel's line.
func (c *line) offer(t api.Talk) {
	if t.What == api.Send && t.Chan != 0 {
		c.lines[t.Chan] = append(c.lines[t.Chan], t.N)
	}
}

// goes looks at a task that goes on: it did one of the talks for which it waited; of all others nothing comes.
func (c *line) goes(t *testing.T, w api.Wake) {
	t.Helper()
	l, waited := c.asks[w.Task]
	if !waited || w.Answer.Case < 0 || w.Answer.Case >= len(l) {
		t.Fatalf("%v goes on, which waited for %v", w, l)
	}
	delete(c.asks, w.Task)
	for k, talk := range l {
		if talk.What != api.Send || k == w.Answer.Case {
			continue
		}
		row := c.lines[talk.Chan]
		c.lines[talk.Chan] = slices.DeleteFunc(row, func(n int) bool { return n == talk.N })
	}
	if did := l[w.Answer.Case]; did.What == api.Recv {
		c.received(t, did.Chan, w.Answer.N, c.p.Look())
	} else if w.Answer.N != 0 {
		t.Fatalf("%v sent, and received %d", w, w.Answer.N)
	}
}

// received looks at a number that came out of a channel: it is the first one of its line, and was never received.
func (c *line) received(t *testing.T, pipe, n int, seen []api.Pipe) {
	t.Helper()
	if n == 0 {
		if !seen[pipe-1].Shut || len(c.lines[pipe]) > 0 {
			t.Fatalf("nothing came of channel %d, %v, in whose line are %v", pipe, seen[pipe-1], c.lines[pipe])
		}
		return
	}
	if c.got[n] || len(c.lines[pipe]) == 0 || c.lines[pipe][0] != n {
		t.Fatalf("%d came of channel %d; its line is %v (twice: %v)", n, pipe, c.lines[pipe], c.got[n])
	}
	c.got[n] = true
	c.lines[pipe] = c.lines[pipe][1:]
}

// keeps says that all of each line is in its channel, or with those that wait to send into it; and that nobody waits for what could be done.
func (c *line) keeps(t *testing.T) {
	t.Helper()
	for k, seen := range c.p.Look() {
		there := seen.Nums
		for _, w := range seen.Sends {
			there = append(there, c.asks[w.Task][w.Case].N)
		}
		if !slices.Equal(there, c.lines[k+1]) {
			t.Fatalf("channel %d has %v; its line is %v", k+1, there, c.lines[k+1])
		}
		if len(seen.Recvs) > 0 && (len(seen.Nums) > 0 || seen.Shut) {
			t.Fatalf("channel %d: %v: who waits to receive could", k+1, seen)
		}
		if len(seen.Sends) > 0 && (len(seen.Nums) < seen.Size || seen.Shut) {
			t.Fatalf("channel %d: %v: who waits to send could", k+1, seen)
		}
		who := slices.Concat(seen.Sends, seen.Recvs)
		slices.SortFunc(who, func(a, b api.Wait) int { return cmp.Compare(a.Task, b.Task) })
		if len(seen.Sends) > 0 && len(seen.Recvs) > 0 && who[0].Task != who[len(who)-1].Task {
			t.Fatalf("channel %d: %v: they could meet", k+1, seen)
		}
	}
}

// 11.2, 11.3: nothing is lost in a channel, and nothing doubled; the first one in is the first one out; one of several is done, once; nobody waits for what could be done.
func TestDrawnKeeps(t *testing.T) {
	d := die(12)
	for range 600 {
		c := &line{p: &pipe.Pipes{}, asks: map[int][]api.Talk{}, lines: map[int][]int{}, got: map[int]bool{}}
		many := 1 + d.n(4)
		for range many {
			_, _ = c.p.Make(d.n(4))
		}
		for range 80 {
			if d.n(25) == 0 {
				w, _ := c.p.Close(1 + d.n(many))
				for _, w := range w {
					c.goes(t, w)
				}
			} else {
				c.ask(t, d.n(8), d.n(60)-30, d.cases(many))
			}
			c.keeps(t)
		}
	}
}

// P4: what comes of calls hangs on them alone: another thing that is asked the same tells the same.
func TestDrawnAlike(t *testing.T) {
	d := die(13)
	for range 100 {
		p, q := &pipe.Pipes{}, &pipe.Pipes{}
		for range 60 {
			switch d.n(8) {
			case 0:
				size := d.n(5)
				_, _ = p.Make(size)
				_, _ = q.Make(size)
			case 1:
				c := d.n(p.Made() + 1)
				w, _ := p.Close(c)
				if v, _ := q.Close(c); !slices.Equal(v, w) {
					t.Fatalf("Close(%d) = %v, then %v", c, w, v)
				}
			default:
				task, draw, l := d.n(9), d.n(90)-45, d.cases(p.Made())
				talks(t, q, task, draw, asked(p, task, draw, l...), l...)
			}
			if !slices.EqualFunc(p.Look(), q.Look(), same) {
				t.Fatalf("Look = %v, then %v", p.Look(), q.Look())
			}
		}
	}
}

// P1: many tasks that wait at one channel go on as few do, in their order, each once.
func TestManyTasks(t *testing.T) {
	const many = 20_000
	p := made(t, 0, 0)
	var want []api.Wake
	for task := range many {
		l := []api.Talk{recv(1)}
		if task%1000 == 0 {
			l = []api.Talk{recv(2), recv(1), recv(1)}
		}
		talks(t, p, task, 0, waits(), l...)
		want = append(want, wakes(task, len(l)/2, 0))
	}
	talks(t, p, -1, 0, does(0, 0, wakes(0, 1, 7)), send(1, 7))
	closes(t, p, 1, api.OK, want[1:]...)
	looks(t, p, api.Pipe{Shut: true}, api.Pipe{})
}
