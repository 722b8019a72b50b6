package pipe

import (
	"slices"

	"sluiceway/api"
)

// Talk lets a task do one of several talks: the answer, who else goes on, and whether it waits. ErrState: the task waits; ErrLimit: there are more than MaxCases; ErrTwice; ErrArg; ErrRange; ErrFalse: it sends into what is shut.
func (p *Pipes) Talk(task int, l []api.Talk, draw int) (api.Answer, []api.Wake, bool, error) {
	if _, waits := p.asks[task]; waits {
		return api.Answer{}, nil, false, api.ErrState
	}
	if len(l) > api.MaxCases {
		return api.Answer{}, nil, false, api.ErrLimit
	}
	other, err := p.other(l)
	if err != nil {
		return api.Answer{}, nil, false, err
	}
	free := p.free(l)
	switch {
	case len(free) > 0:
		k := free[drawn(draw, len(free))]
		n, wakes, err := p.do(l[k])
		if err != nil {
			return api.Answer{}, nil, false, err
		}
		return api.Answer{Case: k, N: n}, wakes, false, nil
	case other >= 0:
		return api.Answer{Case: other}, nil, false, nil
	}
	p.wait(task, l)
	return api.Answer{}, nil, true, nil
}

// other is which one of talks is an Else, -1 if none is. ErrTwice: several are; ErrArg: one is nothing that there is; ErrRange: one is of a channel that there isn't.
func (p *Pipes) other(l []api.Talk) (int, error) {
	other := -1
	for k, t := range l {
		switch {
		case t.What == api.Else && other >= 0:
			return -1, api.ErrTwice
		case t.What == api.Else:
			other = k
		case t.What != api.Send && t.What != api.Recv:
			return -1, api.ErrArg
		case !p.may(t.Chan):
			return -1, api.ErrRange
		}
	}
	return other, nil
}

// free are those of the talks that can be done now, by their places, rising.
func (p *Pipes) free(l []api.Talk) []int {
	var free []int
	for k, t := range l {
		if t.What == api.Else {
			// Its Chan doesn't matter: there may be none of that number.
			continue
		}
		c := p.channel(t.Chan)
		if c != nil && c.free(t.What) {
			free = append(free, k)
		}
	}
	return free
}

// free tells whether a Send, or a Recv, can be done now.
func (c *channel) free(what int) bool {
	if c.shut {
		return true
	}
	if what == api.Send {
		return len(c.recvs) > 0 || c.nums.Len() < c.nums.Size()
	}
	return c.nums.Len() > 0 || len(c.sends) > 0
}

// drawn is which one of so many a draw stands for. There must be one.
func drawn(draw, many int) int {
	k := draw % many
	if k < 0 {
		k += many
	}
	return k
}

// do does a talk that is free: what is received (0: of a Send), and who goes on. ErrFalse: it sends into what is shut.
func (p *Pipes) do(t api.Talk) (int, []api.Wake, error) {
	c := p.channel(t.Chan)
	if t.What == api.Recv {
		return p.recv(c)
	}
	wakes, err := p.send(c, t.N)
	return 0, wakes, err
}

// send hands n to the first task that waits for one, or lays it behind a channel's numbers: who goes on. ErrFalse: the channel is shut.
func (p *Pipes) send(c *channel, n int) ([]api.Wake, error) {
	if c.shut {
		return nil, api.ErrFalse
	}
	if len(c.recvs) > 0 {
		return []api.Wake{p.wake(c.recvs[0], n)}, nil
	}
	return nil, c.nums.Push(n)
}

// recv takes a channel's first number, or the one of the first task that waits to send: it, and who goes on. It is 0, if there is none.
func (p *Pipes) recv(c *channel) (int, []api.Wake, error) {
	n, none := c.nums.Pop()
	if len(c.sends) == 0 {
		return n, nil, nil
	}
	first := c.sends[0]
	sent := p.asks[first.Task][first.Case].N
	wakes := []api.Wake{p.wake(first, 0)}
	if none != nil {
		return sent, wakes, nil
	}
	// There is room again, and who waits to send was there ahead of all that come now.
	return n, wakes, c.nums.Push(sent)
}

// wait puts a task behind all others, in the row of each channel it talks of. No channel has number 0, and no row.
func (p *Pipes) wait(task int, l []api.Talk) {
	if p.asks == nil {
		// The zero value of Pipes is one, so the map is made as the first task waits.
		p.asks = map[int][]api.Talk{}
	}
	p.asks[task] = slices.Clone(l)
	for k, t := range l {
		c := p.channel(t.Chan)
		if c == nil {
			continue
		}
		row := c.row(t.What)
		*row = append(*row, api.Wait{Task: task, Case: k})
	}
}

// wake lets a task go on from where it waits, with what it received. It waits in no row any more.
func (p *Pipes) wake(w api.Wait, n int) api.Wake {
	l := p.asks[w.Task]
	delete(p.asks, w.Task)
	for _, t := range l {
		c := p.channel(t.Chan)
		if c == nil {
			continue
		}
		row := c.row(t.What)
		*row = slices.DeleteFunc(*row, func(other api.Wait) bool { return other.Task == w.Task })
	}
	return api.Wake{Task: w.Task, Answer: api.Answer{Case: w.Case, N: n}}
}

// row is where those wait that want to send, or to receive.
func (c *channel) row(what int) *[]api.Wait {
	if what == api.Send {
		return &c.sends
	}
	return &c.recvs
}
