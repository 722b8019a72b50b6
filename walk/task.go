package walk

import (
	"slices"

	"sluiceway/api"
)

// step is something that is to be done yet. It is done at once, or puts ahead of all else what it takes to do it.
type step func(t *task)

// answered is what is done with what came of something that was asked for.
type answered func(t *task, a api.Answer)

// function is a function of a program: its parameters' names, and what it does, up to its end.
type function struct {
	params []string
	body   step
}

// task is one that goes on.
type task struct {
	// todo is what is to be done yet, the next thing last.
	todo []step
	// values wait to be taken, the last one first.
	values []int
	// calls are the functions that have begun, and not ended; the last one goes on.
	calls []call
	ticks int
	// ask is what it asks for, if it does, and told what is done with the answer (nil: it is told none).
	ask  api.Ask
	told answered
}

// call is a function that has begun: the names that are there, block by block (the innermost one's come last), the loops in which it is, and how many steps were to be done behind it.
type call struct {
	blocks []map[string]int
	loops  []loop
	behind int
}

// loop is a For that has begun: how many blocks were about it, how many steps were to be done behind it, and what is done to do it once more.
type loop struct {
	blocks int
	behind int
	again  step
}

// goOn does what is to be done, up to what is asked for.
func (t *task) goOn() {
	if t.ask.What == api.AskPause {
		t.ask = api.Ask{}
	}
	t.ticks = api.Ticks
	for t.ask.What == 0 && len(t.todo) > 0 {
		last := len(t.todo) - 1
		next := t.todo[last]
		t.todo = t.todo[:last]
		next(t)
	}
}

// first puts steps ahead of all that is to be done, the first one first.
func (t *task) first(steps ...step) {
	for _, s := range slices.Backward(steps) {
		t.todo = append(t.todo, s)
	}
}

// asks lets the task ask for something.
func (t *task) asks(a api.Ask, told answered) {
	t.ask, t.told = a, told
}

// put has a value wait.
func (t *task) put(n int) {
	t.values = append(t.values, n)
}

// take takes the value that was put last.
func (t *task) take() int {
	last := len(t.values) - 1
	n := t.values[last]
	t.values = t.values[:last]
	return n
}

// takeAll takes the values that were put last, in the order in which they were put.
func (t *task) takeAll(count int) []int {
	rest := len(t.values) - count
	l := slices.Clone(t.values[rest:])
	t.values = t.values[:rest]
	return l
}

// here is the function that goes on.
func (t *task) here() *call {
	return &t.calls[len(t.calls)-1]
}

// enter begins a function. Its parameters lie in the block in which its own names will.
func (t *task) enter(f *function, args []int) {
	names := map[string]int{}
	for k, name := range f.params {
		names[name] = 0
		if k < len(args) {
			names[name] = args[k]
		}
	}
	t.calls = append(t.calls, call{blocks: []map[string]int{names}, behind: len(t.todo)})
	t.first(f.body)
}

// leave ends the function that goes on, whatever is to be done in it yet; n is what it answers. Nothing is left of a task that ends.
func (t *task) leave(n int) {
	if len(t.calls) == 1 {
		*t = task{ask: api.Ask{What: api.AskEnd}}
		return
	}
	t.todo = t.todo[:t.here().behind]
	t.calls = t.calls[:len(t.calls)-1]
	t.put(n)
}

// open begins a block.
func open(t *task) {
	c := t.here()
	c.blocks = append(c.blocks, map[string]int{})
}

// shut ends a block.
func shut(t *task) {
	c := t.here()
	c.blocks = c.blocks[:len(c.blocks)-1]
}

// let has a new name in the innermost block.
func (t *task) let(name string, n int) {
	blocks := t.here().blocks
	blocks[len(blocks)-1][name] = n
}

// names are those of the innermost block that has such a name (nil: none has).
func (t *task) names(name string) map[string]int {
	for _, names := range slices.Backward(t.here().blocks) {
		if _, found := names[name]; found {
			return names
		}
	}
	return nil
}

// tick is a TICK: is there none left, it is to be done yet at the next turn.
func tick(t *task) {
	if t.ticks == 0 {
		t.first(tick)
		t.asks(api.Ask{What: api.AskPause}, nil)
		return
	}
	t.ticks--
}

// begin begins a loop.
func (t *task) begin(again step) {
	c := t.here()
	c.loops = append(c.loops, loop{blocks: len(c.blocks), behind: len(t.todo), again: again})
	t.first(again)
}

// back goes out to the innermost loop: nothing of what it does this time is to be done yet.
func (t *task) back() loop {
	c := t.here()
	inner := c.loops[len(c.loops)-1]
	c.blocks = c.blocks[:inner.blocks]
	t.todo = t.todo[:inner.behind]
	return inner
}

// end ends the innermost loop.
func end(t *task) {
	t.back()
	c := t.here()
	c.loops = c.loops[:len(c.loops)-1]
}

// goRound goes on behind what the innermost loop does.
func goRound(t *task) {
	inner := t.back()
	t.first(tick, inner.again)
}
