package room_test

import (
	"slices"
	"testing"

	"sluiceway/api"
	"sluiceway/room"
)

// events looks at all that tasks did.
func events(t *testing.T, r *room.Room, want ...api.Event) {
	t.Helper()
	if got := r.Events(); !slices.Equal(got, want) {
		t.Errorf("Events = %v; want %v", got, want)
	}
}

func event(task, what, obj int) api.Event { return api.Event{Task: task, What: what, Obj: obj} }

// stage is a room with a channel of this size, behind one of another size; task 1 has done this, then task 2 that: the events since they began.
func stage(t *testing.T, size int, first, then []api.Ask) []api.Event {
	t.Helper()
	r, _ := begins(t,
		[]api.Ask{ask(api.AskMake, 5), ask(api.AskMake, size), ask(api.AskGo, 1), ask(api.AskGo, 2), talk(recv(0))},
		append(slices.Clone(first), talk(recv(0))), append(slices.Clone(then), talk(recv(0))))
	takes(t, r, 0, 0, 0, 0, 0)
	before := len(r.Events())
	takes(t, r, make([]int, len(first))...)
	if r.Hall().Tasks[1] != api.Blocked {
		takes(t, r, 0)
	}
	takes(t, r, slices.Repeat([]int{-1}, len(then))...) // task 1 may go on, too
	return r.Events()[before:]
}

// stages says that there are these events then.
func stages(t *testing.T, size int, first, then []api.Ask, want ...api.Event) {
	t.Helper()
	if got := stage(t, size, first, then); !slices.Equal(got, want) {
		t.Errorf("size %d, %v, then %v: events %v; want %v", size, first, then, got, want)
	}
}

func one(l ...api.Ask) []api.Ask { return l }

// 12.4: of a Send that is done: EvSend; then the EvRecv of the task that received it, if any.
func TestEventsSend(t *testing.T) {
	for size := range 3 {
		stages(t, size, one(talk(recv(2))), one(talk(send(2, 5))),
			event(2, api.EvSend, 2), event(1, api.EvRecv, 2))
		stages(t, size, one(talk(send(0, 1), recv(1), recv(2))), one(talk(recv(1), send(2, 5), other())),
			event(2, api.EvSend, 2), event(1, api.EvRecv, 2))
	}
	stages(t, 2, nil, one(talk(send(2, 5)), talk(send(1, 5)), talk(recv(0), send(2, 5))),
		event(2, api.EvSend, 2), event(2, api.EvSend, 1), event(2, api.EvSend, 2))
}

// 12.4: of a Recv from a channel of size 0: the EvSend of the task that sent, then its own EvRecv.
func TestEventsRecvNone(t *testing.T) {
	stages(t, 0, one(talk(send(2, 5))), one(talk(recv(2))),
		event(1, api.EvSend, 2), event(2, api.EvRecv, 2))
	stages(t, 0, one(talk(recv(1), recv(2), send(2, 5))), one(talk(other(), recv(1), recv(2))),
		event(1, api.EvSend, 2), event(2, api.EvRecv, 2))
}

// 12.4: of a Recv from any other: EvRecv; then the EvSend of the task whose number came in, if any.
func TestEventsRecv(t *testing.T) {
	stages(t, 2, one(talk(send(2, 5)), talk(send(2, 6))), one(talk(recv(2)), talk(recv(1), recv(2))),
		event(1, api.EvSend, 2), event(1, api.EvSend, 2), event(2, api.EvRecv, 2), event(2, api.EvRecv, 2))
	for size := 1; size < 4; size++ {
		fills := slices.Repeat(one(talk(send(2, 5))), size+1)
		want := slices.Repeat([]api.Event{event(1, api.EvSend, 2)}, size)
		want = append(want, event(2, api.EvRecv, 2), event(1, api.EvSend, 2))
		stages(t, size, fills, one(talk(recv(2))), want...)
		want = append(want, event(2, api.EvRecv, 2))
		stages(t, size, fills, one(talk(recv(2)), talk(recv(2))), want...)
	}
	stages(t, 1, one(talk(send(2, 0)), talk(send(2, 0))), one(talk(recv(2))), // numbers that are 0 are numbers
		event(1, api.EvSend, 2), event(2, api.EvRecv, 2), event(1, api.EvSend, 2))
}

// 12.4: of a Recv from what is shut: EvRecv, while it has numbers; then EvZero.
func TestEventsShut(t *testing.T) {
	shut := ask(api.AskClose, 2)
	stages(t, 0, one(shut), one(talk(recv(2)), talk(recv(1), recv(2))),
		event(1, api.EvShut, 2), event(2, api.EvZero, 2), event(2, api.EvZero, 2))
	stages(t, 3, one(talk(send(2, 0)), talk(send(2, 4)), shut), one(talk(recv(2)), talk(recv(2)), talk(recv(2))),
		event(1, api.EvSend, 2), event(1, api.EvSend, 2), event(1, api.EvShut, 2),
		event(2, api.EvRecv, 2), event(2, api.EvRecv, 2), event(2, api.EvZero, 2))
}

// 12.4: of AskClose: EvShut, then EvZero of each that goes on, in their order.
func TestEventsClose(t *testing.T) {
	goes := ask(api.AskGo, 1)
	r, _ := begins(t, []api.Ask{ask(api.AskMake, 1), goes, goes, goes, pause(), ask(api.AskClose, 1)}, []api.Ask{talk(recv(1), recv(1))})
	takes(t, r, 0, 0, 0, 0, 2, 2, 1, 0) // 2 waits ahead of 3, and 3 ahead of 1
	takes(t, r, 0)
	events(t, r,
		event(0, api.EvFork, 1), event(0, api.EvFork, 2), event(0, api.EvFork, 3),
		event(0, api.EvShut, 1), event(2, api.EvZero, 1), event(3, api.EvZero, 1), event(1, api.EvZero, 1))
}

// 12.4: of AskGo: EvFork, of the new task, told of the one who asked.
func TestEventsFork(t *testing.T) {
	r, _ := begins(t, []api.Ask{ask(api.AskGo, 1), ask(api.AskGo, 2), pause()}, []api.Ask{ask(api.AskGo, 2)})
	takes(t, r, 0, 1, 0)
	events(t, r, event(0, api.EvFork, 1), event(1, api.EvFork, 2), event(0, api.EvFork, 3))
}

// 12.4: of AskLoad, AskStore that are done: EvRead, EvWrite.
func TestEventsGlobals(t *testing.T) {
	r, _ := begins(t,
		[]api.Ask{ask(api.AskGo, 1), ask(api.AskStore, 1, 5), ask(api.AskLoad, 0), ask(api.AskStore, 0, 5, 6)},
		[]api.Ask{ask(api.AskLoad, 1), ask(api.AskStore, 0, 1)})
	takes(t, r, 0, 0, 1, 0, 1)
	want := []api.Event{event(0, api.EvFork, 1), event(0, api.EvWrite, 1), event(1, api.EvRead, 1), event(0, api.EvRead, 0), event(1, api.EvWrite, 0)}
	events(t, r, want...)
	takes(t, r, 0) // Odd
	events(t, r, want...)
}

// 12.4: of all else there are no events.
func TestEventsNone(t *testing.T) {
	r, _ := begins(t, []api.Ask{
		pause(), ask(api.AskMake, 2), ask(api.AskLen, 1), ask(api.AskPrint, 4), ask(api.AskSleep, 0), ask(api.AskSleep, 4), pause(),
		talk(recv(1), other()), talk(other()), ask(api.AskFault, api.Zero),
	})
	takes(t, r, make([]int, 11)...)
	if end := r.Hall().End; end != api.Zero {
		t.Errorf("End = %d", end)
	}
	events(t, r)
	r, _ = begins(t)
	takes(t, r, 0)
	events(t, r)
}
