package room

import "sluiceway/api"

// tell puts an event behind all that there were.
func (r *Room) tell(task, what, obj int) {
	r.events = append(r.events, api.Event{Task: task, What: what, Obj: obj})
}

// tellEach puts an event of each task that goes on behind all that there were.
func (r *Room) tellEach(wakes []api.Wake, what, c int) {
	for _, w := range wakes {
		r.tell(w.Task, what, c)
	}
}

// tellTalk puts the events of a talk that was done behind all that there were. There were had numbers in its channel ahead of it.
func (r *Room) tellTalk(task int, t api.Talk, had int, wakes []api.Wake) {
	switch {
	case t.What == api.Else:
	case t.What == api.Send:
		r.tell(task, api.EvSend, t.Chan)
		r.tellEach(wakes, api.EvRecv, t.Chan)
	case had > 0:
		r.tell(task, api.EvRecv, t.Chan)
		r.tellEach(wakes, api.EvSend, t.Chan)
	case len(wakes) > 0:
		// A task waits to send just if there is no room: without a number, the channel is of size 0.
		r.tellEach(wakes, api.EvSend, t.Chan)
		r.tell(task, api.EvRecv, t.Chan)
	default:
		r.tell(task, api.EvZero, t.Chan)
	}
}
