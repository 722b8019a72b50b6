package clock

// entry is an id that is to come, and when.
type entry struct {
	when int
	id   int
}

// sooner tells whether a comes ahead of b: of those that come at one time, the least id does.
func sooner(a, b entry) bool {
	if a.when != b.when {
		return a.when < b.when
	}
	return a.id < b.id
}

// queue is entries as package heap lays them: the least one is the first. It keeps where each id's
// entry lies, so that any of them can be found, and taken out, without a search.
type queue struct {
	entries []entry
	places  map[int]int
	less    func(a, b entry) bool
}

// Len is how many entries there are.
func (q *queue) Len() int {
	return len(q.entries)
}

// Less tells whether the entry at place i is less than the one at place j.
func (q *queue) Less(i, j int) bool {
	return q.less(q.entries[i], q.entries[j])
}

// Swap lays two entries each at the other one's place.
func (q *queue) Swap(i, j int) {
	q.entries[i], q.entries[j] = q.entries[j], q.entries[i]
	q.places[q.entries[i].id] = i
	q.places[q.entries[j].id] = j
}

// Push lays an entry behind all others. It is for package heap alone.
func (q *queue) Push(x any) {
	if e, ok := x.(entry); ok {
		q.places[e.id] = len(q.entries)
		q.entries = append(q.entries, e)
	}
}

// Pop takes the last entry out. It is for package heap alone.
func (q *queue) Pop() any {
	last := len(q.entries) - 1
	e := q.entries[last]
	q.entries = q.entries[:last]
	delete(q.places, e.id)
	return e
}
