package clock_test

import (
	"maps"
	"math"
	"math/rand"
	"slices"
	"testing"

	"sluiceway/api"
	"sluiceway/clock"
)

// at sets a clock's Now, of which nothing else is to come by then.
func at(t *testing.T, now int) *clock.Clock {
	t.Helper()
	c := &clock.Clock{}
	set(t, c, now, 0)
	if due := c.Due(); !slices.Equal(due, []int{0}) || c.Now() != now {
		t.Fatalf("Due = %v, Now = %d; want 0 alone at %d", due, c.Now(), now)
	}
	return c
}

func set(t *testing.T, c *clock.Clock, when, id int) {
	t.Helper()
	if err := c.Set(when, id); err != nil {
		t.Fatalf("Set(%d, %d): %v", when, id, err)
	}
}

// noSet asks that an id is not set, and that nothing is changed.
func noSet(t *testing.T, c *clock.Clock, when, id int, want api.Errno, now int, coming map[int]int) {
	t.Helper()
	if err := c.Set(when, id); err != error(want) {
		t.Errorf("Set(%d, %d) = %v; want %v", when, id, err, want)
	}
	looksLike(t, c, now, coming)
}

// looksLike asks a clock for all that is to be seen of it; coming has the times of those that are to come.
func looksLike(t *testing.T, c *clock.Clock, now int, coming map[int]int) {
	t.Helper()
	if c.Now() != now || c.Len() != len(coming) {
		t.Fatalf("Now, Len = %d, %d; want %d, %d", c.Now(), c.Len(), now, len(coming))
	}
	earliest, some := earliestOf(coming)
	if when, comes := c.Next(); when != earliest || comes != some {
		t.Fatalf("Next = %d, %v; want %d, %v", when, comes, earliest, some)
	}
	for id, want := range coming {
		if when, comes := c.When(id); when != want || !comes {
			t.Fatalf("When(%d) = %d, %v; want %d", id, when, comes, want)
		}
	}
	for _, id := range []int{math.MinInt, -1, 0, 1, 2, 77, math.MaxInt} {
		if _, comes := coming[id]; comes {
			continue
		}
		if when, comes := c.When(id); when != 0 || comes {
			t.Fatalf("When(%d) = %d, %v; it doesn't come", id, when, comes)
		}
	}
}

func earliestOf(coming map[int]int) (int, bool) {
	if len(coming) == 0 {
		return 0, false
	}
	return slices.Min(slices.Collect(maps.Values(coming))), true
}

// dueOf takes those out of coming that come at its earliest time: their ids, rising.
func dueOf(coming map[int]int) []int {
	earliest, _ := earliestOf(coming)
	var ids []int
	for id, when := range coming {
		if when == earliest {
			ids = append(ids, id)
		}
	}
	for _, id := range ids {
		delete(coming, id)
	}
	slices.Sort(ids)
	return ids
}

// due asks for what is due, of all that comes, until nothing does.
func due(t *testing.T, c *clock.Clock, coming map[int]int) {
	t.Helper()
	for len(coming) > 0 {
		now, _ := earliestOf(coming)
		want := dueOf(coming)
		if got := c.Due(); !slices.Equal(got, want) {
			t.Fatalf("Due at %d = %v; want %v", now, got, want)
		}
		looksLike(t, c, now, coming)
	}
}

// 5.1: at first Now is 0, and nothing is to come.
func TestZeroValue(t *testing.T) {
	var c clock.Clock
	for range 2 {
		looksLike(t, &c, 0, nil)
		if l := c.Due(); len(l) != 0 {
			t.Errorf("Due = %v", l)
		}
		if c.Drop(0) {
			t.Error("Drop(0) = true")
		}
	}
	set(t, &c, 0, 0)
	looksLike(t, &c, 0, map[int]int{0: 0})
}

// 5.1: each id comes at its time, the earliest ones first, whatever the order in which they were set.
func TestDueInOrder(t *testing.T) {
	times := []int{9, 3, 7, 1, 5}
	for first := range times {
		c := &clock.Clock{}
		coming := map[int]int{}
		for k := range times {
			when := times[(first+k)%len(times)]
			set(t, c, when, 100-when)
			coming[100-when] = when
			looksLike(t, c, 0, coming)
		}
		due(t, c, coming)
	}
}

// 5.1: those that come at one time are told together, rising, those below 0 first.
func TestDueTogether(t *testing.T) {
	c := &clock.Clock{}
	for _, id := range []int{5, -3, math.MaxInt, 0, 77, math.MinInt, 10, 9} {
		set(t, c, 40, id)
	}
	set(t, c, 41, -100)
	set(t, c, 39, 100)
	for _, want := range [][]int{{100}, {math.MinInt, -3, 0, 5, 9, 10, 77, math.MaxInt}, {-100}, nil} {
		if got := c.Due(); !slices.Equal(got, want) {
			t.Errorf("Due = %v; want %v", got, want)
		}
	}
	looksLike(t, c, 41, nil)
}

// 5.1: nothing is due where none is to come, and Now stays as it was.
func TestDueOfNone(t *testing.T) {
	c := at(t, 12)
	for range 3 {
		if l := c.Due(); len(l) != 0 {
			t.Errorf("Due = %v", l)
		}
		looksLike(t, c, 12, nil)
	}
}

// 5.1: what came comes no more, and may be set anew.
func TestSetAnew(t *testing.T) {
	c := at(t, 3)
	for when := 3; when < 9; when++ {
		set(t, c, when, 0)
		noSet(t, c, when, 0, api.ErrTwice, max(3, when-1), map[int]int{0: when})
		if got := c.Due(); !slices.Equal(got, []int{0}) {
			t.Errorf("Due = %v; want 0", got)
		}
		looksLike(t, c, when, nil)
	}
}

// 5.1: a time below Now is ErrRange, ahead of ErrTwice; Now itself is to come yet.
func TestSetBelowNow(t *testing.T) {
	for _, now := range []int{0, 1, 50, api.MaxNow, math.MaxInt} {
		c := at(t, now)
		coming := map[int]int{7: now}
		set(t, c, now, 7)
		for _, when := range []int{math.MinInt, -1, now - 1} {
			noSet(t, c, when, 8, api.ErrRange, now, coming)
			noSet(t, c, when, 7, api.ErrRange, now, coming)
		}
		noSet(t, c, now, 7, api.ErrTwice, now, coming)
		noSet(t, c, math.MaxInt, 7, api.ErrTwice, now, coming)
		due(t, c, coming)
	}
}

// 5.1: an id that is to come is ErrTwice at any time that may be, and keeps its own.
func TestSetTwice(t *testing.T) {
	c := &clock.Clock{}
	coming := map[int]int{}
	for id := -5; id <= 5; id++ {
		coming[id] = 20 - id*id%7
		set(t, c, coming[id], id)
	}
	for id := -5; id <= 5; id++ {
		for _, when := range []int{0, 13, 20, math.MaxInt} {
			noSet(t, c, when, id, api.ErrTwice, 0, coming)
		}
	}
	due(t, c, coming)
}

// 5.1: whichever one is dropped, it comes no more, once, and all others do.
func TestDropOfAnyOne(t *testing.T) {
	for dropped := range 20 {
		c := &clock.Clock{}
		coming := map[int]int{}
		for id := range 20 {
			coming[id] = id * 7 % 11
			set(t, c, coming[id], id)
		}
		if !c.Drop(dropped) {
			t.Errorf("Drop(%d) = false", dropped)
		}
		delete(coming, dropped)
		for _, id := range []int{dropped, -1, 20, math.MinInt, math.MaxInt} {
			if c.Drop(id) {
				t.Errorf("Drop(%d) = true; it doesn't come", id)
			}
		}
		looksLike(t, c, 0, coming)
		due(t, c, coming)
	}
}

// 5.1: an id that was dropped may be set to another time, and comes then alone.
func TestSetBehindDrop(t *testing.T) {
	c := &clock.Clock{}
	set(t, c, 10, 1)
	set(t, c, 5, 2)
	for _, when := range []int{3, 30, 10, 10} {
		if !c.Drop(1) {
			t.Error("Drop(1) = false")
		}
		set(t, c, when, 1)
		looksLike(t, c, 0, map[int]int{1: when, 2: 5})
	}
	due(t, c, map[int]int{1: 10, 2: 5})
}

// 5.1: where the last one is dropped, Now stays as it was.
func TestDropOfTheLast(t *testing.T) {
	c := at(t, 8)
	set(t, c, 9, 4)
	if !c.Drop(4) {
		t.Error("Drop(4) = false")
	}
	looksLike(t, c, 8, nil)
	if l := c.Due(); len(l) != 0 {
		t.Errorf("Due = %v", l)
	}
	looksLike(t, c, 8, nil)
	set(t, c, 8, 4)
	due(t, c, map[int]int{4: 8})
}

// P4: what Due tells is the caller's.
func TestDueIsTheCallers(t *testing.T) {
	c := &clock.Clock{}
	for id := range 6 {
		set(t, c, 1+id/3, id)
	}
	first := c.Due()
	for k := range first {
		first[k] = 99
	}
	first = append(first, 99)
	if second := c.Due(); !slices.Equal(second, []int{3, 4, 5}) || !slices.Equal(first, []int{99, 99, 99, 99}) {
		t.Errorf("Due = %v, behind %v", second, first)
	}
	looksLike(t, c, 2, nil)
}

// 5.1: two clocks have nothing to do with one another.
func TestTwoClocks(t *testing.T) {
	a, b := &clock.Clock{}, &clock.Clock{}
	set(t, a, 5, 1)
	set(t, b, 6, 1)
	due(t, a, map[int]int{1: 5})
	looksLike(t, b, 0, map[int]int{1: 6})
}

// 5.1: a clock does what a list of times does, whatever is done with it, one behind the other.
func TestAsAListOfTimes(t *testing.T) {
	drawn := rand.New(rand.NewSource(5))
	for _, ids := range []int{1, 2, 8, 60} {
		c := &clock.Clock{}
		now, coming := 0, map[int]int{}
		for range 3000 {
			id := drawn.Intn(ids) - ids/3
			switch drawn.Intn(8) {
			case 0, 1, 2, 3, 4:
				when := now + drawn.Intn(12) - 1
				_, comes := coming[id]
				want := api.OK
				if when < now {
					want = api.ErrRange
				} else if comes {
					want = api.ErrTwice
				} else {
					coming[id] = when
				}
				if err := c.Set(when, id); api.Tell(err) != want {
					t.Fatalf("Set(%d, %d) at %d = %v; want %v", when, id, now, err, want)
				}
			case 5:
				if when, some := earliestOf(coming); some {
					now = when
				}
				want := dueOf(coming)
				if got := c.Due(); !slices.Equal(got, want) {
					t.Fatalf("Due = %v; want %v", got, want)
				}
			default:
				_, comes := coming[id]
				delete(coming, id)
				if got := c.Drop(id); got != comes {
					t.Fatalf("Drop(%d) = %v; want %v", id, got, comes)
				}
			}
			looksLike(t, c, now, coming)
		}
	}
}

// 5.1: many ids, set in no order, some of them dropped, come in theirs.
func TestManyIds(t *testing.T) {
	const many = 100_000
	drawn := rand.New(rand.NewSource(55))
	c := &clock.Clock{}
	times := drawn.Perm(many)
	for id, when := range times {
		set(t, c, when/2, id)
	}
	for id := 0; id < many; id += 3 {
		if !c.Drop(id) {
			t.Fatalf("Drop(%d) = false", id)
		}
	}
	left, last := many-(many+2)/3, -1
	for c.Len() > 0 {
		ids := c.Due()
		if c.Now() <= last || len(ids) == 0 || !slices.IsSorted(ids) {
			t.Fatalf("Due at %d = %v, behind %d", c.Now(), ids, last)
		}
		for _, id := range ids {
			if id%3 == 0 || times[id]/2 != c.Now() {
				t.Fatalf("%d comes at %d; want %d", id, c.Now(), times[id]/2)
			}
		}
		left, last = left-len(ids), c.Now()
	}
	if left != 0 {
		t.Errorf("%d didn't come", left)
	}
}
