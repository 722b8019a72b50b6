package ring_test

import (
	"math"
	"math/rand"
	"runtime"
	"slices"
	"testing"
	"weak"

	"sluiceway/api"
	"sluiceway/ring"
)

// sizes are those with which rings are looked at: none, few, and as many as may be.
func sizes() []int {
	return []int{0, 1, 2, 3, 5, 8, api.MaxRing - 1, api.MaxRing}
}

// made is a ring for so many things.
func made[T any](t *testing.T, size int) *ring.Ring[T] {
	t.Helper()
	r, err := ring.New[T](size)
	if r == nil || err != nil {
		t.Fatalf("New(%d) = %v, %v", size, r, err)
	}
	return r
}

// holding is a ring for so many things, which holds l, the first one in the slot with that number.
func holding(t *testing.T, size, slot int, l ...int) *ring.Ring[int] {
	t.Helper()
	r := made[int](t, size)
	for range slot {
		push(t, r, -1)
		pop(t, r, -1)
	}
	for _, v := range l {
		push(t, r, v)
	}
	return r
}

func push(t *testing.T, r *ring.Ring[int], v int) {
	t.Helper()
	if err := r.Push(v); err != nil {
		t.Fatalf("Push(%d): %v", v, err)
	}
}

func pop(t *testing.T, r *ring.Ring[int], want int) {
	t.Helper()
	if v, err := r.Pop(); v != want || err != nil {
		t.Fatalf("Pop = %d, %v; want %d", v, err, want)
	}
}

// upTo are the numbers from 1 to n.
func upTo(n int) []int {
	l := make([]int, n)
	for k := range l {
		l[k] = k + 1
	}
	return l
}

// looksLike asks a ring for all that is to be seen of it.
func looksLike(t *testing.T, r *ring.Ring[int], size int, want []int) {
	t.Helper()
	if r.Len() != len(want) || r.Size() != size {
		t.Fatalf("Len, Size = %d, %d; want %d, %d", r.Len(), r.Size(), len(want), size)
	}
	seen := 0
	for k, v := range r.All() {
		if k != seen || k >= len(want) || v != want[k] {
			t.Fatalf("All tells %d as the %d-th of %v, behind %d others", v, k, want, seen)
		}
		seen++
	}
	if seen != len(want) {
		t.Fatalf("All tells %d things; want %d", seen, len(want))
	}
	for k, v := range want {
		if got, err := r.At(k); got != v || err != nil {
			t.Fatalf("At(%d) = %d, %v; want %d", k, got, err, v)
		}
	}
	for _, k := range []int{math.MinInt, -size, -1, len(want), len(want) + 1, size + 1, math.MaxInt} {
		if k >= 0 && k < len(want) {
			continue
		}
		if got, err := r.At(k); got != 0 || err != error(api.ErrRange) {
			t.Fatalf("At(%d) = %d, %v; want 0 and ErrRange", k, got, err)
		}
	}
}

// 4.1: New makes a ring of nothing, of each size that there may be.
func TestNew(t *testing.T) {
	for size := range api.MaxRing + 1 {
		looksLike(t, made[int](t, size), size, nil)
	}
}

// 4.1: sizes beyond both ends are ErrRange, and there is no ring.
func TestNewBeyondItsSizes(t *testing.T) {
	for _, size := range []int{math.MinInt, -api.MaxRing, -2, -1, api.MaxRing + 1, api.MaxRing + 2, 1 << 40, math.MaxInt} {
		if r, err := ring.New[int](size); r != nil || err != error(api.ErrRange) {
			t.Errorf("New(%d) = %v, %v; want ErrRange", size, r, err)
		}
	}
}

// 4.1: a ring's zero value is one for none.
func TestZeroValue(t *testing.T) {
	var r ring.Ring[int]
	for range 2 {
		looksLike(t, &r, 0, nil)
		if err := r.Push(1); err != error(api.ErrFull) {
			t.Errorf("Push = %v; want ErrFull", err)
		}
		if v, err := r.Pop(); v != 0 || err != error(api.ErrNone) {
			t.Errorf("Pop = %d, %v; want ErrNone", v, err)
		}
		if n := r.Drop(func(int) bool { return true }); n != 0 {
			t.Errorf("Drop = %d", n)
		}
	}
}

// 4.1: Push fills a ring up to its size; then it is ErrFull, and changes nothing.
func TestPushUpToSize(t *testing.T) {
	for _, size := range sizes() {
		for slot := range min(size, 4) + 1 {
			if size == 0 && slot > 0 {
				continue
			}
			r := holding(t, size, slot, upTo(size)...)
			for range 3 {
				if err := r.Push(99); err != error(api.ErrFull) {
					t.Fatalf("Push into a full ring of %d: %v; want ErrFull", size, err)
				}
				looksLike(t, r, size, upTo(size))
			}
		}
	}
}

// 4.1: the first one in is the first one out; then Pop is ErrNone, and changes nothing.
func TestPopInOrder(t *testing.T) {
	for _, size := range sizes() {
		r := holding(t, size, 0, upTo(size)...)
		for k := range size {
			pop(t, r, k+1)
			looksLike(t, r, size, upTo(size)[k+1:])
		}
		for range 3 {
			if v, err := r.Pop(); v != 0 || err != error(api.ErrNone) {
				t.Fatalf("Pop of nothing = %d, %v; want 0 and ErrNone", v, err)
			}
			looksLike(t, r, size, nil)
		}
	}
}

// 4.1: a ring that lost one has room for one more, as often as that may be.
func TestRoundAndRound(t *testing.T) {
	for _, size := range sizes()[1:] {
		r := holding(t, size, 0, upTo(size)...)
		want := upTo(size)
		for n := range 3*size + 1 {
			pop(t, r, want[0])
			push(t, r, 1000+n)
			want = append(want[1:], 1000+n)
			looksLike(t, r, size, want)
		}
	}
}

// 4.1: a loop over All may stop at any one, and another one begins at the first again.
func TestAllStopsAnywhere(t *testing.T) {
	for slot := range 5 {
		all := holding(t, 5, slot, upTo(5)...).All()
		for stop := range 5 {
			var seen []int
			for k, v := range all {
				seen = append(seen, v)
				if k == stop {
					break
				}
			}
			if !slices.Equal(seen, upTo(stop+1)) {
				t.Errorf("a loop that stops at %d saw %v", stop, seen)
			}
		}
	}
}

// 4.1, P4: what All tells hangs on the calls before it alone, not on those that a loop makes.
func TestAllTellsWhatThereWas(t *testing.T) {
	for slot := range 5 {
		r := holding(t, 5, slot, 1, 2, 3)
		all := r.All()
		for range 2 {
			var seen []int
			for k, v := range all {
				if k != len(seen) {
					t.Errorf("%d is the %d-th", v, k)
				}
				seen = append(seen, v)
				_, _ = r.Pop()
				_ = r.Push(10 * v)
			}
			if !slices.Equal(seen, upTo(3)) {
				t.Errorf("a loop that pops and pushes saw %v", seen)
			}
		}
		looksLike(t, r, 5, []int{10, 20, 30})
	}
}

// 4.1: Drop takes out whatever is told, of every choice of things, and leaves the others in their order.
func TestDropOfEveryChoice(t *testing.T) {
	for size := 1; size <= 7; size++ {
		for slot := range size {
			for choice := range 1 << size {
				r := holding(t, size, slot, upTo(size)...)
				var asked, left []int
				got := r.Drop(func(v int) bool {
					asked = append(asked, v)
					return choice>>(v-1)&1 == 1
				})
				for v := 1; v <= size; v++ {
					if choice>>(v-1)&1 == 0 {
						left = append(left, v)
					}
				}
				if got != size-len(left) || !slices.Equal(asked, upTo(size)) {
					t.Fatalf("Drop of %b = %d, f is asked of %v", choice, got, asked)
				}
				looksLike(t, r, size, left)
			}
		}
	}
}

// 4.1: equal things are each asked for, and each counted.
func TestDropOfEqualThings(t *testing.T) {
	r := holding(t, 8, 6, 7, 7, 1, 7, 7)
	asked := 0
	got := r.Drop(func(v int) bool {
		asked++
		return v == 7 && asked != 2
	})
	if got != 3 || asked != 5 {
		t.Errorf("Drop = %d, f is asked %d times; want 3 and 5", got, asked)
	}
	looksLike(t, r, 8, []int{7, 1})
}

// 4.1: a ring from which things were dropped has their room, in which it goes on as any other.
func TestAfterDrop(t *testing.T) {
	for slot := range 6 {
		r := holding(t, 6, slot, upTo(6)...)
		if n := r.Drop(func(v int) bool { return v%2 == 1 }); n != 3 {
			t.Fatalf("Drop = %d; want 3", n)
		}
		for _, v := range []int{7, 8, 9} {
			push(t, r, v)
		}
		if err := r.Push(10); err != error(api.ErrFull) {
			t.Fatalf("Push = %v; want ErrFull", err)
		}
		looksLike(t, r, 6, []int{2, 4, 6, 7, 8, 9})
		for _, v := range []int{2, 4, 6, 7, 8, 9} {
			pop(t, r, v)
		}
	}
}

// P1: no f that is handed in makes Drop panic; what it doesn't say so of stays.
func TestDropByFunctionsThatPanic(t *testing.T) {
	r := holding(t, 5, 3, upTo(5)...)
	if n := r.Drop(nil); n != 0 {
		t.Errorf("Drop(nil) = %d", n)
	}
	looksLike(t, r, 5, upTo(5))
	var asked []int
	n := r.Drop(func(v int) bool {
		asked = append(asked, v)
		if v == 2 {
			panic("two")
		}
		return v%2 == 0
	})
	if n != 1 || !slices.Equal(asked, upTo(5)) {
		t.Errorf("Drop = %d, f is asked of %v", n, asked)
	}
	looksLike(t, r, 5, []int{1, 2, 3, 5})
}

// 4.1: a ring does what a list does, whatever is done with it, one behind the other.
func TestAsAList(t *testing.T) {
	drawn := rand.New(rand.NewSource(4))
	for _, size := range sizes() {
		r := made[int](t, size)
		var want []int
		for n := range 2000 {
			switch drawn.Intn(9) {
			case 0, 1, 2, 3, 4:
				if err := r.Push(n); (err == nil) != (len(want) < size) {
					t.Fatalf("Push beside %d of %d: %v", len(want), size, err)
				}
				if len(want) < size {
					want = append(want, n)
				}
			case 5, 6, 7:
				v, err := r.Pop()
				if len(want) == 0 {
					if v != 0 || err != error(api.ErrNone) {
						t.Fatalf("Pop = %d, %v; want ErrNone", v, err)
					}
				} else if v != want[0] || err != nil {
					t.Fatalf("Pop = %d, %v; want %d", v, err, want[0])
				} else {
					want = want[1:]
				}
			default:
				by, before := 2+drawn.Intn(6), len(want)
				f := func(v int) bool { return v%by == 0 }
				want = slices.DeleteFunc(slices.Clone(want), f)
				if got := r.Drop(f); got != before-len(want) {
					t.Fatalf("Drop = %d; want %d", got, before-len(want))
				}
			}
			looksLike(t, r, size, want)
		}
	}
}

// 4.1: things may be of any type: texts, lists, and things that aren't compared.
func TestThingsOfAnyType(t *testing.T) {
	texts := made[string](t, 2)
	_ = texts.Push("one")
	_ = texts.Push("two")
	if s, err := texts.Pop(); s != "one" || err != nil {
		t.Errorf("Pop = %q, %v", s, err)
	}
	if s, err := texts.At(1); s != "" || err != error(api.ErrRange) {
		t.Errorf("At(1) = %q, %v; want nothing and ErrRange", s, err)
	}
	lists := made[[]int](t, 1)
	_ = lists.Push([]int{1, 2})
	if l, err := lists.At(0); !slices.Equal(l, []int{1, 2}) || err != nil {
		t.Errorf("At(0) = %v, %v", l, err)
	}
	_, _ = lists.Pop()
	if l, err := lists.Pop(); l != nil || err != error(api.ErrNone) {
		t.Errorf("Pop = %v, %v; want ErrNone", l, err)
	}
	functions := made[func() int](t, 1)
	_ = functions.Push(func() int { return 5 })
	if f, err := functions.Pop(); err != nil || f() != 5 {
		t.Errorf("Pop of a function: %v", err)
	}
	nothings := made[struct{}](t, api.MaxRing)
	for range api.MaxRing {
		_ = nothings.Push(struct{}{})
	}
	if err := nothings.Push(struct{}{}); nothings.Len() != api.MaxRing || err != error(api.ErrFull) {
		t.Errorf("%d things of no bytes, %v", nothings.Len(), err)
	}
}

// 4.1: what is taken out isn't kept: nothing of the ring holds on to it.
func TestWhatIsOutIsLetGo(t *testing.T) {
	r := made[*[100]int](t, 5)
	var things []weak.Pointer[[100]int]
	for range 5 {
		v := &[100]int{}
		things = append(things, weak.Make(v))
		_ = r.Push(v)
	}
	_, _ = r.Pop()
	holdsOnTo(t, things, 1, 2, 3, 4)
	k := 0
	r.Drop(func(*[100]int) bool {
		k++
		return k != 2
	})
	holdsOnTo(t, things, 2)
	runtime.KeepAlive(r)
}

// holdsOnTo asks which of the things are there yet.
func holdsOnTo(t *testing.T, things []weak.Pointer[[100]int], want ...int) {
	t.Helper()
	runtime.GC()
	var there []int
	for k, v := range things {
		if v.Value() != nil {
			there = append(there, k)
		}
	}
	if !slices.Equal(there, want) {
		t.Errorf("things %v are there yet; want %v", there, want)
	}
}
