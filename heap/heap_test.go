package heap

import (
	"math"
	"math/rand"
	"slices"
	"testing"
)

// at is events at these times; N tells in which order they stand here.
func at(times ...int64) []Event {
	var events []Event
	for i, x := range times {
		events = append(events, Event{At: x, N: int64(i)})
	}
	return events
}

// filled is a heap in which these wait, pushed in this order.
func filled(events ...Event) *Heap {
	h := New()
	for _, e := range events {
		h.Push(e)
	}
	return h
}

// inOrder is the events as they come, if they were pushed in the order of the list: the plain model.
func inOrder(events []Event) []Event {
	sorted := slices.Clone(events)
	for i := range sorted {
		for j := i; j > 0 && sorted[j].At < sorted[j-1].At; j-- {
			sorted[j], sorted[j-1] = sorted[j-1], sorted[j]
		}
	}
	return sorted
}

// holds fails unless all that tells of the heap, and changes nothing, tells these, in this order.
func holds(t *testing.T, h *Heap, want ...Event) {
	t.Helper()
	if h.Len() != len(want) {
		t.Fatalf("Len: got %d, want %d", h.Len(), len(want))
	}
	if got := h.Sorted(); !slices.Equal(got, want) {
		t.Fatalf("Sorted: got %v, want %v", got, want)
	}
	e, is := h.Peek()
	if len(want) == 0 && (e != Event{} || is) || len(want) > 0 && (e != want[0] || !is) {
		t.Fatalf("Peek: got %v, %v, of %v", e, is, want)
	}
}

// empties fails unless these are popped, one by one, and then none.
func empties(t *testing.T, h *Heap, want ...Event) {
	t.Helper()
	for i, w := range want {
		holds(t, h, want[i:]...)
		if e, is := h.Pop(); e != w || !is {
			t.Fatalf("Pop: got %v, %v, want %v", e, is, w)
		}
	}
	for range 2 {
		if e, is := h.Pop(); e != (Event{}) || is {
			t.Fatalf("Pop when none waits: %v, %v", e, is)
		}
		holds(t, h)
	}
}

// P6.1

func TestNoneWaits(t *testing.T) {
	holds(t, New())
	empties(t, New())
	empties(t, &Heap{})
}

func TestTheExampleOfTheChapter(t *testing.T) {
	e := at(5, 3, 5)
	empties(t, filled(e...), e[1], e[0], e[2])
}

func TestPushLetsWait(t *testing.T) {
	h := New()
	e := at(4, 9, 4, 1)
	h.Push(e[0])
	holds(t, h, e[0])
	h.Push(e[1])
	holds(t, h, e[0], e[1])
	h.Push(e[2])
	holds(t, h, e[0], e[2], e[1])
	h.Push(e[3])
	holds(t, h, e[3], e[0], e[2], e[1])
}

func TestEachFieldIsTold(t *testing.T) {
	e := Event{At: 7, Kind: -3, Flow: math.MaxInt, N: math.MinInt64}
	empties(t, filled(e), e)
}

func TestTheZeroEventIsOne(t *testing.T) {
	empties(t, filled(Event{}, Event{}), Event{}, Event{})
}

// TestEachOrderOfPushes pushes up to six events, of which some may have one At, in every order there is.
func TestEachOrderOfPushes(t *testing.T) {
	for many := range 7 {
		all := 1
		for range many {
			all *= many
		}
		for word := range all {
			times := make([]int64, many)
			for i, left := 0, word; i < many; i, left = i+1, left/many {
				times[i] = int64(left % many)
			}
			e := at(times...)
			h, want := filled(e...), inOrder(e)
			for _, w := range want {
				if got, is := h.Pop(); got != w || !is {
					t.Fatalf("Pop of %v: got %v, %v, want %v", times, got, is, w)
				}
			}
			if h.Len() != 0 {
				t.Fatalf("%d wait still of %v", h.Len(), times)
			}
		}
	}
}

func TestOneAtComesAsPushed(t *testing.T) {
	for _, x := range []int64{math.MinInt64, -1, 0, 8, math.MaxInt64} {
		e := make([]Event, 100)
		for i := range e {
			// What else an event has says nothing of when it comes.
			e[i] = Event{At: x, Kind: 100 - i, Flow: -i, N: int64(i * 37 % 100)}
		}
		empties(t, filled(e...), e...)
	}
}

func TestOneAtComesAsPushedBehindPops(t *testing.T) {
	h := New()
	pushed, popped := int64(0), int64(0)
	for range 50 {
		for range 3 {
			h.Push(Event{At: 6, N: pushed})
			pushed++
		}
		for range 2 {
			if e, is := h.Pop(); e.N != popped || !is {
				t.Fatalf("Pop: got %v, %v, want %d", e, is, popped)
			}
			popped++
		}
	}
	for e, is := h.Pop(); is; e, is = h.Pop() {
		if e.N != popped {
			t.Fatalf("Pop: got %v, want %d", e, popped)
		}
		popped++
	}
	if pushed != popped {
		t.Fatalf("%d pushed, %d popped", pushed, popped)
	}
}

func TestOneAtComesAsPushedWhenAllWerePoppedBetween(t *testing.T) {
	h := filled(at(5, 5)...)
	h.Pop()
	h.Pop()
	e := at(5, 5, 5, 4)
	for _, x := range e {
		h.Push(x)
	}
	empties(t, h, e[3], e[0], e[1], e[2])
}

func TestTheEndsOfAt(t *testing.T) {
	e := at(math.MaxInt64, 0, math.MinInt64, math.MaxInt64, -1, math.MinInt64, math.MaxInt64-1, 1, math.MinInt64+1)
	empties(t, filled(e...), e[2], e[5], e[8], e[4], e[1], e[7], e[6], e[0], e[3])
}

func TestAnEventOfATimePastComesFirst(t *testing.T) {
	h := filled(at(10, 20)...)
	h.Pop()
	past := Event{At: 3, N: 9}
	h.Push(past)
	empties(t, h, past, Event{At: 20, N: 1})
}

func TestPeekChangesNothing(t *testing.T) {
	e := at(3, 1, 2)
	h := filled(e...)
	for range 5 {
		if got, is := h.Peek(); got != e[1] || !is {
			t.Fatalf("Peek: %v, %v", got, is)
		}
	}
	empties(t, h, e[1], e[2], e[0])
	for range 5 {
		if got, is := h.Peek(); got != (Event{}) || is {
			t.Fatalf("Peek when none waits: %v, %v", got, is)
		}
	}
	h.Push(e[0])
	empties(t, h, e[0])
}

func TestHeapsAreApart(t *testing.T) {
	a, b := New(), New()
	e := at(5, 5, 1)
	a.Push(e[0])
	b.Push(e[1])
	a.Push(e[2])
	holds(t, b, e[1])
	empties(t, a, e[2], e[0])
	empties(t, b, e[1])
}

// P6.2

func TestDrop(t *testing.T) {
	for _, c := range []struct {
		name  string
		flows []int // of events at 4, 2, 4, 1, 4, 2, 9, 4
		drop  int
		want  int
	}{
		{"of none", []int{0, 1, 2, 3, 0, 1, 2, 3}, 4, 0},
		{"of all", []int{7, 7, 7, 7, 7, 7, 7, 7}, 7, 8},
		{"of some", []int{0, 1, 0, 1, 0, 1, 0, 1}, 1, 4},
		{"of the others", []int{0, 1, 0, 1, 0, 1, 0, 1}, 0, 4},
		{"of the first", []int{0, 0, 0, 1, 0, 0, 0, 0}, 1, 1},
		{"of the last", []int{0, 0, 0, 0, 0, 0, 1, 0}, 1, 1},
		{"of all but one", []int{1, 1, 0, 1, 1, 1, 1, 1}, 1, 7},
		{"below 0", []int{-1, 1, 0, -1, 1, 0, -1, 1}, -1, 3},
		{"of the least", []int{math.MinInt, 1, 0, 0, 0, 0, math.MinInt, math.MaxInt}, math.MinInt, 2},
		{"of the greatest", []int{math.MinInt, 1, 0, 0, 0, 0, math.MinInt, math.MaxInt}, math.MaxInt, 1},
		{"of an end that none has", []int{0, 1, 2, 3, 0, 1, 2, 3}, math.MinInt, 0},
	} {
		events := at(4, 2, 4, 1, 4, 2, 9, 4)
		var left []Event
		for i := range events {
			events[i].Flow = c.flows[i]
			if c.flows[i] != c.drop {
				left = append(left, events[i])
			}
		}
		h := filled(events...)
		if got := h.Drop(c.drop); got != c.want {
			t.Errorf("Drop %s: got %d, want %d", c.name, got, c.want)
		}
		if got := h.Drop(c.drop); got != 0 {
			t.Errorf("Drop %s once more: got %d", c.name, got)
		}
		// One pushed later comes behind those of its At that are left.
		late := Event{At: 4, Flow: c.drop, N: 100}
		h.Push(late)
		empties(t, h, inOrder(append(left, late))...)
	}
}

func TestDropAsksOfTheFlowAlone(t *testing.T) {
	e := Event{At: 3, Kind: 3, Flow: 1, N: 3}
	h := filled(e)
	if got := h.Drop(3); got != 0 {
		t.Errorf("Drop: %d", got)
	}
	empties(t, h, e)
}

func TestDropWhenNoneWaits(t *testing.T) {
	for _, flow := range []int{math.MinInt, -1, 0, 1, math.MaxInt} {
		h := New()
		if got := h.Drop(flow); got != 0 {
			t.Errorf("Drop of %d: %d", flow, got)
		}
		holds(t, h)
	}
}

// TestDropOfMany drops each flow of many, whose events stand in an order by which a drop leaves no place as it was.
func TestDropOfMany(t *testing.T) {
	for drop := range 7 {
		h := New()
		var left []Event
		for i := range 700 {
			e := Event{At: int64(i * 311 % 97), Flow: i * i % 7, N: int64(i)}
			h.Push(e)
			if e.Flow != drop {
				left = append(left, e)
			}
		}
		if got := h.Drop(drop); got != 700-len(left) {
			t.Fatalf("Drop: got %d, want %d", got, 700-len(left))
		}
		left = inOrder(left)
		holds(t, h, left...)
		for _, w := range left {
			if e, is := h.Pop(); e != w || !is {
				t.Fatalf("Pop: got %v, %v, want %v", e, is, w)
			}
		}
	}
}

// P6.3

func TestWhatIsPoppedRises(t *testing.T) {
	dice := rand.New(rand.NewSource(6))
	for _, many := range []int{1, 2, 3, 100, 1 << 16} {
		h := New()
		for range many {
			h.Push(Event{At: int64(dice.Uint64()) >> dice.Intn(64), Flow: dice.Intn(4)})
		}
		for _, drop := range []int{-1, 2} {
			h.Drop(drop)
			last, left := int64(math.MinInt64), h.Len()
			for range left / 2 {
				e, is := h.Pop()
				if !is || e.At < last {
					t.Fatalf("Pop of %d: %v, %v behind one at %d", many, e, is, last)
				}
				last = e.At
			}
		}
	}
}

// P6.4

func TestSortedLetsThemWait(t *testing.T) {
	e := at(8, 2, 8, 5, 2)
	h := filled(e...)
	want := []Event{e[1], e[4], e[3], e[0], e[2]}
	for range 3 {
		if got := h.Sorted(); !slices.Equal(got, want) || h.Len() != 5 {
			t.Fatalf("Sorted: %v, Len %d", got, h.Len())
		}
	}
	empties(t, h, want...)
	if got := h.Sorted(); len(got) != 0 {
		t.Errorf("Sorted when none waits: %v", got)
	}
}

func TestSortedIsANewList(t *testing.T) {
	e := at(8, 2, 8, 5, 2)
	want := []Event{e[1], e[4], e[3], e[0], e[2]}
	h := filled(e...)
	told, again := h.Sorted(), h.Sorted()
	for i := range told {
		told[i] = Event{At: -1, Flow: 9}
	}
	told = append(told, Event{At: -2})
	if h.Drop(9) != 0 {
		t.Error("what was changed in the list waits")
	}
	holds(t, h, want...)
	if !slices.Equal(again, want) {
		t.Errorf("the other list: %v", again)
	}
	h.Pop()
	h.Push(Event{At: 1})
	h.Merge(filled(at(0, 8)...))
	h.Drop(0)
	h.Push(Event{At: 3})
	if !slices.Equal(again, want) {
		t.Errorf("the list that was told: %v", again)
	}
}

func TestMerge(t *testing.T) {
	for _, c := range []struct{ first, other []int64 }{
		{nil, nil}, {[]int64{1}, nil}, {nil, []int64{1}}, {nil, []int64{5, 3, 5}}, {[]int64{5, 3, 5}, nil},
		{[]int64{5, 3, 5}, []int64{5, 3, 5}},
		{[]int64{9, 9, 9}, []int64{1, 2, 1}}, {[]int64{1, 2, 1}, []int64{9, 9, 9}},
		{[]int64{4, 4, 4, 4, 4, 4, 4, 4}, []int64{4, 4, 4, 4, 4}},
		{[]int64{math.MaxInt64, math.MinInt64}, []int64{math.MinInt64, math.MaxInt64, 0}},
	} {
		first, other := at(c.first...), at(c.other...)
		for i := range other {
			other[i].Flow = 1
		}
		a, b := filled(first...), filled(other...)
		if got := a.Merge(b); got != len(other) {
			t.Errorf("Merge of %v and %v: %d", c.first, c.other, got)
		}
		want := inOrder(append(first, inOrder(other)...))
		holds(t, a, want...)
		empties(t, b)
		if got := a.Merge(b); got != 0 {
			t.Errorf("Merge once more: %d", got)
		}
		empties(t, a, want...)
	}
}

// TestMergedComeInTheOrderOfTheOther merges events whose order of pushes is not theirs in the first one: there they were pushed earlier and later than those of the other.
func TestMergedComeInTheOrderOfTheOther(t *testing.T) {
	a, b := New(), New()
	for i := range 20 {
		a.Push(Event{At: int64(i % 2), N: int64(i)})
		a.Pop()
		b.Push(Event{At: 1, N: int64(100 + i)})
	}
	var want []Event
	for i := range 5 {
		e := Event{At: 1, N: int64(200 + i)}
		a.Push(e)
		want = append(want, e)
	}
	left := b.Sorted()
	waited := a.Sorted()
	if got := a.Merge(b); got != 20 {
		t.Fatalf("Merge: %d", got)
	}
	late := Event{At: 1, N: 300}
	a.Push(late)
	if !slices.Equal(waited, want) {
		t.Fatalf("waited: %v", waited)
	}
	empties(t, a, append(append(want, left...), late)...)
}

func TestTheOtherGoesOnBehindAMerge(t *testing.T) {
	a, b := filled(at(5, 1)...), filled(at(5, 2, 5)...)
	a.Merge(b)
	e := []Event{{At: 5, N: 10}, {At: 5, N: 11}, {At: 4, N: 12}}
	for _, x := range e {
		b.Push(x)
	}
	if a.Len() != 5 {
		t.Errorf("Len: %d", a.Len())
	}
	holds(t, b, e[2], e[0], e[1])
	before := a.Sorted()
	if got := b.Merge(a); got != 5 { // back again: those of b come first now
		t.Errorf("Merge: %d", got)
	}
	holds(t, a)
	empties(t, b, inOrder(append(e, before...))...)
}

func TestMergeOfItself(t *testing.T) {
	e := at(5, 3, 5)
	h := filled(e...)
	for range 2 {
		if got := h.Merge(h); got != 0 {
			t.Errorf("Merge: %d", got)
		}
	}
	empties(t, h, e[1], e[0], e[2])
	if got := h.Merge(h); got != 0 {
		t.Errorf("Merge when none waits: %d", got)
	}
}

func TestMergeOfNil(t *testing.T) {
	e := at(5, 3, 5)
	h := filled(e...)
	if got := h.Merge(nil); got != 0 {
		t.Errorf("Merge of nil: %d", got)
	}
	var none *Heap
	if got := none.Merge(h); got != 0 {
		t.Errorf("Merge into nil: %d", got)
	}
	if got := none.Merge(nil); got != 0 {
		t.Errorf("Merge of nil into nil: %d", got)
	}
	empties(t, h, e[1], e[0], e[2])
}

// TestBesidePlainLists plays two heaps beside plain lists, by steps that a fixed seed gives.
func TestBesidePlainLists(t *testing.T) {
	dice := rand.New(rand.NewSource(66))
	for range 40 {
		heaps := [2]*Heap{New(), New()}
		var lists [2][]Event // in the order in which they come
		for step := range 600 {
			i := dice.Intn(2)
			h, list := heaps[i], lists[i]
			switch kind := dice.Intn(40); {
			case kind < 24:
				e := Event{At: int64(dice.Intn(12)) - 6, Kind: dice.Intn(5), Flow: dice.Intn(6), N: int64(step)}
				h.Push(e)
				lists[i] = inOrder(append(list, e))
			case kind < 36:
				e, is := h.Pop()
				if is != (len(list) > 0) || is && e != list[0] || !is && e != (Event{}) {
					t.Fatalf("Pop: %v, %v, of %v", e, is, list)
				}
				lists[i] = list[min(1, len(list)):]
			case kind < 38:
				flow := dice.Intn(7)
				left := slices.DeleteFunc(slices.Clone(list), func(e Event) bool { return e.Flow == flow })
				if got := h.Drop(flow); got != len(list)-len(left) {
					t.Fatalf("Drop of %d: %d, of %v", flow, got, list)
				}
				lists[i] = left
			default:
				if got := h.Merge(heaps[1-i]); got != len(lists[1-i]) {
					t.Fatalf("Merge: %d, of %v", got, lists[1-i])
				}
				lists[i], lists[1-i] = inOrder(append(slices.Clone(list), lists[1-i]...)), nil
			}
			holds(t, heaps[0], lists[0]...)
			holds(t, heaps[1], lists[1]...)
		}
	}
}

// wrong inputs

func TestNil(t *testing.T) {
	var h *Heap
	for _, e := range []Event{{}, {At: 1, Kind: 2, Flow: 3, N: 4}, {At: math.MinInt64}, {At: math.MaxInt64}} {
		h.Push(e)
		empties(t, h) // Pop, Peek, Len and Sorted
	}
	for _, flow := range []int{math.MinInt, -1, 0, 3, math.MaxInt} {
		if got := h.Drop(flow); got != 0 {
			t.Errorf("Drop of %d: %d", flow, got)
		}
	}
	if got := h.Merge(New()); got != 0 {
		t.Errorf("Merge: %d", got)
	}
	if got := h.Merge(h); got != 0 {
		t.Errorf("Merge of itself: %d", got)
	}
}
