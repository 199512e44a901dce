package ring

import (
	"math"
	"math/rand"
	"slices"
	"testing"

	"leat/api"
)

// filled is a row of at most so many items that holds these. It is gone round before, so that they do not stand at its beginning.
func filled(t *testing.T, most, turns int, items ...int) *Ring[int] {
	t.Helper()
	r := New[int](most)
	for range turns {
		if e := r.Push(-1); e != api.OK {
			t.Fatalf("Push ahead: %d", e)
		}
		r.Pop()
	}
	for _, x := range items {
		if e := r.Push(x); e != api.OK {
			t.Fatalf("Push of %d onto a row of at most %d: %d", x, most, e)
		}
	}
	return r
}

// holds fails unless all that tells of the row tells these items.
func holds(t *testing.T, r *Ring[int], want ...int) {
	t.Helper()
	if r.Len() != len(want) {
		t.Fatalf("Len: got %d, want %d", r.Len(), len(want))
	}
	if got := r.Slice(); !slices.Equal(got, want) {
		t.Fatalf("Slice: got %v, want %v", got, want)
	}
	if got := slices.Collect(r.All()); !slices.Equal(got, want) {
		t.Fatalf("All: got %v, want %v", got, want)
	}
	for i, x := range want {
		if got, is := r.At(i); got != x || !is {
			t.Fatalf("At of %d: got %d, %v, want %d", i, got, is, x)
		}
	}
	for _, i := range []int{math.MinInt, -len(want) - 1, -1, len(want), len(want) + 1, math.MaxInt} {
		if got, is := r.At(i); got != 0 || is {
			t.Fatalf("At of %d, of %d items: got %d, %v", i, len(want), got, is)
		}
	}
	first, is := r.Front()
	if len(want) == 0 && (first != 0 || is) || len(want) > 0 && (first != want[0] || !is) {
		t.Fatalf("Front of %v: got %d, %v", want, first, is)
	}
}

// count is the numbers from 0 to n, n excluded.
func count(n int) []int {
	l := make([]int, n)
	for i := range l {
		l[i] = i
	}
	return l
}

// P5.1

func TestNewIsEmpty(t *testing.T) {
	for _, most := range []int{math.MinInt, -1, 0, 1, 2, api.MaxRing, api.MaxRing + 1, math.MaxInt} {
		holds(t, New[int](most))
	}
}

func TestPushUpToTheMost(t *testing.T) {
	for _, c := range []struct{ most, counts int }{
		{math.MinInt, 0}, {-3, 0}, {-1, 0}, {0, 0}, {1, 1}, {2, 2}, {3, 3}, {7, 7}, {8, 8}, {9, 9}, {1000, 1000},
		{api.MaxRing - 1, api.MaxRing - 1}, {api.MaxRing, api.MaxRing}, {api.MaxRing + 1, api.MaxRing}, {2 * api.MaxRing, api.MaxRing}, {math.MaxInt, api.MaxRing},
	} {
		r := New[int](c.most)
		for i := range c.counts {
			if e := r.Push(i); e != api.OK || r.Len() != i+1 {
				t.Fatalf("Push of %d onto a row of at most %d: %d, Len %d", i, c.most, e, r.Len())
			}
		}
		for range 2 {
			if e := r.Push(-7); e != api.ErrFull {
				t.Fatalf("Push onto a full row of at most %d: %d", c.most, e)
			}
		}
		holds(t, r, count(c.counts)...)
	}
}

func TestPushOntoAFullRowChangesNothing(t *testing.T) {
	for turns := range 9 {
		r := filled(t, 4, turns, 10, 11, 12, 13)
		if e := r.Push(14); e != api.ErrFull {
			t.Fatalf("Push: %d", e)
		}
		holds(t, r, 10, 11, 12, 13)
		if x, is := r.Pop(); x != 10 || !is {
			t.Fatalf("Pop: %d, %v", x, is)
		}
		if e := r.Push(15); e != api.OK {
			t.Fatalf("Push onto what Pop has left: %d", e)
		}
		holds(t, r, 11, 12, 13, 15)
	}
}

func TestRowOfOne(t *testing.T) {
	r := New[int](1)
	for x := range 5 {
		if e := r.Push(x); e != api.OK {
			t.Fatalf("Push of %d: %d", x, e)
		}
		if e := r.Push(9); e != api.ErrFull {
			t.Fatalf("Push behind %d: %d", x, e)
		}
		holds(t, r, x)
		if got, is := r.Pop(); got != x || !is {
			t.Fatalf("Pop: got %d, %v, want %d", got, is, x)
		}
		holds(t, r)
	}
}

func TestRowThatNobodyMadeIsOfNone(t *testing.T) {
	var r Ring[int]
	if e := r.Push(1); e != api.ErrFull {
		t.Errorf("Push: %d", e)
	}
	holds(t, &r)
}

func TestRoomIsTakenAsItIsNeeded(t *testing.T) {
	// So many of these at once are more than any machine has room for.
	r := New[[1 << 22]byte](api.MaxRing)
	if e := r.Push([1 << 22]byte{7}); e != api.OK || r.Len() != 1 {
		t.Fatalf("Push: %d, Len %d", e, r.Len())
	}
	if x, is := r.Pop(); x[0] != 7 || !is {
		t.Fatalf("Pop: %d, %v", x[0], is)
	}
}

func TestRowsAreApart(t *testing.T) {
	a, b := New[int](2), New[int](2)
	a.Push(1)
	b.Push(2)
	b.Push(3)
	holds(t, a, 1)
	holds(t, b, 2, 3)
}

// P5.2

func TestPopTakesTheFirst(t *testing.T) {
	for turns := range 9 {
		r := filled(t, 6, turns, 5, 6, 7)
		for i, want := range []int{5, 6, 7} {
			for range 2 {
				if x, is := r.Front(); x != want || !is {
					t.Fatalf("Front: got %d, %v, want %d", x, is, want)
				}
			}
			if x, is := r.Pop(); x != want || !is {
				t.Fatalf("Pop: got %d, %v, want %d", x, is, want)
			}
			holds(t, r, []int{5, 6, 7}[i+1:]...)
		}
		for range 3 {
			if x, is := r.Pop(); x != 0 || is {
				t.Fatalf("Pop of an empty row: %d, %v", x, is)
			}
			holds(t, r)
		}
	}
}

func TestZeroIsAnItem(t *testing.T) {
	r := filled(t, 2, 1, 0)
	holds(t, r, 0)
	if x, is := r.Pop(); x != 0 || !is {
		t.Errorf("Pop: %d, %v", x, is)
	}
}

func TestAllLeftEarly(t *testing.T) {
	for turns := range 9 {
		r := filled(t, 5, turns, 1, 2, 3, 4, 5)
		for stop := 1; stop <= 5; stop++ {
			var told []int
			for x := range r.All() {
				told = append(told, x)
				if len(told) == stop {
					break
				}
			}
			if !slices.Equal(told, []int{1, 2, 3, 4, 5}[:stop]) {
				t.Fatalf("All, left after %d: %v", stop, told)
			}
		}
		asked := 0
		r.All()(func(int) bool { asked++; return false })
		if asked != 1 {
			t.Fatalf("All went on after it was left: %d", asked)
		}
		holds(t, r, 1, 2, 3, 4, 5)
	}
}

func TestAllTellsWhatTheRowHeldAtTheCall(t *testing.T) {
	r := filled(t, 4, 3, 1, 2, 3)
	all := r.All()
	none := New[int](4).All()
	r.Pop()
	r.Push(4)
	r.Push(5)
	for range 2 { // it may be gone through again
		if got := slices.Collect(all); !slices.Equal(got, []int{1, 2, 3}) {
			t.Fatalf("All: %v", got)
		}
	}
	if got := slices.Collect(none); len(got) != 0 {
		t.Fatalf("All of an empty row: %v", got)
	}
	holds(t, r, 2, 3, 4, 5)
}

func TestALoopOverAllMayChangeTheRow(t *testing.T) {
	r := filled(t, 4, 2, 1, 2, 3)
	var told []int
	for x := range r.All() {
		told = append(told, x)
		r.Pop()
		r.Push(10 * x)
	}
	if !slices.Equal(told, []int{1, 2, 3}) {
		t.Errorf("All: %v", told)
	}
	holds(t, r, 10, 20, 30)
}

// P5.3

// TestWhatComesOutIsWhatCameIn plays rows of many lengths beside plain lists, by steps that a fixed seed gives.
func TestWhatComesOutIsWhatCameIn(t *testing.T) {
	dice := rand.New(rand.NewSource(5))
	for _, most := range []int{0, 1, 2, 3, 4, 5, 7, 8, 9, 16, 17, 40} {
		r, next := New[int](most), 0
		var list []int
		for range 3000 {
			switch kind := dice.Intn(20); {
			case kind < 10:
				want := api.OK
				if len(list) == most {
					want = api.ErrFull
				} else {
					list = append(list, next)
				}
				if e := r.Push(next); e != want {
					t.Fatalf("Push: got %d, want %d", e, want)
				}
				next++
			case kind < 17:
				x, is := r.Pop()
				if is != (len(list) > 0) || is && x != list[0] || !is && x != 0 {
					t.Fatalf("Pop: %d, %v, of %v", x, is, list)
				}
				list = list[min(1, len(list)):]
			case kind < 19:
				n := dice.Intn(most+4) - 2
				want := min(max(n, 0), len(list))
				if got := r.Drop(n); got != want {
					t.Fatalf("Drop of %d: got %d, want %d", n, got, want)
				}
				list = list[want:]
			default:
				part := dice.Intn(5) + 1
				all := len(list)
				list = slices.DeleteFunc(slices.Clone(list), func(x int) bool { return x%part == 0 })
				if got := r.Keep(func(x int) bool { return x%part != 0 }); got != all-len(list) {
					t.Fatalf("Keep: got %d, want %d", got, all-len(list))
				}
			}
			holds(t, r, list...)
		}
	}
}

func TestGoneRoundSeveralTimes(t *testing.T) {
	for _, most := range []int{1, 2, 3, 1000, api.MaxRing} {
		r := New[int](most)
		in, out := 0, 0
		for range 5 {
			for r.Push(in) == api.OK {
				in++
			}
			if r.Len() != most {
				t.Fatalf("Len: got %d, want %d", r.Len(), most)
			}
			for range (most + 1) / 2 {
				if x, is := r.Pop(); x != out || !is {
					t.Fatalf("Pop of at most %d: got %d, %v, want %d", most, x, is, out)
				}
				out++
			}
		}
		for x, is := r.Pop(); is; x, is = r.Pop() {
			if x != out {
				t.Fatalf("Pop of at most %d: got %d, want %d", most, x, out)
			}
			out++
		}
		if in != out {
			t.Fatalf("of at most %d: %d came in, %d went out", most, in, out)
		}
	}
}

func TestItemsOfAnyType(t *testing.T) {
	type packet struct {
		name string
		list []int
	}
	p := New[*packet](2)
	a, b := &packet{name: "a"}, &packet{name: "b"}
	p.Push(a)
	p.Push(nil)
	if p.Push(b) != api.ErrFull || !slices.Equal(p.Slice(), []*packet{a, nil}) {
		t.Error("pointers")
	}
	if x, is := p.Pop(); x != a || !is {
		t.Error("the first pointer")
	}
	if x, is := p.Pop(); x != nil || !is {
		t.Error("nil is an item")
	}
	v := New[packet](1)
	v.Push(packet{"c", []int{1, 2}})
	if x, is := v.Front(); !is || x.name != "c" || !slices.Equal(x.list, []int{1, 2}) {
		t.Error("structs")
	}
	f := New[func() int](1)
	f.Push(func() int { return 8 })
	if g, is := f.Pop(); !is || g() != 8 {
		t.Error("functions")
	}
	e := New[struct{}](3)
	if e.Push(struct{}{}) != api.OK || e.Push(struct{}{}) != api.OK || e.Drop(1) != 1 || e.Len() != 1 {
		t.Error("items of no bytes")
	}
}

// P5.4

func TestSliceIsANewList(t *testing.T) {
	for turns := range 9 {
		r := filled(t, 4, turns, 1, 2, 3)
		list, again := r.Slice(), r.Slice()
		list[0], list[2] = 100, 300
		holds(t, r, 1, 2, 3)
		list = append(list, 400)
		if e := r.Push(4); e != api.OK {
			t.Fatalf("Push: %d", e)
		}
		holds(t, r, 1, 2, 3, 4)
		r.Pop()
		r.Keep(func(x int) bool { return x == 3 })
		r.Push(5)
		r.Push(6)
		r.Push(7)
		holds(t, r, 3, 5, 6, 7)
		if !slices.Equal(list, []int{100, 2, 300, 400}) || !slices.Equal(again, []int{1, 2, 3}) {
			t.Fatalf("lists that were told: %v, %v", list, again)
		}
		r.Drop(4)
		if len(r.Slice()) != 0 || !slices.Equal(again, []int{1, 2, 3}) {
			t.Fatalf("of an empty row: %v; told before: %v", r.Slice(), again)
		}
	}
	if got := New[int](3).Slice(); len(got) != 0 {
		t.Errorf("Slice of a new row: %v", got)
	}
}

func TestDropTakesTheFirst(t *testing.T) {
	for _, c := range []struct {
		n, want int
		left    []int
	}{
		{math.MinInt, 0, []int{1, 2, 3, 4}}, {-1, 0, []int{1, 2, 3, 4}}, {0, 0, []int{1, 2, 3, 4}},
		{1, 1, []int{2, 3, 4}}, {3, 3, []int{4}}, {4, 4, nil}, {5, 4, nil}, {api.MaxRing + 1, 4, nil}, {math.MaxInt, 4, nil},
	} {
		for turns := range 9 {
			r := filled(t, 5, turns, 1, 2, 3, 4)
			if got := r.Drop(c.n); got != c.want {
				t.Fatalf("Drop of %d: got %d, want %d", c.n, got, c.want)
			}
			holds(t, r, c.left...)
			if e := r.Push(9); e != api.OK {
				t.Fatalf("Push after Drop of %d: %d", c.n, e)
			}
			holds(t, r, append(slices.Clone(c.left), 9)...)
		}
	}
	for _, n := range []int{math.MinInt, -1, 0, 1, math.MaxInt} {
		if got := New[int](2).Drop(n); got != 0 {
			t.Errorf("Drop of %d of an empty row: %d", n, got)
		}
	}
}

func TestKeepAsksOnceOfEachInOrder(t *testing.T) {
	items := []int{1, 2, 3, 4, 5}
	for answers := range 1 << len(items) { // each bit says of one item whether it stays
		for turns := range 7 {
			r := filled(t, 5, turns, items...)
			var asked, left []int
			taken := r.Keep(func(x int) bool {
				asked = append(asked, x)
				stays := answers>>(x-1)&1 == 1
				if stays {
					left = append(left, x)
				}
				return stays
			})
			if !slices.Equal(asked, items) {
				t.Fatalf("Keep asked of %v", asked)
			}
			if taken != len(items)-len(left) {
				t.Fatalf("Keep of %v: got %d taken out", left, taken)
			}
			holds(t, r, left...)
			for len(left) < 5 {
				if e := r.Push(10 + len(left)); e != api.OK {
					t.Fatalf("Push after Keep: %d", e)
				}
				left = append(left, 10+len(left))
			}
			if e := r.Push(99); e != api.ErrFull {
				t.Fatalf("Push onto a row that is full again: %d", e)
			}
			holds(t, r, left...)
		}
	}
}

func TestKeepOfAnEmptyRowAsksNothing(t *testing.T) {
	for _, r := range []*Ring[int]{New[int](0), New[int](3), filled(t, 3, 4)} {
		if got := r.Keep(func(int) bool { t.Error("asked"); return false }); got != 0 {
			t.Errorf("Keep: %d", got)
		}
		holds(t, r)
	}
}

func TestKeepOfManyItems(t *testing.T) {
	r := filled(t, api.MaxRing, 5, count(api.MaxRing)...)
	if got := r.Keep(func(x int) bool { return x%2 == 1 }); got != api.MaxRing/2 || r.Len() != api.MaxRing/2 {
		t.Fatalf("Keep: %d, Len %d", got, r.Len())
	}
	for i := range api.MaxRing / 2 {
		if x, is := r.Pop(); x != 2*i+1 || !is {
			t.Fatalf("Pop: got %d, %v, want %d", x, is, 2*i+1)
		}
	}
}

func TestKeepSeesTheRowWhole(t *testing.T) {
	r := filled(t, 3, 2, 1, 2, 3)
	taken := r.Keep(func(x int) bool {
		holds(t, r, 1, 2, 3)
		return false
	})
	if taken != 3 {
		t.Errorf("Keep: %d", taken)
	}
	holds(t, r)
}

// wrong inputs

func TestKeepOfNoFunction(t *testing.T) {
	r := filled(t, 3, 2, 1, 2)
	if got := r.Keep(nil); got != 0 {
		t.Errorf("Keep of nil: %d", got)
	}
	holds(t, r, 1, 2)
	if got := New[int](3).Keep(nil); got != 0 {
		t.Errorf("Keep of nil, of an empty row: %d", got)
	}
}

func TestKeepOfAFunctionThatPanics(t *testing.T) {
	r := filled(t, 4, 2, 1, 2, 3, 4)
	var asked []int
	taken := r.Keep(func(x int) bool {
		asked = append(asked, x)
		if x == 2 {
			panic("of this one nothing is said")
		}
		return x != 3
	})
	if taken != 1 || !slices.Equal(asked, []int{1, 2, 3, 4}) {
		t.Errorf("Keep: %d, asked of %v", taken, asked)
	}
	holds(t, r, 1, 2, 4)
}

func TestKeepOfAFunctionThatChangesTheRow(t *testing.T) {
	for name, change := range map[string]func(r *Ring[int]){
		"Push": func(r *Ring[int]) { r.Push(9) },
		"Pop":  func(r *Ring[int]) { r.Pop() },
		"Drop": func(r *Ring[int]) { r.Drop(5) },
		"Keep": func(r *Ring[int]) { r.Keep(func(int) bool { return false }) },
	} {
		r := filled(t, 4, 3, 1, 2, 3)
		var asked []int
		taken := r.Keep(func(x int) bool {
			asked = append(asked, x)
			change(r)
			return x != 2
		})
		if taken != 1 || !slices.Equal(asked, []int{1, 2, 3}) {
			t.Errorf("Keep with %s within: %d, asked of %v", name, taken, asked)
		}
		holds(t, r, 1, 3)
	}
}

func TestNil(t *testing.T) {
	var r *Ring[int]
	if e := r.Push(1); e != api.ErrArg {
		t.Errorf("Push: %d", e)
	}
	if x, is := r.Pop(); x != 0 || is {
		t.Errorf("Pop: %d, %v", x, is)
	}
	for _, n := range []int{math.MinInt, -1, 0, 1, math.MaxInt} {
		if got := r.Drop(n); got != 0 {
			t.Errorf("Drop of %d: %d", n, got)
		}
	}
	if got := r.Keep(func(int) bool { t.Error("asked"); return false }); got != 0 {
		t.Errorf("Keep: %d", got)
	}
	if got := r.Keep(nil); got != 0 {
		t.Errorf("Keep of nil: %d", got)
	}
	holds(t, r) // Front, At, Len, All and Slice
}
