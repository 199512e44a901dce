package least

import (
	"cmp"
	"math"
	"math/big"
	"math/rand"
	"slices"
	"testing"
)

const (
	lowest  = math.MinInt64
	highest = math.MaxInt64
	longest = 1 << 50 // the longest window
	end     = 1 << 60 // of times, which begin at -end
)

// windows are numbers that a window may be, with what each counts as.
var windows = []struct{ is, as int64 }{
	{lowest, 0},
	{lowest + 1, 0},
	{-end, 0},
	{-longest - 1, 0},
	{-longest, 0},
	{-10, 0},
	{-1, 0},
	{0, 0},
	{1, 1},
	{2, 2},
	{10, 10},
	{1000000, 1000000},
	{1<<32 + 3, 1<<32 + 3},
	{longest - 1, longest - 1},
	{longest, longest},
	{longest + 1, longest},
	{2 * longest, longest},
	{end, longest},
	{highest - 1, longest},
	{highest, longest},
}

// times are numbers that a time may be, with what each counts as.
var times = []struct{ is, as int64 }{
	{lowest, -end},
	{lowest + 1, -end},
	{-2 * end, -end},
	{-end - 11, -end},
	{-end - 1, -end},
	{-end, -end},
	{-end + 1, -end + 1},
	{-end + 10, -end + 10},
	{-longest - 1, -longest - 1},
	{-longest, -longest},
	{-longest + 1, -longest + 1},
	{-11, -11},
	{-10, -10},
	{-1, -1},
	{0, 0},
	{1, 1},
	{10, 10},
	{11, 11},
	{longest - 1, longest - 1},
	{longest, longest},
	{longest + 1, longest + 1},
	{end - longest, end - longest},
	{end - 10, end - 10},
	{end - 1, end - 1},
	{end, end},
	{end + 1, end},
	{end + 11, end},
	{2 * end, end},
	{highest - 1, end},
	{highest, end},
}

// numbers are numbers that may come.
var numbers = []int64{lowest, lowest + 1, -end - 1, -end, -1000, -1, 0, 1, 1000, 1000, end, end + 1, highest - 1, highest}

// put is a call of Put.
type put struct{ at, x int64 }

// stamped is a number that came, and its time, without bounds.
type stamped struct {
	at *big.Int
	x  int64
}

// model is a filter as the chapter says it, which keeps all that came, by times without bounds.
type model struct {
	window *big.Int
	all    []stamped
}

// nearer is the nearer end of a number that is out of bounds.
func nearer(x, lo, hi int64) *big.Int {
	switch n := big.NewInt(x); {
	case n.Cmp(big.NewInt(lo)) < 0:
		return big.NewInt(lo)
	case n.Cmp(big.NewInt(hi)) > 0:
		return big.NewInt(hi)
	default:
		return n
	}
}

func newModel(window int64) *model {
	return &model{window: nearer(window, 0, longest)}
}

func (m *model) put(at, x int64) {
	counts := nearer(at, -end, end)
	if n := len(m.all); n > 0 && counts.Cmp(m.all[n-1].at) < 0 {
		counts = m.all[n-1].at
	}
	m.all = append(m.all, stamped{counts, x})
}

func (m *model) least(now int64) (int64, bool) {
	from := new(big.Int).Sub(nearer(now, -end, end), m.window)
	var found []int64
	for i, c := range m.all {
		if c.at.Cmp(from) > 0 || i == len(m.all)-1 {
			found = append(found, c.x)
		}
	}
	if len(found) == 0 {
		return 0, false
	}
	return slices.Min(found), true
}

func (m *model) len() int {
	n := 0
	for i, c := range m.all {
		less := true
		for _, later := range m.all[i+1:] {
			less = less && c.x < later.x
		}
		if less {
			n++
		}
	}
	return n
}

// leastIs fails unless this is the least one at a time; telling it changes nothing.
func leastIs(t *testing.T, f *Filter, now, want int64) {
	t.Helper()
	for range 2 {
		if got, is := f.Least(now); !is || got != want {
			t.Fatalf("Least at %d: got %d, %v, want %d", now, got, is, want)
		}
	}
}

// isNone fails unless it tells, at any time, that none came.
func isNone(t *testing.T, f *Filter) {
	t.Helper()
	for _, now := range times {
		if got, is := f.Least(now.is); is || got != 0 {
			t.Fatalf("Least at %d: got %d, %v, where none came", now.is, got, is)
		}
	}
	lenIs(t, f, 0)
}

// lenIs fails unless so many came that are less than all that came later; telling it changes nothing.
func lenIs(t *testing.T, f *Filter, want int) {
	t.Helper()
	for range 2 {
		if got := f.Len(); got != want {
			t.Fatalf("Len: got %d, want %d", got, want)
		}
	}
}

// filter is one to which these came, one behind the other.
func filter(window int64, l ...put) *Filter {
	f := New(window)
	for _, c := range l {
		f.Put(c.at, c.x)
	}
	return f
}

// at are numbers that came at one time.
func at(time int64, l ...int64) []put {
	var came []put
	for _, x := range l {
		came = append(came, put{time, x})
	}
	return came
}

// asTheModel holds a filter of this window to the model, behind each number that comes, at each of these times in this order.
func asTheModel(t *testing.T, window int64, l []put, nows []int64) {
	t.Helper()
	f, m := New(window), newModel(window)
	for i, c := range l {
		f.Put(c.at, c.x)
		m.put(c.at, c.x)
		for _, now := range nows {
			got, is := f.Least(now)
			if want, was := m.least(now); got != want || is != was {
				t.Fatalf("window %d, behind %d of %v, at %d: got %d, %v, want %d", window, i, l, now, got, is, want)
			}
			if got > c.x {
				t.Fatalf("window %d, behind %d of %v, at %d: got %d, above the last one", window, i, l, now, got)
			}
		}
		if got, want := f.Len(), m.len(); got != want {
			t.Fatalf("window %d, behind %d of %v: Len is %d, want %d", window, i, l, got, want)
		}
	}
}

// allTimes are the times, as they come.
func allTimes() []int64 {
	var l []int64
	for _, c := range times {
		l = append(l, c.is)
	}
	return l
}

func TestTheExampleOfTheChapter(t *testing.T) {
	f := New(10)
	f.Put(0, 5)
	f.Put(8, 7)
	leastIs(t, f, 9, 5)
	leastIs(t, f, 10, 7)
	lenIs(t, f, 2)
}

// P21.1

func TestNoneCame(t *testing.T) {
	for _, w := range windows {
		isNone(t, New(w.is))
	}
}

func TestOneCame(t *testing.T) {
	for _, w := range windows {
		for _, came := range times {
			for _, x := range numbers {
				f := filter(w.is, put{came.is, x})
				for _, now := range times {
					leastIs(t, f, now.is, x) // it is the last one, however long ago
				}
				lenIs(t, f, 1)
			}
		}
	}
}

func TestJustAWindowAgo(t *testing.T) {
	for _, w := range windows {
		for _, came := range []int64{-longest, -11, -1, 0, 1, 8, 1000, longest, 5 * longest} {
			f := filter(w.is, put{came, 5}, put{came, 9})
			edge := came + w.as
			leastIs(t, f, edge-1, 5) // it came one tick later than now less window
			leastIs(t, f, edge, 9)   // it came just then: not later
			leastIs(t, f, edge+1, 9) // and one tick earlier
			leastIs(t, f, edge-2, 5)
			leastIs(t, f, edge+2, 9)
			leastIs(t, f, came+longest, 9)
			leastIs(t, f, came-1, 5)
		}
	}
}

func TestThreeThatComeOneTickApart(t *testing.T) {
	for _, w := range windows {
		f := filter(w.is, put{20, 1}, put{21, 2}, put{22, 3}, put{22, 4})
		leastIs(t, f, 19+w.as, 1)
		leastIs(t, f, 20+w.as, 2)
		leastIs(t, f, 21+w.as, 3)
		leastIs(t, f, 22+w.as, 4)
		leastIs(t, f, 23+w.as, 4)
	}
}

func TestAWindowOutOfBoundsCountsAsTheNearerEnd(t *testing.T) {
	for _, w := range windows {
		f, g := New(w.is), New(w.as)
		for i, came := range times {
			f.Put(came.is, int64(i))
			g.Put(came.is, int64(i))
			for _, now := range times {
				want, _ := g.Least(now.is)
				leastIs(t, f, now.is, want)
			}
		}
	}
}

func TestWindowsBelowZeroAreZero(t *testing.T) {
	for _, w := range []int64{lowest, lowest + 1, -longest, -2, -1, 0} {
		f := filter(w, put{5, 1}, put{6, 2}, put{6, 3})
		leastIs(t, f, 3, 1)
		leastIs(t, f, 4, 1) // also what comes later than now is within
		leastIs(t, f, 5, 2)
		leastIs(t, f, 6, 3)
		leastIs(t, f, 7, 3)
	}
}

func TestWindowsAboveTheLongestOneAreIt(t *testing.T) {
	for _, w := range []int64{longest, longest + 1, end, 2 * end, highest - 1, highest} {
		f := filter(w, put{5, 1}, put{6, 2}, put{6, 3})
		leastIs(t, f, longest, 1)
		leastIs(t, f, longest+4, 1)
		leastIs(t, f, longest+5, 2)
		leastIs(t, f, longest+6, 3)
	}
}

func TestATimeOutOfBoundsCountsAsTheNearerEnd(t *testing.T) {
	for _, w := range windows {
		for _, a := range times {
			for _, b := range times {
				f, g := New(w.is), New(w.is)
				for i, x := range []int64{1, 2, 3} {
					f.Put([]int64{a.is, b.is, b.is}[i], x)
					g.Put([]int64{a.as, b.as, b.as}[i], x)
				}
				for _, now := range times {
					want, _ := g.Least(now.as)
					leastIs(t, f, now.is, want)
				}
			}
		}
	}
}

func TestTimesAtTheirEnds(t *testing.T) {
	for _, low := range []int64{lowest, lowest + 1, -2 * end, -end - 1, -end} {
		f := filter(0, put{low, 5}, put{low, 9})
		for _, now := range times {
			leastIs(t, f, now.is, 9) // of no window, nothing is later than the earliest time
		}
		f = filter(1, put{low, 5}, put{low, 9})
		leastIs(t, f, lowest, 5)
		leastIs(t, f, -end-1, 5)
		leastIs(t, f, -end, 5)
		leastIs(t, f, -end+1, 9)
		f = filter(longest, put{low, 5}, put{low, 9})
		leastIs(t, f, lowest, 5)
		leastIs(t, f, -end+longest-1, 5)
		leastIs(t, f, -end+longest, 9)
		leastIs(t, f, highest, 9)
	}
	for _, high := range []int64{end, end + 1, 2 * end, highest - 1, highest} {
		f := filter(0, put{high, 5}, put{high, 9})
		leastIs(t, f, lowest, 5)
		leastIs(t, f, end-1, 5)
		leastIs(t, f, end, 9)
		leastIs(t, f, end+1, 9)
		leastIs(t, f, highest, 9)
		f = filter(1, put{high, 5}, put{high, 9})
		for _, now := range times {
			leastIs(t, f, now.is, 5) // no time is a tick later than the latest one
		}
	}
	f := filter(longest, put{lowest, 1}, put{highest, 2}, put{highest, 3})
	leastIs(t, f, lowest, 1)
	leastIs(t, f, -end+longest-1, 1)
	leastIs(t, f, -end+longest, 2)
	leastIs(t, f, highest, 2)
}

func TestATimeAheadOfTheLastOnesCountsAsThat(t *testing.T) {
	f := filter(10, put{4, 7}, put{2, 8}, put{3, 9}) // all of them at 4
	for now := int64(-20); now < 14; now++ {
		leastIs(t, f, now, 7)
	}
	leastIs(t, f, 14, 9)
	f = filter(10, put{4, 7}, put{2, 8}, put{5, 9}, put{5, 10})
	leastIs(t, f, 13, 7)
	leastIs(t, f, 14, 9) // 8 came at 4, too
	leastIs(t, f, 15, 10)
	f = filter(10, put{100, 1}, put{0, 2}, put{50, 3}, put{99, 4}, put{100, 5}, put{101, 6}, put{7, 7})
	leastIs(t, f, 109, 1)
	leastIs(t, f, 110, 6)
	leastIs(t, f, 111, 7)
	f = filter(10, put{highest, 1}, put{lowest, 2}, put{0, 3}) // it counts as the latest one
	leastIs(t, f, highest, 1)
	leastIs(t, f, 0, 1)
	lenIs(t, f, 3)
}

func TestATimeIsThatOfTheLastOneAlsoIfThatWasCutOff(t *testing.T) {
	f := filter(10, put{50, 7}, put{20, 3}, put{10, 5}, put{30, 6}) // 7 is cut off, and 3 came at 50
	leastIs(t, f, 59, 3)
	leastIs(t, f, 60, 6)
	lenIs(t, f, 3)
	f = filter(10, put{50, 7}, put{60, 3}, put{55, 2}, put{0, 8})
	leastIs(t, f, 69, 2)
	leastIs(t, f, 70, 8)
}

func TestManyOfOneTime(t *testing.T) {
	for _, c := range []struct {
		l      []int64
		within int64
		last   int64
		len    int
	}{
		{[]int64{5, 9, 7, 8}, 5, 8, 3},
		{[]int64{9, 7, 5}, 5, 5, 1},
		{[]int64{5, 7, 9}, 5, 9, 3},
		{[]int64{5, 5, 5}, 5, 5, 1},
		{[]int64{9, 5, 9}, 5, 9, 2},
		{[]int64{highest, lowest, highest, lowest}, lowest, lowest, 1},
		{[]int64{lowest, highest}, lowest, highest, 2},
		{[]int64{lowest, highest, highest - 1}, lowest, highest - 1, 2},
		{[]int64{-1, 0, 1}, -1, 1, 3},
	} {
		for _, time := range []int64{-end + longest, -3, 0, 8, end - longest} {
			f := filter(10, at(time, c.l...)...)
			leastIs(t, f, time-1, c.within)
			leastIs(t, f, time, c.within)
			leastIs(t, f, time+9, c.within)
			leastIs(t, f, time+10, c.last)
			leastIs(t, f, time+11, c.last)
			lenIs(t, f, c.len)
		}
	}
}

func TestNowAheadOfAllThatCame(t *testing.T) {
	f := filter(10, put{100, 5}, put{105, 3}, put{120, 4}, put{140, 9})
	for _, now := range []int64{lowest, -end, -1, 0, 89, 99, 100, 114} { // whatever came later than now is within
		leastIs(t, f, now, 3)
	}
	leastIs(t, f, 115, 4)
	leastIs(t, f, 129, 4)
	leastIs(t, f, 130, 9)
	leastIs(t, f, 149, 9)
	leastIs(t, f, 150, 9)
	leastIs(t, f, highest, 9)
}

func TestTheLastOneIsWithinHoweverLongAgo(t *testing.T) {
	for _, w := range windows {
		f := filter(w.is, put{-end, 3}, put{-end, 7}, put{-end + 5, 6}, put{-end + 5, 9})
		leastIs(t, f, end, 9)
		leastIs(t, f, highest, 9)
		leastIs(t, f, 0, 9)
		f.Put(-end+5, 8)
		leastIs(t, f, 0, 8)
	}
}

func TestAtALaterTimeAndThenAtAnEarlierOne(t *testing.T) {
	f := filter(10, put{0, 5}, put{8, 7})
	leastIs(t, f, highest, 7)
	leastIs(t, f, 9, 5)
	leastIs(t, f, 10, 7)
	leastIs(t, f, 0, 5)
	f.Put(9, 8) // between two that come
	leastIs(t, f, 500, 8)
	leastIs(t, f, 18, 8)
	leastIs(t, f, 17, 7)
	leastIs(t, f, 9, 5)
	leastIs(t, f, lowest, 5)
	f.Put(9, 6)
	leastIs(t, f, 500, 6)
	leastIs(t, f, 17, 6)
	leastIs(t, f, 10, 6)
	leastIs(t, f, 9, 5)
	lenIs(t, f, 2)
}

func TestAskingChangesNothing(t *testing.T) {
	r := rand.New(rand.NewSource(211))
	for range 200 {
		f, g := New(20), New(20)
		for range 40 {
			at, x := r.Int63n(100), r.Int63n(50)
			f.Put(at, x)
			g.Put(at, x)
			for range 5 { // g is not asked as long as something comes
				f.Least(r.Int63n(200) - 50)
				f.Len()
			}
		}
		for now := int64(-50); now < 150; now++ {
			want, _ := g.Least(now)
			leastIs(t, f, now, want)
		}
		lenIs(t, f, g.Len())
	}
}

func TestNumbersThatFall(t *testing.T) {
	f := New(10)
	for i := range int64(100) {
		f.Put(i, 100-i)
		for now := i - 20; now < i+20; now++ {
			leastIs(t, f, now, 100-i)
		}
		lenIs(t, f, 1)
	}
}

func TestNumbersThatRise(t *testing.T) {
	f := New(10)
	for i := range int64(100) {
		f.Put(i, i)
		for now := int64(-20); now < i+20; now++ {
			leastIs(t, f, now, min(max(now-9, 0), i)) // the one that came 9 ticks ago
		}
		lenIs(t, f, int(i)+1)
	}
}

func TestNumbersThatAreTheSame(t *testing.T) {
	for _, x := range numbers {
		f := New(10)
		for i := range int64(100) {
			f.Put(i, x)
			leastIs(t, f, i, x)
			leastIs(t, f, 0, x)
			leastIs(t, f, highest, x)
			lenIs(t, f, 1)
		}
	}
}

func TestOfTheSameTheLaterOneIsWithinForLonger(t *testing.T) {
	f := filter(10, put{0, 5}, put{6, 5}, put{7, 9})
	leastIs(t, f, 9, 5)
	leastIs(t, f, 10, 5)
	leastIs(t, f, 15, 5)
	leastIs(t, f, 16, 9)
	lenIs(t, f, 2)
}

func TestNumbersAtBothEnds(t *testing.T) {
	f := filter(10, put{0, lowest}, put{5, highest})
	leastIs(t, f, 9, lowest)
	leastIs(t, f, 10, highest)
	lenIs(t, f, 2)
	f.Put(6, lowest)
	leastIs(t, f, 100, lowest)
	lenIs(t, f, 1)
	f.Put(7, lowest+1)
	leastIs(t, f, 15, lowest)
	leastIs(t, f, 16, lowest+1)
	lenIs(t, f, 2)
	f = filter(10, put{0, highest}, put{5, highest}, put{6, highest - 1})
	leastIs(t, f, 0, highest-1)
	lenIs(t, f, 1)
}

func TestAgainstTheModelAtAllTimes(t *testing.T) {
	r := rand.New(rand.NewSource(212))
	for _, w := range windows {
		for range 20 {
			var l []put
			for range 1 + r.Intn(12) {
				l = append(l, put{times[r.Intn(len(times))].is, numbers[r.Intn(len(numbers))]})
			}
			asTheModel(t, w.is, l, allTimes())
			slices.SortStableFunc(l, func(a, b put) int { return cmp.Compare(a.at, b.at) })
			asTheModel(t, w.is, l, allTimes())
		}
	}
}

func TestAgainstTheModelOfFewInEachOrder(t *testing.T) {
	var each []put
	for _, at := range []int64{0, 1, 2} {
		for _, x := range []int64{-1, 0, 1} {
			each = append(each, put{at, x})
		}
	}
	nows := []int64{4, -1, 3, 0, 2, 1, 5}
	for _, w := range []int64{-1, 0, 1, 2} {
		for _, a := range each {
			for _, b := range each {
				for _, c := range each {
					asTheModel(t, w, []put{a, b, c}, nows)
				}
			}
		}
	}
}

func TestAgainstTheModelByChance(t *testing.T) {
	r := rand.New(rand.NewSource(213))
	for _, w := range []int64{0, 1, 5, 30, 1000} {
		for _, most := range []int64{2, 10, 1000, highest} {
			for range 10 {
				var l []put
				var nows []int64
				time := r.Int63n(1000) - 500
				for range 60 {
					time += r.Int63n(12) - 2 // some are ahead of the last one
					l = append(l, put{time, r.Int63n(most)})
					nows = append(nows, time+r.Int63n(3*w+3)-w)
				}
				asTheModel(t, w, l, nows)
			}
		}
	}
}

func TestAgainstTheModelOfAnyNumbers(t *testing.T) {
	r := rand.New(rand.NewSource(214))
	for range 100 {
		w := int64(r.Uint64()) >> r.Intn(64)
		var l []put
		var nows []int64
		for range 40 {
			l = append(l, put{int64(r.Uint64()) >> r.Intn(64), int64(r.Uint64())})
			nows = append(nows, int64(r.Uint64())>>r.Intn(64))
		}
		asTheModel(t, w, l, nows)
	}
}

func TestTheSameIsAnsweredTheSame(t *testing.T) {
	f, g := New(30), New(30)
	r := rand.New(rand.NewSource(215))
	for range 300 {
		at, x, now := r.Int63n(1000), r.Int63n(1000), r.Int63n(1200)
		f.Put(at, x)
		g.Put(at, x)
		want, _ := f.Least(now)
		leastIs(t, g, now, want)
		lenIs(t, g, f.Len())
	}
}

func TestTwoFiltersKnowNothingOfEachOther(t *testing.T) {
	f, g := New(10), New(100)
	f.Put(50, 5)
	isNone(t, g)
	g.Put(20, 3) // not ahead of a last one of its own
	g.Put(20, 4)
	f.Put(50, 6)
	leastIs(t, f, 59, 5)
	leastIs(t, f, 60, 6)
	leastIs(t, g, 119, 3)
	leastIs(t, g, 120, 4)
	f.Put(55, 1)
	leastIs(t, g, 119, 3)
	lenIs(t, f, 1)
	lenIs(t, g, 2)
}

func TestManyNumbersAreAnsweredSoon(t *testing.T) {
	const many = 300000
	f := New(longest)
	for i := range int64(many) { // each of them stays, and the least one is far behind
		f.Put(i, i)
		leastIs(t, f, i, 0)
	}
	lenIs(t, f, many)
	leastIs(t, f, longest+many/2, many/2+1)
	f.Put(0, -1) // all of them are cut off at once
	leastIs(t, f, 0, -1)
	lenIs(t, f, 1)
	for i := range int64(many) {
		f.Put(i, -i)
	}
	leastIs(t, f, 0, -many+1)
	lenIs(t, f, 1)
}

// P21.2

func TestLenBehindEach(t *testing.T) {
	for _, w := range []int64{lowest, 0, 10, highest} { // it hangs on no window, nor on how long ago they came
		for _, apart := range []int64{-5, 0, 1, 1000, longest} {
			f := New(w)
			lenIs(t, f, 0)
			for i, c := range []struct {
				x   int64
				len int
			}{
				{5, 1},
				{9, 2},
				{7, 2}, // 9 is above it
				{8, 3},
				{8, 3}, // of the same the later one counts alone
				{20, 4},
				{20, 4},
				{30, 5},
				{8, 3},
				{6, 2},
				{5, 1},
				{5, 1},
				{highest, 2},
				{highest, 2},
				{6, 2},
				{lowest, 1},
				{lowest, 1},
				{lowest + 1, 2},
				{0, 3},
				{highest, 4},
				{-1, 3},
				{lowest, 1},
			} {
				f.Put(int64(i)*apart, c.x)
				f.Least(highest)
				lenIs(t, f, c.len)
			}
		}
	}
}

func TestLenCountsAlsoWhatIsNotWithin(t *testing.T) {
	f := New(0)
	for i := range 50 {
		f.Put(int64(i)*longest, int64(i))
		leastIs(t, f, end, int64(i))
		lenIs(t, f, i+1)
	}
	leastIs(t, f, 25*longest, 26)
	lenIs(t, f, 50)
}

// P21.3

func TestWhatIsToldNeverLiesAboveTheLastOne(t *testing.T) {
	r := rand.New(rand.NewSource(216))
	for _, w := range windows {
		f := New(w.is)
		for range 300 {
			x := numbers[r.Intn(len(numbers))]
			if r.Intn(2) == 0 {
				x = int64(r.Uint64())
			}
			f.Put(times[r.Intn(len(times))].is, x)
			for _, now := range times {
				if got, is := f.Least(now.is); !is || got > x {
					t.Fatalf("window %d, at %d: got %d, %v, where %d was the last one", w.is, now.is, got, is, x)
				}
			}
		}
	}
}

func TestWhatIsToldOfRisingOnesIsTheLastOneOnceAllAreOld(t *testing.T) {
	for _, w := range windows {
		f := New(w.is)
		for i := range int64(20) {
			f.Put(i, i)
			leastIs(t, f, i+w.as, i)
			leastIs(t, f, highest, i)
		}
	}
}

// Nil, and wrong inputs.

func TestOfNil(t *testing.T) {
	var f *Filter
	isNone(t, f)
	for _, at := range times {
		for _, x := range numbers {
			f.Put(at.is, x)
		}
	}
	isNone(t, f)
}

func TestOneThatNewDidNotMake(t *testing.T) {
	var f Filter
	isNone(t, &f)
	f.Put(5, 3)
	f.Put(5, 4)
	leastIs(t, &f, 4, 3)
	leastIs(t, &f, 5, 4) // its window is 0
	lenIs(t, &f, 2)
}

func TestAllThatIsOutOfBounds(t *testing.T) {
	for _, w := range []int64{lowest, highest} {
		f := filter(w, put{highest, highest}, put{lowest, lowest}, put{highest, highest}, put{lowest, highest})
		leastIs(t, f, lowest, lowest)
		lenIs(t, f, 2)
		if w == lowest {
			leastIs(t, f, highest, highest)
		} else {
			leastIs(t, f, highest, lowest)
		}
	}
}
