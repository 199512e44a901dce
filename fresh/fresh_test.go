package fresh

import (
	"math/rand"
	"slices"
	"testing"
)

const (
	greatest = 1<<32 - 1
	round    = 1 << 32
	half     = 1 << 31
)

// ahead is the stamp that stands so far ahead of another one, or, of a number below 0, behind it; stamps go round.
func ahead(stamp uint32, by int64) uint32 {
	x := (int64(stamp) + by) % round
	if x < 0 {
		x += round
	}
	return uint32(x)
}

// stands is how far a stamp is ahead of another one, going forward alone: from 0 to below a round.
func stands(stamp, last uint32) int64 {
	by := int64(stamp) - int64(last)
	if by < 0 {
		by += round
	}
	return by
}

// firsts are stamps about 0, about half a round and about the end, and some that a fixed seed gives.
func firsts() []uint32 {
	l := []uint32{0, 1, 2, 3, 5, 1000, 1<<24 - 1, 1 << 24, half - 2, half - 1, half, half + 1, half + 2, greatest - 1000, greatest - 2, greatest - 1, greatest}
	r := rand.New(rand.NewSource(18))
	for range 40 {
		l = append(l, r.Uint32())
	}
	return l
}

// model is a filter as the chapter says it, which keeps all that came.
type model struct {
	taken, not []uint32
}

func (m *model) take(stamp uint32) bool {
	if len(m.taken) > 0 {
		by := stands(stamp, m.taken[len(m.taken)-1])
		if by == 0 || by >= half {
			m.not = append(m.not, stamp)
			return false
		}
	}
	m.taken = append(m.taken, stamp)
	return true
}

// lastIs fails unless this is the last one that was taken; telling it changes nothing.
func lastIs(t *testing.T, f *Filter, want uint32) {
	t.Helper()
	for range 2 {
		if got, is := f.Last(); !is || got != want {
			t.Fatalf("Last: got %d, %v, want %d", got, is, want)
		}
	}
}

// lastIsNone fails unless none was taken.
func lastIsNone(t *testing.T, f *Filter) {
	t.Helper()
	for range 2 {
		if got, is := f.Last(); is || got != 0 {
			t.Fatalf("Last: got %d, %v, where none was taken", got, is)
		}
	}
}

// countsAre fails unless so many were taken, and so many were not; telling it changes nothing.
func countsAre(t *testing.T, f *Filter, taken, not int) {
	t.Helper()
	for range 2 {
		if a, b := f.Counts(); a != taken || b != not {
			t.Fatalf("Counts: got %d and %d, want %d and %d", a, b, taken, not)
		}
	}
}

// isTaken fails unless a stamp is taken; then it is the last one.
func isTaken(t *testing.T, f *Filter, stamp uint32) {
	t.Helper()
	taken, not := f.Counts()
	if !f.Take(stamp) {
		t.Fatalf("%d was not taken", stamp)
	}
	lastIs(t, f, stamp)
	countsAre(t, f, taken+1, not)
}

// isNotTaken fails unless a stamp is not taken; then the last one stays.
func isNotTaken(t *testing.T, f *Filter, stamp uint32) {
	t.Helper()
	last, _ := f.Last()
	taken, not := f.Counts()
	if f.Take(stamp) {
		t.Fatalf("%d was taken, where %d was the last one", stamp, last)
	}
	lastIs(t, f, last)
	countsAre(t, f, taken, not+1)
}

// filter is one of which these were taken, one behind the other.
func filter(t *testing.T, stamps ...uint32) *Filter {
	t.Helper()
	f := New()
	for _, x := range stamps {
		isTaken(t, f, x)
	}
	return f
}

func TestTheExampleOfTheChapter(t *testing.T) {
	f := New()
	for i, c := range []struct {
		stamp uint32
		want  bool
	}{{5, true}, {7, true}, {6, false}} {
		if got := f.Take(c.stamp); got != c.want {
			t.Errorf("%d, %d: got %v", i, c.stamp, got)
		}
	}
	lastIs(t, f, 7)
	countsAre(t, f, 2, 1)
}

// P18.1

func TestAheadOfAnyStamp(t *testing.T) {
	f := New()
	if f == nil {
		t.Fatal("New is nil")
	}
	lastIsNone(t, f)
	countsAre(t, f, 0, 0)
	lastIsNone(t, f)
}

func TestTheFirstStampIsTakenWhateverItIs(t *testing.T) {
	for _, x := range firsts() {
		f := New()
		if !f.Take(x) {
			t.Errorf("%d was not taken", x)
		}
		lastIs(t, f, x)
		countsAre(t, f, 1, 0)
	}
}

func TestOnlyOneStampIsTheFirstOne(t *testing.T) {
	for _, x := range firsts() { // 0 among them, which is the last one then, as if none were
		f := filter(t, x)
		isNotTaken(t, f, x)
		isNotTaken(t, f, ahead(x, -1))
		isNotTaken(t, f, ahead(x, half))
		lastIs(t, f, x)
		countsAre(t, f, 1, 3)
	}
}

func TestHowFarAStampStandsFromTheLastOne(t *testing.T) {
	for _, c := range []struct {
		by   int64
		want bool
	}{
		{0, false},
		{1, true},
		{-1, false},
		{2, true},
		{-2, false},
		{1000, true},
		{-1000, false},
		{1 << 30, true},
		{-1 << 30, false},
		{half - 2, true},
		{half - 1, true},
		{half, false},
		{half + 1, false},
		{half + 2, false},
		{-half + 2, false},
		{-half + 1, false},
		{-half, false},
		{-half - 1, true},
		{-half - 2, true},
		{round - 1, false},
		{round - half - 1, true},
	} {
		for _, last := range firsts() {
			x := ahead(last, c.by)
			f := filter(t, last)
			if got := f.Take(x); got != c.want {
				t.Errorf("%d, which is %d ahead of %d: got %v", x, c.by, last, got)
			}
			if c.want {
				lastIs(t, f, x)
				countsAre(t, f, 2, 0)
			} else {
				lastIs(t, f, last)
				countsAre(t, f, 1, 1)
			}
		}
	}
}

func TestAcrossTheEnd(t *testing.T) {
	for _, c := range []struct {
		last, x uint32
		want    bool
	}{
		{greatest, 0, true},
		{0, greatest, false},
		{greatest, 1, true},
		{1, greatest, false},
		{greatest - 1, greatest, true},
		{greatest, greatest - 1, false},
		{greatest, greatest, false},
		{0, 0, false},
		{greatest, half - 2, true}, // half a round ahead less one
		{greatest, half - 1, false},
		{greatest, half, false},
		{greatest - 5, 3, true},
		{3, greatest - 5, false},
		{0, half - 1, true},
		{0, half, false},
		{0, half + 1, false},
		{1, half, true},
		{1, half + 1, false},
		{half, greatest, true},
		{half, 0, false},
		{half, 1, false},
		{half - 1, greatest - 1, true},
		{half - 1, greatest, false},
		{half - 1, 0, false},
		{half + 1, 0, true},
		{half + 1, 1, false},
		{half + 2, 1, true},
	} {
		f := filter(t, c.last)
		if got := f.Take(c.x); got != c.want {
			t.Errorf("%d behind %d: got %v", c.x, c.last, got)
		}
	}
}

func TestOneThatWasNotTakenChangesNotWhatIsTakenNext(t *testing.T) {
	for _, last := range firsts() {
		for _, by := range []int64{0, -1, -2, -1000, half, half + 1, -half + 1} {
			passed := ahead(last, by)
			for _, next := range []int64{0, 1, -1, 2, half - 1, half, half + 1} {
				x := ahead(last, next)
				f := filter(t, last)
				isNotTaken(t, f, passed)
				isNotTaken(t, f, passed)
				if next > 0 && next < half {
					isTaken(t, f, x)
					countsAre(t, f, 2, 2)
				} else {
					isNotTaken(t, f, x)
					lastIs(t, f, last)
					countsAre(t, f, 1, 3)
				}
			}
		}
	}
}

func TestTheLastOneTakenIsWhatTheNextOneIsHeldAgainst(t *testing.T) {
	f := filter(t, 10, 20, 30)
	isNotTaken(t, f, 15) // newer than the first one, but not than the last one
	isNotTaken(t, f, 25)
	isTaken(t, f, 31)
	isNotTaken(t, f, 30)
	isTaken(t, f, 31+half-1)
	isTaken(t, f, 5) // newer than that, although it is behind the first one
	isNotTaken(t, f, 31+half-1)
	countsAre(t, f, 6, 4)
}

func TestStampsThatGoRound(t *testing.T) {
	for _, step := range []int64{1 << 28, 1<<30 + 7, half - 1} {
		for _, first := range []uint32{0, 1, half, greatest} {
			f := filter(t, first)
			x := first
			for range 50 {
				x = ahead(x, step)
				isTaken(t, f, x)
			}
			countsAre(t, f, 51, 0)
		}
	}
}

func TestHalfARoundEachTime(t *testing.T) {
	for _, first := range firsts() {
		f := filter(t, first)
		for range 5 { // of two that stand so neither is newer
			isNotTaken(t, f, ahead(first, half))
		}
		countsAre(t, f, 1, 5)
	}
}

func TestOneStampAgainAndAgain(t *testing.T) {
	for _, x := range firsts() {
		f := filter(t, x)
		for range 100 {
			isNotTaken(t, f, x)
		}
		countsAre(t, f, 1, 100)
		isTaken(t, f, ahead(x, 1))
	}
}

// asTheModel holds filters of these stamps to the model, each stamp's answer and what is told behind it.
func asTheModel(t *testing.T, stamps []uint32) {
	t.Helper()
	f, m := New(), &model{}
	for i, x := range stamps {
		if got, want := f.Take(x), m.take(x); got != want {
			t.Fatalf("stamp %d of %v: got %v", i, stamps, got)
		}
		lastIs(t, f, m.taken[len(m.taken)-1])
		countsAre(t, f, len(m.taken), len(m.not))
	}
}

func TestTakeAgainstTheModel(t *testing.T) {
	r := rand.New(rand.NewSource(181))
	for range 200 {
		var wild, near, edges []uint32
		x := r.Uint32()
		for range 100 {
			wild = append(wild, r.Uint32())
			x = ahead(x, r.Int63n(21)-10)
			near = append(near, x)
			edges = append(edges, firsts()[r.Intn(len(firsts()))])
		}
		asTheModel(t, wild)
		asTheModel(t, near)
		asTheModel(t, edges)
	}
}

func TestTakeOfEachThreeAgainstTheModel(t *testing.T) {
	l := []uint32{0, 1, 2, half - 2, half - 1, half, half + 1, half + 2, greatest - 1, greatest}
	for _, a := range l {
		for _, b := range l {
			for _, c := range l {
				asTheModel(t, []uint32{a, b, c})
			}
		}
	}
}

func TestTheSameStampsAreAnsweredTheSame(t *testing.T) {
	a, b := New(), New()
	for i, x := range firsts() {
		got := a.Take(x)
		for range i % 3 { // asking changes nothing
			b.Last()
			b.Counts()
		}
		if again := b.Take(x); again != got {
			t.Fatalf("%d, %d: got %v, then %v", i, x, got, again)
		}
	}
	if *a != *b {
		t.Errorf("got %v, then %v", *a, *b)
	}
}

func TestTwoFiltersKnowNothingOfEachOther(t *testing.T) {
	a, b := New(), New()
	isTaken(t, a, 100)
	lastIsNone(t, b)
	countsAre(t, b, 0, 0)
	isTaken(t, b, 50) // the first one of that
	lastIs(t, a, 100)
	countsAre(t, a, 1, 0)
	isNotTaken(t, a, 50)
	countsAre(t, b, 1, 0)
	isTaken(t, b, 100)
	isTaken(t, b, 200)
	lastIs(t, a, 100)
	countsAre(t, a, 1, 1)
	isTaken(t, a, 150)
	isNotTaken(t, b, 150)
	lastIs(t, a, 150)
	lastIs(t, b, 200)
	countsAre(t, a, 2, 1)
	countsAre(t, b, 3, 1)
}

func TestManyFiltersInTurns(t *testing.T) {
	r := rand.New(rand.NewSource(182))
	var filters [10]*Filter
	var models [10]model
	for i := range filters {
		filters[i] = New()
	}
	for range 2000 {
		i, x := r.Intn(len(filters)), r.Uint32()
		if got, want := filters[i].Take(x), models[i].take(x); got != want {
			t.Fatalf("filter %d, %d: got %v", i, x, got)
		}
	}
	for i, f := range filters {
		lastIs(t, f, models[i].taken[len(models[i].taken)-1])
		countsAre(t, f, len(models[i].taken), len(models[i].not))
	}
}

func TestACopyGoesItsOwnWay(t *testing.T) {
	f := filter(t, 5, 7)
	g := *f
	isNotTaken(t, &g, 6)
	isTaken(t, &g, 9)
	lastIs(t, f, 7)
	countsAre(t, f, 2, 0)
	isTaken(t, f, 8)
	lastIs(t, &g, 9)
	countsAre(t, &g, 3, 1)
}

func TestWhatIsCountedIsToldAsAValue(t *testing.T) {
	f := filter(t, 5, 7)
	isNotTaken(t, f, 6)
	came := f.counted()
	came[taken], came[passed] = 100, 200
	lastIs(t, f, 7)
	countsAre(t, f, 2, 1)
	came = f.counted()
	isTaken(t, f, 8)
	if came != [places]int{2, 1} {
		t.Errorf("what was told is %v", came)
	}
}

func TestOfNil(t *testing.T) {
	var f *Filter
	for _, x := range firsts() {
		if f.Take(x) {
			t.Errorf("%d was taken", x)
		}
		lastIsNone(t, f)
		countsAre(t, f, 0, 0)
	}
}

func TestOneThatNewDidNotMake(t *testing.T) {
	var f Filter
	lastIsNone(t, &f)
	countsAre(t, &f, 0, 0)
	isTaken(t, &f, greatest)
	isNotTaken(t, &f, greatest-1)
	isTaken(t, &f, 0)
	countsAre(t, &f, 2, 1)
}

// P18.2

// keepsTheNewest holds a filter to P18.2: stamps are so far ahead of base, fewer than 2^31 apart, and come in this order.
func keepsTheNewest(t *testing.T, base uint32, order []int64) {
	t.Helper()
	f := New()
	newest, rises := order[0]-1, 0
	for _, by := range order {
		newer := by > newest
		if newer {
			newest = by
			rises++
		}
		if got := f.Take(ahead(base, by)); got != newer {
			t.Fatalf("%d, of %v from %d on: got %v", by, order, base, got)
		}
		lastIs(t, f, ahead(base, newest))
	}
	countsAre(t, f, rises, len(order)-rises)
	for _, by := range order {
		if f.Take(ahead(base, by)) {
			t.Fatalf("%d, of %v from %d on: it came again, and was taken", by, order, base)
		}
	}
	lastIs(t, f, ahead(base, slices.Max(order)))
	countsAre(t, f, rises, 2*len(order)-rises)
}

// orders calls f with the numbers in each order in which they may come.
func orders(l []int64, f func(l []int64)) {
	if len(l) < 2 {
		f(l)
		return
	}
	for i := range l {
		rest := slices.Concat(l[:i], l[i+1:])
		orders(rest, func(behind []int64) { f(append([]int64{l[i]}, behind...)) })
	}
}

func TestTheNewestOfFewInEachOrder(t *testing.T) {
	for _, l := range [][]int64{
		{0},
		{0, half - 1},
		{0, 1, 2, 3, 4},
		{0, 1, half - 2, half - 1},
		{0, 1, 1 << 30, half - 2, half - 1},
		{0, 1000, 2000, half - 1},
		{0, 0, 1, half - 1, half - 1}, // some of them twice
	} {
		for _, base := range []uint32{0, 1, half - 1, half, half + 1, 1 << 30, 3 << 30, greatest - 2, greatest - 1, greatest} {
			orders(l, func(order []int64) { keepsTheNewest(t, base, order) })
		}
	}
}

func TestTheNewestOfManyInAnyOrder(t *testing.T) {
	r := rand.New(rand.NewSource(183))
	for _, apart := range []int64{10, 1000, 1 << 24, 1 << 30, half - 1} {
		for _, base := range firsts() {
			l := []int64{0, apart}
			for range 200 {
				l = append(l, r.Int63n(apart+1))
			}
			r.Shuffle(len(l), func(i, j int) { l[i], l[j] = l[j], l[i] })
			keepsTheNewest(t, base, l)
			slices.Sort(l)
			keepsTheNewest(t, base, l)
			slices.Reverse(l)
			keepsTheNewest(t, base, l)
		}
	}
}

func TestAnswersThatAreOvertakenLostAndDoubled(t *testing.T) {
	r := rand.New(rand.NewSource(184))
	for _, base := range firsts() {
		var order []int64
		for sent := range int64(500) {
			for range r.Intn(3) { // lost, once, or twice
				order = append(order, sent)
			}
		}
		for i := range order { // each one may come some places later
			j := min(i+r.Intn(8), len(order)-1)
			order[i], order[j] = order[j], order[i]
		}
		keepsTheNewest(t, base, order)
	}
}

func TestHalfARoundApartIsTooFar(t *testing.T) {
	for _, base := range firsts() { // the first one stays, in whichever order two come of which neither is newer
		far := ahead(base, half)
		f := filter(t, base)
		isNotTaken(t, f, far)
		f = filter(t, far)
		isNotTaken(t, f, base)
	}
}
