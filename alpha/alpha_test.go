package alpha

import (
	"math"
	"math/big"
	"math/rand"
	"testing"

	"leat/api"
)

const (
	lowest  = math.MinInt64
	highest = math.MaxInt64
	one     = 1 << 20
	fullest = 1 << 40 // the greatest Acked and Marked
	heaped  = 1 << 24 // the greatest acked and marked
)

// shares are numbers that a Share may be, with what each counts as.
var shares = []struct{ is, as int64 }{
	{lowest, 0},
	{lowest + 1, 0},
	{-1 << 32, 0},
	{-one, 0},
	{-1, 0},
	{0, 0},
	{1, 1},
	{15, 15},
	{16, 16},
	{160, 160},
	{one / 3, one / 3},
	{one / 2, one / 2},
	{one - 16, one - 16},
	{one - 15, one - 15},
	{one - 1, one - 1},
	{one, one},
	{one + 1, one},
	{2 * one, one},
	{1<<32 + 5, one},
	{highest - 1, one},
	{highest, one},
}

// counts are numbers that an Acked may be, with what each counts as.
var counts = []struct{ is, as int64 }{
	{lowest, 0},
	{lowest + 1, 0},
	{-fullest, 0},
	{-1000, 0},
	{-1, 0},
	{0, 0},
	{1, 1},
	{2, 2},
	{3, 3},
	{1000, 1000},
	{heaped, heaped},
	{1<<32 + 5, 1<<32 + 5},
	{fullest - heaped - 1, fullest - heaped - 1},
	{fullest - heaped, fullest - heaped},
	{fullest - heaped + 1, fullest - heaped + 1},
	{fullest - 1, fullest - 1},
	{fullest, fullest},
	{fullest + 1, fullest},
	{2 * fullest, fullest},
	{highest - 1, fullest},
	{highest, fullest},
}

// heaps are numbers that acked may be, with what each counts as.
var heaps = []struct{ is, as int64 }{
	{lowest, 0},
	{lowest + 1, 0},
	{-heaped, 0},
	{-1000, 0},
	{-1, 0},
	{0, 0},
	{1, 1},
	{2, 2},
	{999, 999},
	{1000, 1000},
	{heaped - 1, heaped - 1},
	{heaped, heaped},
	{heaped + 1, heaped},
	{2 * heaped, heaped},
	{1<<32 + 5, heaped},
	{fullest, heaped},
	{highest - 1, heaped},
	{highest, heaped},
}

// places are numbers that an End, an upto and a next may be.
var places = []int64{lowest, lowest + 1, lowest + 2, -1 << 32, -1001, -1000, -999, -1, 0, 1, 999, 1000, 1001, 1<<32 + 5, fullest, fullest + 1, highest - 2, highest - 1, highest}

// markedOf are numbers that a Marked, or marked, may be beside an Acked, or acked, that counts as that.
func markedOf(acked int64) []int64 {
	return []int64{lowest, lowest + 1, -fullest, -1, 0, 1, acked / 2, acked/2 + 1, acked - 1, acked, acked + 1, 2*acked + 1, heaped, heaped + 1, fullest, fullest + 1, highest - 1, highest}
}

func number(x int64) *big.Int { return big.NewInt(x) }

func plus(a, b *big.Int) *big.Int { return new(big.Int).Add(a, b) }

func times(a, b *big.Int) *big.Int { return new(big.Int).Mul(a, b) }

// by is the quotient, downwards, of a b above 0.
func by(a, b *big.Int) *big.Int { return new(big.Int).Div(a, b) }

// kept is a number within its ends, as the model keeps it.
func kept(x, lo, hi int64) int64 {
	if x < lo {
		return lo
	}
	if x > hi {
		return hi
	}
	return x
}

// atMost is the lesser one of two numbers.
func atMost(x *big.Int, hi int64) *big.Int {
	if x.Cmp(number(hi)) > 0 {
		return number(hi)
	}
	return x
}

// modelWithin is a state as the chapter says that it counts.
func modelWithin(a api.Alpha) api.Alpha {
	acked := kept(a.Acked, 0, fullest)
	return api.Alpha{Share: kept(a.Share, 0, one), Acked: acked, Marked: kept(a.Marked, 0, acked), End: a.End}
}

// modelFraction is Fraction as the chapter says it, by numbers without bounds.
func modelFraction(a api.Alpha) int64 {
	a = modelWithin(a)
	if a.Acked == 0 {
		return 0
	}
	return by(times(number(a.Marked), number(one)), number(a.Acked)).Int64()
}

// modelTake is Take as the chapter says it, by numbers without bounds.
func modelTake(a api.Alpha, acked, marked, upto, next int64) (api.Alpha, bool) {
	a = modelWithin(a)
	acked = kept(acked, 0, heaped)
	marked = kept(marked, 0, acked)
	a.Acked = atMost(plus(number(a.Acked), number(acked)), fullest).Int64()
	a.Marked = atMost(plus(number(a.Marked), number(marked)), a.Acked).Int64()
	if number(upto).Cmp(number(a.End)) < 0 {
		return a, false
	}
	way := plus(number(modelFraction(a)), number(-a.Share))
	share := plus(number(a.Share), by(way, number(16)))
	return api.Alpha{Share: share.Int64(), End: next}, true
}

// is fails if a state is another one.
func is(t *testing.T, got, want api.Alpha) {
	t.Helper()
	if got != want {
		t.Errorf("got %+v, want %+v", got, want)
	}
}

// takes fails if a state to which bytes came is another one, or if its round ended or not, otherwise than it should.
func takes(t *testing.T, a api.Alpha, acked, marked, upto, next int64, want api.Alpha, ended bool) {
	t.Helper()
	got, is := Take(a, acked, marked, upto, next)
	if got != want || is != ended {
		t.Errorf("%+v, acked %d, marked %d, up to %d, next %d: got %+v, %v, want %+v, %v", a, acked, marked, upto, next, got, is, want, ended)
	}
}

// asTheModel fails if a state to which bytes came is another one than the model's.
func asTheModel(t *testing.T, a api.Alpha, acked, marked, upto, next int64) {
	t.Helper()
	want, ended := modelTake(a, acked, marked, upto, next)
	takes(t, a, acked, marked, upto, next, want, ended)
}

// round is the share after a round of which so many of One bytes were marked: the round's Fraction is just that.
func round(share, marked int64) int64 {
	a, _ := Take(Start(share, 0), one, marked, 0, 0)
	return a.Share
}

// everyCount goes through all pairs of Acked and Marked.
func everyCount(yield func(acked, marked int64)) {
	for _, c := range counts {
		for _, marked := range markedOf(c.as) {
			yield(c.is, marked)
		}
	}
}

// everyHeap goes through all pairs of acked and marked.
func everyHeap(yield func(acked, marked int64)) {
	for _, h := range heaps {
		for _, marked := range markedOf(h.as) {
			yield(h.is, marked)
		}
	}
}

// few are states of some numbers, within their ends and beyond them.
func few() []api.Alpha {
	return []api.Alpha{
		{},
		{Share: one, End: 100},
		{Share: one / 2, Acked: 1000, Marked: 500, End: 100},
		{Share: 1, Acked: 1000, Marked: 1000, End: 100},
		{Share: 160, Acked: 1000, Marked: 1001, End: -100},
		{Share: 7, Acked: fullest, Marked: fullest - 1, End: 100},
		{Share: 7, Acked: fullest - 1, Marked: 5, End: 100},
		{Share: 7, Acked: fullest + 1, Marked: fullest + 1, End: 100},
		{Share: -7, Acked: -1, Marked: 5, End: 0},
		{Share: one + 1, Acked: 5, Marked: -1, End: 1},
		{Share: lowest, Acked: lowest, Marked: lowest, End: lowest},
		{Share: highest, Acked: highest, Marked: highest, End: highest},
		{Share: lowest, Acked: highest, Marked: lowest, End: highest},
		{Share: highest, Acked: lowest, Marked: highest, End: lowest},
	}
}

// anyNumber is one of any size, mostly not below 0.
func anyNumber(r *rand.Rand) int64 {
	x := int64(r.Uint64()>>1) >> r.Intn(63)
	if r.Intn(5) == 0 {
		return -x
	}
	return x
}

// anyAlpha is one of any numbers, now and then within its ends.
func anyAlpha(r *rand.Rand) api.Alpha {
	a := api.Alpha{Share: anyNumber(r), Acked: anyNumber(r), Marked: anyNumber(r), End: anyNumber(r)}
	if r.Intn(2) == 0 {
		a.Share = r.Int63n(one + 1)
	}
	if r.Intn(2) == 0 {
		a.Acked = r.Int63n(fullest>>r.Intn(40) + 1)
	}
	if r.Intn(2) == 0 {
		a.Marked = r.Int63n(kept(a.Acked, 0, fullest) + 1)
	}
	return a
}

// anyUpto is any number, now and then near an end.
func anyUpto(r *rand.Rand, end int64) int64 {
	if x := anyNumber(r); r.Intn(3) == 0 || end > highest-2 || end < lowest+2 {
		return x
	}
	return end + r.Int63n(5) - 2
}

func TestTheExampleOfTheChapter(t *testing.T) {
	takes(t, Start(0, 100), 1000, 1000, 100, 200, api.Alpha{Share: 1 << 16, End: 200}, true)
}

// P25.1

func TestStart(t *testing.T) {
	for _, s := range shares {
		for _, end := range places {
			is(t, Start(s.is, end), api.Alpha{Share: s.as, End: end})
		}
	}
}

func TestFraction(t *testing.T) {
	for _, c := range []struct{ acked, marked, want int64 }{
		{1000, 500, one / 2},
		{1000, 250, one / 4},
		{1000, 1000, one},
		{1000, 0, 0},
		{one, 1, 1},
		{one, 12345, 12345},
		{one, one - 1, one - 1},
		{1, 0, 0},
		{1, 1, one},
		{2, 1, one / 2},
		{3, 1, 349525}, // of 349525 and a third
		{3, 2, 699050}, // of 699050 and two thirds
		{7, 6, 898779}, // of 898779 and three sevenths
		{1000, 1, 1048},
		{1000, 999, 1047527},
		{fullest, 0, 0},
		{fullest, 1, 0}, // of less than 1
		{fullest, one - 1, 0},
		{fullest, one, 1},
		{fullest, 2*one - 1, 1},
		{fullest, fullest / 2, one / 2},
		{fullest, fullest - 1, one - 1},
		{fullest, fullest, one},
		{fullest - 1, fullest - 1, one},
		{fullest - 1, fullest - 2, one - 1},
	} {
		if got := Fraction(api.Alpha{Acked: c.acked, Marked: c.marked}); got != c.want {
			t.Errorf("%d of %d: got %d, want %d", c.marked, c.acked, got, c.want)
		}
	}
}

func TestFractionOfNothing(t *testing.T) {
	for _, acked := range []int64{lowest, lowest + 1, -fullest, -1, 0} {
		for _, marked := range markedOf(0) {
			if got := Fraction(api.Alpha{Share: one, Acked: acked, Marked: marked, End: 5}); got != 0 {
				t.Errorf("%d of %d: got %d", marked, acked, got)
			}
		}
	}
}

func TestFractionBeyondTheEnds(t *testing.T) {
	for _, c := range []struct{ acked, marked, want int64 }{
		{1000, -1, 0},
		{1000, lowest, 0},
		{1000, 999, 1047527},
		{1000, 1001, one},
		{1000, highest, one},
		{fullest + 1, fullest / 2, one / 2},
		{highest, fullest / 2, one / 2},
		{highest, fullest/2 - 1, one/2 - 1},
		{highest, fullest - 1, one - 1},
		{highest, fullest, one},
		{highest, fullest + 1, one},
		{highest, highest, one},
		{highest, -1, 0},
		{highest, lowest, 0},
		{lowest, highest, 0},
		{lowest, lowest, 0},
	} {
		if got := Fraction(api.Alpha{Acked: c.acked, Marked: c.marked}); got != c.want {
			t.Errorf("%d of %d: got %d, want %d", c.marked, c.acked, got, c.want)
		}
	}
}

func TestFractionIsTheModels(t *testing.T) {
	everyCount(func(acked, marked int64) {
		a := api.Alpha{Acked: acked, Marked: marked}
		if got, want := Fraction(a), modelFraction(a); got != want {
			t.Errorf("%d of %d: got %d, want %d", marked, acked, got, want)
		}
	})
	r := rand.New(rand.NewSource(251))
	for range 100000 {
		a := anyAlpha(r)
		if got, want := Fraction(a), modelFraction(a); got != want {
			t.Fatalf("%+v: got %d, want %d", a, got, want)
		}
	}
}

func TestFractionHangsOnTheBytesAlone(t *testing.T) {
	for _, s := range shares {
		for _, end := range places {
			if got := Fraction(api.Alpha{Share: s.is, Acked: 1000, Marked: 250, End: end}); got != one/4 {
				t.Errorf("share %d, end %d: got %d", s.is, end, got)
			}
		}
	}
}

// P25.2

func TestTakeWithinARound(t *testing.T) {
	a := api.Alpha{Share: 160, Acked: 3000, Marked: 1500, End: 100}
	for _, c := range []struct {
		acked, marked int64
		want          api.Alpha
	}{
		{1000, 400, api.Alpha{Share: 160, Acked: 4000, Marked: 1900, End: 100}},
		{1000, 0, api.Alpha{Share: 160, Acked: 4000, Marked: 1500, End: 100}},
		{1000, 999, api.Alpha{Share: 160, Acked: 4000, Marked: 2499, End: 100}},
		{1000, 1000, api.Alpha{Share: 160, Acked: 4000, Marked: 2500, End: 100}},
		{1000, 1001, api.Alpha{Share: 160, Acked: 4000, Marked: 2500, End: 100}},
		{1000, highest, api.Alpha{Share: 160, Acked: 4000, Marked: 2500, End: 100}},
		{1000, -1, api.Alpha{Share: 160, Acked: 4000, Marked: 1500, End: 100}},
		{1000, lowest, api.Alpha{Share: 160, Acked: 4000, Marked: 1500, End: 100}},
		{1, 1, api.Alpha{Share: 160, Acked: 3001, Marked: 1501, End: 100}},
		{1, 0, api.Alpha{Share: 160, Acked: 3001, Marked: 1500, End: 100}},
		{0, 0, a},
		{0, 1, a}, // more is marked than was acknowledged
		{0, highest, a},
		{0, lowest, a},
		{-1, -1, a},
		{-1, 5, a},
		{lowest, highest, a},
		{lowest, lowest, a},
		{heaped, heaped, api.Alpha{Share: 160, Acked: 3000 + heaped, Marked: 1500 + heaped, End: 100}},
		{heaped, heaped - 1, api.Alpha{Share: 160, Acked: 3000 + heaped, Marked: 1500 + heaped - 1, End: 100}},
		{heaped, heaped + 1, api.Alpha{Share: 160, Acked: 3000 + heaped, Marked: 1500 + heaped, End: 100}},
		{heaped + 1, 7, api.Alpha{Share: 160, Acked: 3000 + heaped, Marked: 1507, End: 100}},
		{heaped + 1, heaped + 1, api.Alpha{Share: 160, Acked: 3000 + heaped, Marked: 1500 + heaped, End: 100}},
		{highest, highest, api.Alpha{Share: 160, Acked: 3000 + heaped, Marked: 1500 + heaped, End: 100}},
		{highest, lowest, api.Alpha{Share: 160, Acked: 3000 + heaped, Marked: 1500, End: 100}},
	} {
		takes(t, a, c.acked, c.marked, 99, 200, c.want, false)
	}
}

func TestTakeOfEachHeap(t *testing.T) {
	for _, h := range heaps {
		takes(t, Start(5, 100), h.is, 0, 99, 200, api.Alpha{Share: 5, Acked: h.as, End: 100}, false)
		takes(t, Start(5, 100), h.is, h.is, 99, 200, api.Alpha{Share: 5, Acked: h.as, Marked: h.as, End: 100}, false)
		takes(t, Start(5, 100), highest, h.is, 99, 200, api.Alpha{Share: 5, Acked: heaped, Marked: h.as, End: 100}, false)
	}
}

func TestTakeOfAStateBeyondItsEnds(t *testing.T) {
	for _, c := range []struct{ a, want api.Alpha }{
		{api.Alpha{Share: -1}, api.Alpha{}},
		{api.Alpha{Share: lowest}, api.Alpha{}},
		{api.Alpha{Share: one}, api.Alpha{Share: one}},
		{api.Alpha{Share: one + 1}, api.Alpha{Share: one}},
		{api.Alpha{Share: highest}, api.Alpha{Share: one}},
		{api.Alpha{Acked: -1, Marked: -1}, api.Alpha{}},
		{api.Alpha{Acked: -1, Marked: 5}, api.Alpha{}},
		{api.Alpha{Acked: lowest, Marked: highest}, api.Alpha{}},
		{api.Alpha{Acked: 0, Marked: 1}, api.Alpha{}},
		{api.Alpha{Acked: 1, Marked: 1}, api.Alpha{Acked: 1, Marked: 1}},
		{api.Alpha{Acked: 1, Marked: 2}, api.Alpha{Acked: 1, Marked: 1}},
		{api.Alpha{Acked: 1000, Marked: -1}, api.Alpha{Acked: 1000}},
		{api.Alpha{Acked: 1000, Marked: lowest}, api.Alpha{Acked: 1000}},
		{api.Alpha{Acked: 1000, Marked: 999}, api.Alpha{Acked: 1000, Marked: 999}},
		{api.Alpha{Acked: 1000, Marked: 1000}, api.Alpha{Acked: 1000, Marked: 1000}},
		{api.Alpha{Acked: 1000, Marked: 1001}, api.Alpha{Acked: 1000, Marked: 1000}},
		{api.Alpha{Acked: 1000, Marked: highest}, api.Alpha{Acked: 1000, Marked: 1000}},
		{api.Alpha{Acked: fullest, Marked: fullest}, api.Alpha{Acked: fullest, Marked: fullest}},
		{api.Alpha{Acked: fullest + 1, Marked: fullest + 1}, api.Alpha{Acked: fullest, Marked: fullest}},
		{api.Alpha{Acked: highest, Marked: highest}, api.Alpha{Acked: fullest, Marked: fullest}},
		{api.Alpha{Acked: highest, Marked: 7}, api.Alpha{Acked: fullest, Marked: 7}},
	} {
		c.a.End, c.want.End = 100, 100
		takes(t, c.a, 0, 0, 99, 200, c.want, false)
	}
}

func TestTakeBeyondItsEndsIsCountedFirst(t *testing.T) {
	// What comes is added to what counts: not to what was told.
	takes(t, api.Alpha{Acked: -1000, Marked: -1000, End: 100}, 600, 500, 99, 200, api.Alpha{Acked: 600, Marked: 500, End: 100}, false)
	takes(t, api.Alpha{Acked: 10, Marked: 1000, End: 100}, 600, 5, 99, 200, api.Alpha{Acked: 610, Marked: 15, End: 100}, false)
	takes(t, api.Alpha{Acked: lowest, Marked: highest, End: 100}, 600, 5, 99, 200, api.Alpha{Acked: 600, Marked: 5, End: 100}, false)
	takes(t, api.Alpha{Acked: 1000, Marked: -300, End: 100}, 600, 500, 99, 200, api.Alpha{Acked: 1600, Marked: 500, End: 100}, false)
	takes(t, api.Alpha{Share: -1600, Acked: 1000, Marked: 1000, End: 100}, 0, 0, 100, 200, api.Alpha{Share: 1 << 16, End: 200}, true)
	takes(t, api.Alpha{Share: 5 * one, End: 100}, 0, 0, 100, 200, api.Alpha{Share: one - one/16, End: 200}, true)
}

func TestTakeRisesToTheEnds(t *testing.T) {
	for _, c := range []struct{ a, want api.Alpha }{
		{api.Alpha{Acked: fullest - 1001, Marked: 5}, api.Alpha{Acked: fullest - 1, Marked: 405}},
		{api.Alpha{Acked: fullest - 1000, Marked: 5}, api.Alpha{Acked: fullest, Marked: 405}},
		{api.Alpha{Acked: fullest - 999, Marked: 5}, api.Alpha{Acked: fullest, Marked: 405}},
		{api.Alpha{Acked: fullest - 1, Marked: 5}, api.Alpha{Acked: fullest, Marked: 405}},
		{api.Alpha{Acked: fullest, Marked: 5}, api.Alpha{Acked: fullest, Marked: 405}},
		{api.Alpha{Acked: highest, Marked: 5}, api.Alpha{Acked: fullest, Marked: 405}},
		{api.Alpha{Acked: fullest, Marked: fullest - 401}, api.Alpha{Acked: fullest, Marked: fullest - 1}},
		{api.Alpha{Acked: fullest, Marked: fullest - 400}, api.Alpha{Acked: fullest, Marked: fullest}},
		{api.Alpha{Acked: fullest, Marked: fullest - 399}, api.Alpha{Acked: fullest, Marked: fullest}},
		{api.Alpha{Acked: fullest, Marked: fullest}, api.Alpha{Acked: fullest, Marked: fullest}},
		{api.Alpha{Acked: highest, Marked: highest}, api.Alpha{Acked: fullest, Marked: fullest}},
	} {
		c.a.End, c.want.End = 100, 100
		takes(t, c.a, 1000, 400, 99, 200, c.want, false)
	}
}

func TestARoundAtTheEnds(t *testing.T) {
	// The share moves by what counts, not by sums beyond the ends.
	for _, c := range []struct{ acked, marked, moreAcked, moreMarked, want int64 }{
		{fullest, fullest, heaped, heaped, 1 << 16},
		{fullest, 0, heaped, 0, 0},
		{fullest, fullest - heaped, heaped, heaped, 1 << 16}, // all of 2^40 count as marked
		{fullest, fullest / 2, heaped, 0, 1 << 15},
		{fullest, fullest/2 - heaped, heaped, heaped, 1 << 15},
		{fullest - heaped, fullest - heaped, heaped, heaped, 1 << 16},
		{fullest - heaped, fullest - heaped, heaped, 0, 65535}, // the Fraction is One less 16
		{fullest - heaped, fullest - heaped, heaped, heaped - 1, 65535},
		{highest, highest, highest, highest, 1 << 16},
		{highest, lowest, highest, lowest, 0},
	} {
		a := api.Alpha{Acked: c.acked, Marked: c.marked, End: 100}
		takes(t, a, c.moreAcked, c.moreMarked, 100, 200, api.Alpha{Share: c.want, End: 200}, true)
	}
}

func TestWhereARoundEnds(t *testing.T) {
	for _, c := range []struct {
		end, upto int64
		ended     bool
	}{
		{100, 99, false},
		{100, 100, true},
		{100, 101, true},
		{100, 0, false},
		{100, -100, false},
		{100, lowest, false},
		{100, highest, true},
		{0, -1, false},
		{0, 0, true},
		{0, 1, true},
		{-100, -101, false},
		{-100, -100, true},
		{-100, -99, true},
		{-100, 100, true},
		{-100, lowest, false},
		{1<<32 + 5, 5, false},
		{5, 1<<32 + 4, true},
		{lowest, lowest, true},
		{lowest, lowest + 1, true},
		{lowest, 0, true},
		{lowest, highest, true},
		{lowest + 1, lowest, false},
		{lowest + 1, lowest + 1, true},
		{highest, highest, true},
		{highest, highest - 1, false},
		{highest, 0, false},
		{highest, lowest, false},
		{highest - 1, highest, true},
		{highest - 1, highest - 2, false},
	} {
		a := api.Alpha{Share: one / 2, Acked: 1000, Marked: 1000, End: c.end}
		want := api.Alpha{Share: one / 2, Acked: 1500, Marked: 1500, End: c.end}
		if c.ended {
			want = api.Alpha{Share: one/2 + one/32, End: 7}
		}
		takes(t, a, 500, 500, c.upto, 7, want, c.ended)
	}
}

func TestEveryEndAndUpto(t *testing.T) {
	for _, end := range places {
		for _, upto := range places {
			for _, next := range places {
				asTheModel(t, api.Alpha{Share: 12345, Acked: 1000, Marked: 77, End: end}, 500, 8, upto, next)
			}
		}
	}
}

func TestTheNextRoundsEnd(t *testing.T) {
	for _, next := range places { // also where it is behind the one that ended
		takes(t, Start(160, 100), 1000, 0, 100, next, api.Alpha{Share: 150, End: next}, true)
		takes(t, Start(160, 100), 1000, 0, 99, next, api.Alpha{Share: 160, Acked: 1000, End: 100}, false)
	}
	a, _ := Take(Start(160, 100), 0, 0, 100, lowest)
	takes(t, a, 0, 0, lowest, highest, api.Alpha{Share: 140, End: highest}, true)
}

func TestARoundOfWhichNothingWasAcknowledged(t *testing.T) {
	for _, c := range []struct{ share, want int64 }{{0, 0}, {1, 0}, {15, 14}, {16, 15}, {17, 15}, {160, 150}, {one, one - one/16}} {
		for _, acked := range []int64{lowest, -1, 0} {
			for _, marked := range []int64{lowest, -1, 0, 1, 1000, highest} { // without acknowledged ones none is marked
				takes(t, Start(c.share, 100), acked, marked, 100, 200, api.Alpha{Share: c.want, End: 200}, true)
				takes(t, api.Alpha{Share: c.share, Acked: acked, Marked: marked, End: 100}, 0, 0, 100, 200, api.Alpha{Share: c.want, End: 200}, true)
			}
		}
	}
}

func TestTheShareMovesByASixteenth(t *testing.T) {
	for _, c := range []struct{ share, fraction, want int64 }{
		{0, 0, 0},
		{0, 1, 0}, // upwards it is rounded to no step
		{0, 15, 0},
		{0, 16, 1},
		{0, 17, 1},
		{0, 31, 1},
		{0, 32, 2},
		{0, 160, 10},
		{0, one / 2, 1 << 15},
		{0, one - 1, 65535},
		{0, one, 1 << 16},
		{1, 0, 0}, // and downwards to a whole one
		{2, 0, 1},
		{15, 0, 14},
		{16, 0, 15},
		{17, 0, 15},
		{31, 0, 29},
		{32, 0, 30},
		{33, 0, 30},
		{160, 0, 150},
		{161, 0, 150},
		{one, 0, one - 1<<16},
		{one - 1, 0, one - 1 - 1<<16},
		{one, 1, one - 1<<16},
		{one, one - 1, one - 1},
		{one, one - 15, one - 1},
		{one, one - 16, one - 1},
		{one, one - 17, one - 2},
		{one, one, one},
		{one - 1, one, one - 1},
		{one - 15, one, one - 15},
		{one - 16, one, one - 15},
		{one - 17, one, one - 16},
		{one / 2, one, one/2 + 1<<15},
		{one / 2, one / 2, one / 2},
		{one / 2, one/2 + 1, one / 2},
		{one / 2, one/2 + 15, one / 2},
		{one / 2, one/2 + 16, one/2 + 1},
		{one / 2, one/2 - 1, one/2 - 1},
		{one / 2, one/2 - 16, one/2 - 1},
		{one / 2, one/2 - 17, one/2 - 2},
	} {
		if got := round(c.share, c.fraction); got != c.want {
			t.Errorf("share %d, fraction %d: got %d, want %d", c.share, c.fraction, got, c.want)
		}
	}
}

func TestTheShareMovesByARoundedFraction(t *testing.T) {
	takes(t, Start(0, 0), 3, 1, 0, 9, api.Alpha{Share: 21845, End: 9}, true)                  // 349525 by 16 is 21845 and five 16ths
	takes(t, Start(0, 0), 3, 2, 0, 9, api.Alpha{Share: 43690, End: 9}, true)                  // 699050 by 16 is 43690 and ten 16ths
	takes(t, Start(349525, 0), 3, 1, 0, 9, api.Alpha{Share: 349525, End: 9}, true)            // it is there
	takes(t, Start(349526, 0), 3, 1, 0, 9, api.Alpha{Share: 349525, End: 9}, true)            // by a 16th, downwards: by 1
	takes(t, Start(one, 100), 1000, 987, 100, 200, api.Alpha{Share: 1047724, End: 200}, true) // down to 1034944: by 852
	takes(t, Start(one, 100), 1000, 986, 100, 200, api.Alpha{Share: 1047658, End: 200}, true) // down to 1033895: by 917 and nine 16ths
	takes(t, api.Alpha{Share: one, Acked: 3, Marked: 1}, 4, 2, 0, 9, api.Alpha{Share: 1011126, End: 9}, true)
}

func TestARoundInParts(t *testing.T) {
	a := Start(one, 100)
	for _, c := range []struct {
		acked, marked, upto int64
		want                api.Alpha
		ended               bool
	}{
		{1000, 500, 20, api.Alpha{Share: one, Acked: 1000, Marked: 500, End: 100}, false},
		{500, 0, 40, api.Alpha{Share: one, Acked: 1500, Marked: 500, End: 100}, false},
		{0, 0, 60, api.Alpha{Share: one, Acked: 1500, Marked: 500, End: 100}, false},
		{0, 9, 10, api.Alpha{Share: one, Acked: 1500, Marked: 500, End: 100}, false}, // what is told again is behind
		{400, 400, 99, api.Alpha{Share: one, Acked: 1900, Marked: 900, End: 100}, false},
		{100, 100, 100, api.Alpha{Share: one - one/32, End: 300}, true}, // a half of 2000
		{1000, 0, 299, api.Alpha{Share: one - one/32, Acked: 1000, End: 300}, false},
		{0, 0, 500, api.Alpha{Share: 952320, End: 300}, true},
		{0, 0, 300, api.Alpha{Share: 892800, End: 300}, true}, // its next End was not above the one that ended
	} {
		var ended bool
		a, ended = Take(a, c.acked, c.marked, c.upto, 300)
		if a != c.want || ended != c.ended {
			t.Fatalf("acked %d, marked %d, up to %d: got %+v, %v, want %+v, %v", c.acked, c.marked, c.upto, a, ended, c.want, c.ended)
		}
	}
}

func TestTakeIsTheModelsForEachAckedAndMarked(t *testing.T) {
	everyCount(func(acked, marked int64) {
		everyHeap(func(moreAcked, moreMarked int64) {
			a := api.Alpha{Share: 12345, Acked: acked, Marked: marked, End: 100}
			asTheModel(t, a, moreAcked, moreMarked, 99, 200)
			asTheModel(t, a, moreAcked, moreMarked, 100, 200)
		})
	})
}

func TestTakeIsTheModelsForEachShare(t *testing.T) {
	for _, s := range shares {
		everyCount(func(acked, marked int64) {
			a := api.Alpha{Share: s.is, Acked: acked, Marked: marked, End: 100}
			asTheModel(t, a, 1000, 300, 99, 200)
			asTheModel(t, a, 0, 0, 100, 200)
			asTheModel(t, a, 1000, 1000, 101, 200)
		})
	}
}

func TestTakeIsTheModelsByChance(t *testing.T) {
	r := rand.New(rand.NewSource(252))
	for range 200000 {
		a := anyAlpha(r)
		asTheModel(t, a, anyNumber(r), anyNumber(r), anyUpto(r, a.End), anyNumber(r))
		if t.Failed() {
			return
		}
	}
}

func TestTakesOneAfterAnother(t *testing.T) {
	r := rand.New(rand.NewSource(253))
	for range 200 {
		share, end := anyNumber(r), r.Int63n(5000)
		got, want := Start(share, end), api.Alpha{Share: kept(share, 0, one), End: end}
		var upto int64
		for range 200 {
			acked := r.Int63n(3000)
			marked := r.Int63n(4000) - 500
			upto += acked
			next := upto + r.Int63n(20000)
			gotEnded, wantEnded := false, false
			got, gotEnded = Take(got, acked, marked, upto, next)
			want, wantEnded = modelTake(want, acked, marked, upto, next)
			if got != want || gotEnded != wantEnded {
				t.Fatalf("acked %d, marked %d, up to %d, next %d: got %+v, %v, want %+v, %v", acked, marked, upto, next, got, gotEnded, want, wantEnded)
			}
		}
	}
}

func TestARoundLongerThanItsEnds(t *testing.T) {
	a := Start(0, 100)
	for range fullest / heaped { // 2^16 heaps are just the most that counts
		a, _ = Take(a, heaped, heaped/2, 0, 0)
	}
	is(t, a, api.Alpha{Acked: fullest, Marked: fullest / 2, End: 100})
	for range 10 { // from then on what is marked alone rises
		a, _ = Take(a, heaped, heaped/2, 0, 0)
	}
	is(t, a, api.Alpha{Acked: fullest, Marked: fullest/2 + 5*heaped, End: 100})
	for range fullest / heaped {
		a, _ = Take(a, heaped, heaped/2, 0, 0)
	}
	is(t, a, api.Alpha{Acked: fullest, Marked: fullest, End: 100})
	takes(t, a, heaped, heaped/2, 100, 200, api.Alpha{Share: 1 << 16, End: 200}, true)
}

// P25.3

func TestNothingMarkedNeverRises(t *testing.T) {
	for share := range int64(one + 1) {
		got := round(share, 0)
		if got > share || got < 0 || share > 0 && got == share {
			t.Fatalf("share %d: it is %d", share, got)
		}
	}
}

func TestAllMarkedNeverFalls(t *testing.T) {
	for share := range int64(one + 1) {
		got := round(share, one)
		if got < share || got > one || share <= one-16 && got == share {
			t.Fatalf("share %d: it is %d", share, got)
		}
	}
}

func TestNothingOrAllOfAnyRound(t *testing.T) {
	for _, s := range shares {
		for _, c := range counts {
			for _, h := range heaps {
				none, _ := Take(api.Alpha{Share: s.is, Acked: c.is}, h.is, 0, 0, 0)
				if none.Share > s.as || none.Share < 0 {
					t.Errorf("share %d, nothing marked of %d and %d: it is %d", s.is, c.is, h.is, none.Share)
				}
				all, _ := Take(api.Alpha{Share: s.is, Acked: c.is, Marked: c.is}, h.is, h.is, 0, 0)
				if c.as+h.as > 0 && (all.Share < s.as || all.Share > one) {
					t.Errorf("share %d, all marked of %d and %d: it is %d", s.is, c.is, h.is, all.Share)
				}
			}
		}
	}
}

// stays is where a share stays, round by round, and after how many rounds; no round lets it move against the way that is told.
func stays(t *testing.T, share, marked, way int64) (int64, int) {
	t.Helper()
	a := Start(share, 0)
	for rounds := range 1 << 16 {
		b, ended := Take(a, 1000, marked, a.End, a.End+1000)
		if !ended || (b.Share-a.Share)*way < 0 {
			t.Fatalf("share %d: it went from %+v to %+v", share, a, b)
		}
		if b.Share == a.Share {
			return b.Share, rounds
		}
		a = b
	}
	t.Fatalf("share %d: it never stays", share)
	return 0, 0
}

func TestRoundsUntilTheShareStays(t *testing.T) {
	for _, s := range shares {
		if got, rounds := stays(t, s.is, 0, -1); got != 0 || rounds > 200 {
			t.Errorf("share %d, nothing marked: it stays at %d after %d rounds", s.is, got, rounds)
		}
		want := max(s.as, one-15) // the last steps are less than a sixteenth's one
		if got, rounds := stays(t, s.is, 1000, 1); got != want || rounds > 200 {
			t.Errorf("share %d, all marked: it stays at %d after %d rounds, not at %d", s.is, got, rounds, want)
		}
	}
}

func TestHowManyRoundsTheShareGoes(t *testing.T) {
	for _, c := range []struct {
		share, marked, way, want int64
		rounds                   int
	}{
		{one, 0, -1, 0, modelRounds(one, 0)},
		{0, 1000, 1, one - 15, modelRounds(0, 1000)},
		{0, 500, 1, one/2 - 15, modelRounds(0, 500)},
		{one, 500, -1, one / 2, modelRounds(one, 500)},
	} {
		if got, rounds := stays(t, c.share, c.marked, c.way); got != c.want || rounds != c.rounds {
			t.Errorf("share %d, %d marked: it stays at %d after %d rounds, not at %d after %d", c.share, c.marked, got, rounds, c.want, c.rounds)
		}
	}
}

// modelRounds is how many rounds change a share, by the model.
func modelRounds(share, marked int64) int {
	a := api.Alpha{Share: share}
	for rounds := 0; ; rounds++ {
		b, _ := modelTake(a, 1000, marked, 0, 0)
		if b == a {
			return rounds
		}
		a = b
	}
}

func TestTheShareLiesBetween(t *testing.T) {
	r := rand.New(rand.NewSource(254))
	for range 100000 {
		a := anyAlpha(r)
		b, ended := Take(a, anyNumber(r), anyNumber(r), anyUpto(r, a.End), anyNumber(r))
		if b.Share < 0 || b.Share > one {
			t.Fatalf("%+v: its share is %d", a, b.Share)
		}
		if !ended && b.Share != kept(a.Share, 0, one) {
			t.Fatalf("%+v: its share is %d within a round", a, b.Share)
		}
	}
}

// Rules that hold everywhere

func TestWhatIsHandedInStays(t *testing.T) {
	for _, a := range few() {
		was := a
		Take(a, 1000, 500, a.End, 300)
		Take(a, 1000, 500, lowest, 300)
		Fraction(a)
		is(t, a, was)
	}
	a := Start(one, 100)
	b, _ := Take(a, 1000, 500, 99, 300)
	c, _ := Take(b, 1000, 500, 100, 300)
	is(t, a, api.Alpha{Share: one, End: 100})
	is(t, b, api.Alpha{Share: one, Acked: 1000, Marked: 500, End: 100})
	is(t, c, api.Alpha{Share: one - one/32, End: 300})
}

func TestTheSameIsAnsweredTheSame(t *testing.T) {
	r := rand.New(rand.NewSource(255))
	for range 20000 {
		a, acked, marked, next := anyAlpha(r), anyNumber(r), anyNumber(r), anyNumber(r)
		upto := anyUpto(r, a.End)
		taken, ended := Take(a, acked, marked, upto, next)
		fraction, begun := Fraction(a), Start(a.Share, a.End)
		Take(anyAlpha(r), anyNumber(r), anyNumber(r), anyNumber(r), anyNumber(r)) // what others are told does not matter
		Start(anyNumber(r), anyNumber(r))
		again, endedAgain := Take(a, acked, marked, upto, next)
		if again != taken || endedAgain != ended || Fraction(a) != fraction || Start(a.Share, a.End) != begun {
			t.Fatalf("%+v, acked %d, marked %d, up to %d, next %d: it is not the same again", a, acked, marked, upto, next)
		}
	}
}

func TestWhatIsToldIsWithinItsEnds(t *testing.T) {
	r := rand.New(rand.NewSource(256))
	for range 50000 {
		a := anyAlpha(r)
		b, _ := Take(a, anyNumber(r), anyNumber(r), anyUpto(r, a.End), anyNumber(r))
		is(t, b, modelWithin(b))
		is(t, Start(a.Share, a.End), modelWithin(Start(a.Share, a.End)))
		if f := Fraction(a); f < 0 || f > one {
			t.Fatalf("%+v: its fraction is %d", a, f)
		}
	}
}

func TestEveryPairOfAFewStates(t *testing.T) {
	for _, a := range few() {
		everyHeap(func(acked, marked int64) {
			for _, upto := range places {
				asTheModel(t, a, acked, marked, upto, 300)
			}
		})
	}
}
