package retry

import (
	"math"
	"math/big"
	"math/rand"
	"slices"
	"testing"

	"leat/api"
)

const (
	lowest  = math.MinInt64
	highest = math.MaxInt64
)

// dups are numbers that Dups may be, with what each is told as once one more is told, where nothing else happens.
var dups = []struct{ is, more int64 }{
	{lowest, 1},
	{lowest + 1, 1},
	{-1<<32 - 5, 1},
	{-1000, 1},
	{-999, 1},
	{-2, 1},
	{-1, 1},
	{0, 1},
	{1, 2},
	{2, 3},
	{3, 4},
	{4, 5},
	{5, 6},
	{255, 256},
	{256, 257},
	{500, 501},
	{997, 998},
	{998, 999},
	{999, 1000},
	{1000, 1000},
	{1001, 1000},
	{1 << 16, 1000},
	{1 << 32, 1000},
	{1<<32 + 2, 1000},
	{1 << 62, 1000},
	{highest - 2, 1000},
	{highest - 1, 1000},
	{highest, 1000},
}

// marks are numbers that Acked, Point and what is told may be: none of them has an end.
var marks = []int64{lowest, lowest + 1, lowest + 2, -1 << 62, -1<<32 - 5, -1000, -2, -1, 0, 1, 2, 3, 5, 9, 1000, 1<<32 + 5, 1 << 40, 1 << 62, highest - 2, highest - 1, highest}

// beside are the numbers just below, at and above each one, and both ends, from the least on, none of them twice.
func beside(of ...int64) []int64 {
	l := []int64{lowest, lowest + 1, highest - 1, highest}
	for _, x := range of {
		l = append(l, x)
		if x > lowest {
			l = append(l, x-1)
		}
		if x < highest {
			l = append(l, x+1)
		}
	}
	slices.Sort(l)
	return slices.Compact(l)
}

// everyState goes through all states of the tables.
func everyState(yield func(r api.Recover)) {
	for _, acked := range marks {
		for _, point := range beside(acked, 0, 9) {
			for _, d := range dups {
				yield(api.Recover{Acked: acked, Dups: d.is, Point: point})
				yield(api.Recover{Acked: acked, Dups: d.is, Point: point, In: true})
			}
		}
	}
}

// everyTake goes through all acknowledgements that lie near what each state of the tables names.
func everyTake(yield func(r api.Recover, upto, sent int64)) {
	everyState(func(r api.Recover) {
		for _, upto := range beside(r.Acked, r.Point) {
			for _, sent := range beside(r.Acked, upto) {
				yield(r, upto, sent)
			}
		}
	})
}

func number(x int64) *big.Int { return big.NewInt(x) }

// isAbove is whether the one is above the other, by numbers without bounds.
func isAbove(a, b int64) bool {
	return new(big.Int).Sub(number(a), number(b)).Sign() > 0
}

// kept is a number within its ends, as the model keeps it.
func kept(x, lo, hi int64) int64 {
	if x < lo {
		return lo
	}
	if x > hi {
		return hi
	}
	return x
}

// modelMore is a count of which one more is told, by numbers without bounds.
func modelMore(dups int64) int64 {
	more := new(big.Int).Add(number(kept(dups, 0, 999)), number(1))
	return more.Int64()
}

// modelTake is what Take tells as the chapter says it, sentence by sentence, by numbers without bounds.
func modelTake(r api.Recover, upto, sent int64) (api.Recover, int) {
	equal := upto == r.Acked
	if isAbove(r.Acked, upto) || equal && !isAbove(sent, upto) {
		return r, 0
	}
	if equal {
		more := modelMore(r.Dups)
		if more == 3 && !r.In {
			return api.Recover{Acked: r.Acked, Dups: 3, Point: sent, In: true}, 2
		}
		return api.Recover{Acked: r.Acked, Dups: more, Point: r.Point, In: r.In}, 0
	}
	if r.In && isAbove(r.Point, upto) {
		return api.Recover{Acked: upto, Point: r.Point, In: true}, 3
	}
	if r.In {
		return api.Recover{Acked: upto, Point: r.Point}, 4
	}
	return api.Recover{Acked: upto, Point: r.Point}, 1
}

// takes fails if the state behind an acknowledgement, or what happened, is another one.
func takes(t *testing.T, r api.Recover, upto, sent int64, want api.Recover, what int) {
	t.Helper()
	if got, happened := Take(r, upto, sent); got != want || happened != what {
		t.Errorf("%+v, upto %d, sent %d: got %+v, %d, want %+v, %d", r, upto, sent, got, happened, want, what)
	}
}

// anyNumber is one of any size, mostly not below 0.
func anyNumber(r *rand.Rand) int64 {
	x := int64(r.Uint64()>>1) >> r.Intn(63)
	if r.Intn(5) == 0 {
		return -x
	}
	return x
}

// anyOf is one of a list, or any number.
func anyOf(r *rand.Rand, l []int64) int64 {
	if r.Intn(5) == 0 {
		return anyNumber(r)
	}
	return l[r.Intn(len(l))]
}

// anyState is one of any numbers, mostly one that is hardly at its ends.
func anyState(r *rand.Rand) api.Recover {
	acked := anyNumber(r)
	s := api.Recover{Acked: acked, Dups: int64(r.Intn(5)), Point: anyOf(r, beside(acked)), In: r.Intn(2) == 0}
	switch r.Intn(4) {
	case 0:
		s.Dups = anyNumber(r)
	case 1:
		s.Dups = 995 + int64(r.Intn(10))
	}
	return s
}

// anyTake is a state, and an acknowledgement that mostly lies near it.
func anyTake(r *rand.Rand) (api.Recover, int64, int64) {
	s := anyState(r)
	upto := anyOf(r, beside(s.Acked, s.Point))
	if r.Intn(3) == 0 {
		upto = s.Acked
	}
	return s, upto, anyOf(r, beside(s.Acked, upto))
}

func TestTheExampleOfTheChapter(t *testing.T) {
	r := api.Recover{Acked: 5}
	for i, c := range []struct {
		upto int64
		what int
		is   api.Recover
	}{
		{5, Nothing, api.Recover{Acked: 5, Dups: 1}},
		{5, Nothing, api.Recover{Acked: 5, Dups: 2}},
		{5, Enter, api.Recover{Acked: 5, Dups: 3, Point: 9, In: true}},
		{7, Again, api.Recover{Acked: 7, Point: 9, In: true}},
		{9, Leave, api.Recover{Acked: 9, Point: 9}},
	} {
		var what int
		if r, what = Take(r, c.upto, 9); r != c.is || what != c.what {
			t.Errorf("%d: got %+v, %d, want %+v, %d", i, r, what, c.is, c.what)
		}
	}
}

func TestWhatHappenedIsCounted(t *testing.T) {
	if Nothing != 0 || Fresh != 1 || Enter != 2 || Again != 3 || Leave != 4 {
		t.Error(Nothing, Fresh, Enter, Again, Leave)
	}
}

// P28.1

func TestWhatIsOldChangesNothing(t *testing.T) {
	for _, c := range []struct{ acked, upto, sent int64 }{
		{5, 4, 9}, // one below Acked
		{5, 3, 9},
		{5, 0, 9},
		{5, -1, 9},
		{5, -5, 9},
		{5, lowest, 9}, // the least of all
		{5, lowest, highest},
		{5, lowest, lowest},
		{5, lowest + 1, 6},
		{5, 4, 4}, // what was sent does not matter then
		{5, 4, 5},
		{5, 4, 6},
		{5, 4, highest},
		{5, 4, lowest},
		{0, -1, 9},
		{0, lowest, 9},
		{1, 0, 9},
		{-1, -2, 9},
		{-5, -6, -3},
		{highest, highest - 1, highest},
		{highest, 0, highest},
		{highest, -1, highest},
		{highest, lowest, highest},
		{highest, lowest + 1, highest},
		{highest - 1, highest - 2, highest},
		{lowest + 1, lowest, highest},
		{lowest + 1, lowest, lowest},
		{lowest + 2, lowest + 1, 0},
		{1 << 62, -1 << 62, highest}, // further below than an int64 tells
		{1<<32 + 5, 5, highest},
	} {
		staysFromAll(t, c.acked, c.upto, c.sent)
	}
}

func TestNothingUnderWayChangesNothing(t *testing.T) {
	for _, c := range []struct{ acked, sent int64 }{
		{5, 5}, // just Acked
		{5, 4}, // one below it
		{5, 3},
		{5, 0},
		{5, -1},
		{5, -6},
		{5, lowest},
		{5, lowest + 1},
		{0, 0},
		{0, -1},
		{0, lowest},
		{1, 1},
		{1, 0},
		{-1, -1},
		{-1, -2},
		{-5, lowest},
		{lowest, lowest}, // Acked at its ends
		{lowest + 1, lowest + 1},
		{lowest + 1, lowest},
		{highest, highest},
		{highest, highest - 1},
		{highest, 0},
		{highest, -1},
		{highest, lowest},
		{highest - 1, highest - 1},
		{highest - 1, highest - 2},
		{1 << 62, -1 << 62},
		{1<<32 + 5, 5},
	} {
		staysFromAll(t, c.acked, c.acked, c.sent)
	}
}

// staysFromAll fails if an acknowledgement changes a state, or if something happened by it: whatever else there is, also Dups that lie beyond what counts.
func staysFromAll(t *testing.T, acked, upto, sent int64) {
	t.Helper()
	for _, d := range dups {
		for _, point := range beside(acked, upto, sent) {
			for _, in := range []bool{false, true} {
				r := api.Recover{Acked: acked, Dups: d.is, Point: point, In: in}
				takes(t, r, upto, sent, r, Nothing)
			}
		}
	}
}

// underWay are Acked and sent of acknowledgements by which the same is told again.
var underWay = []struct{ acked, sent int64 }{
	{5, 6}, // one above Acked
	{5, 7},
	{5, 9},
	{5, 1000},
	{5, highest - 1},
	{5, highest},
	{0, 1},
	{0, 9},
	{0, highest},
	{-1, 0},
	{-1, 1},
	{-5, -4},
	{-5, highest},
	{lowest, lowest + 1}, // Acked at its ends
	{lowest, 0},
	{lowest, 9},
	{lowest, highest}, // further above than an int64 tells
	{lowest + 1, lowest + 2},
	{lowest + 1, highest},
	{-1 << 62, 1 << 62},
	{1<<32 + 5, 1<<32 + 6},
	{highest - 2, highest - 1},
	{highest - 2, highest},
	{highest - 1, highest},
}

func TestTheSameToldAgain(t *testing.T) {
	for _, c := range underWay {
		for _, d := range dups {
			for _, point := range beside(c.acked, c.sent) {
				r := api.Recover{Acked: c.acked, Dups: d.is, Point: point}
				want, what := api.Recover{Acked: c.acked, Dups: d.more, Point: point}, Nothing
				if d.is == 2 {
					want, what = api.Recover{Acked: c.acked, Dups: 3, Point: c.sent, In: true}, Enter
				}
				takes(t, r, c.acked, c.sent, want, what)
			}
		}
	}
}

func TestTheSameToldAgainWhileSomethingIsAwaited(t *testing.T) {
	for _, c := range underWay {
		for _, d := range dups {
			for _, point := range beside(c.acked, c.sent) {
				r := api.Recover{Acked: c.acked, Dups: d.is, Point: point, In: true}
				takes(t, r, c.acked, c.sent, api.Recover{Acked: c.acked, Dups: d.more, Point: point, In: true}, Nothing)
			}
		}
	}
}

func TestItIsEnteredWithThreeAlone(t *testing.T) {
	for n := int64(-10); n < 1100; n++ {
		r := api.Recover{Acked: 5, Dups: n, Point: 7}
		if n == 2 {
			takes(t, r, 5, 9, api.Recover{Acked: 5, Dups: 3, Point: 9, In: true}, Enter)
			continue
		}
		takes(t, r, 5, 9, api.Recover{Acked: 5, Dups: kept(n+1, 1, 1000), Point: 7}, Nothing)
	}
}

func TestToldAgainForLong(t *testing.T) {
	r, entered := api.Recover{Acked: 5}, 0
	for n := int64(1); n <= 2500; n++ {
		var what int
		r, what = Take(r, 5, 8+n) // more is sent all the time
		want := api.Recover{Acked: 5, Dups: min(n, 1000)}
		if n >= 3 {
			want.In, want.Point = true, 11
		}
		if what == Enter {
			entered++
		}
		if r != want || (what == Enter) != (n == 3) || what != Enter && what != Nothing {
			t.Fatalf("told %d times: %+v, %d", n, r, what)
		}
	}
	if entered != 1 {
		t.Errorf("entered %d times", entered)
	}
}

func TestMoreIsThere(t *testing.T) {
	for _, c := range []struct{ acked, upto int64 }{
		{5, 6}, // one above Acked
		{5, 7},
		{5, 9},
		{5, 1 << 40},
		{5, highest - 1},
		{5, highest},
		{0, 1},
		{-1, 0},
		{-1, 1},
		{-5, -4},
		{-5, 5},
		{lowest, lowest + 1}, // Acked at its ends
		{lowest, -1},
		{lowest, 0},
		{lowest, highest},
		{lowest + 1, highest},
		{-1 << 62, 1 << 62},
		{5, 1<<32 + 5},
		{highest - 2, highest - 1},
		{highest - 2, highest},
		{highest - 1, highest},
	} {
		for _, d := range dups {
			for _, sent := range beside(c.acked, c.upto) { // what was sent does not matter
				for _, point := range beside(c.acked, c.upto) { // nor does Point, as nothing is awaited
					r := api.Recover{Acked: c.acked, Dups: d.is, Point: point}
					takes(t, r, c.upto, sent, api.Recover{Acked: c.upto, Point: point}, Fresh)
				}
			}
		}
	}
}

func TestMoreIsThereWhileSomethingIsAwaited(t *testing.T) {
	for _, c := range []struct {
		acked, point, upto int64
		what               int
	}{
		{5, 9, 6, Again},
		{5, 9, 7, Again},
		{5, 9, 8, Again},  // one below Point
		{5, 9, 9, Leave},  // just Point
		{5, 9, 10, Leave}, // one above it
		{5, 9, 1000, Leave},
		{5, 9, highest, Leave},
		{5, 7, 6, Again},
		{5, 7, 7, Leave},
		{5, 6, 6, Leave}, // what is one above Acked is Point
		{5, 6, 7, Leave},
		{5, 5, 6, Leave}, // Point is not above Acked
		{5, 4, 6, Leave},
		{5, 0, 6, Leave},
		{5, -1, 6, Leave},
		{5, lowest, 6, Leave},
		{5, lowest, highest, Leave},
		{5, highest, 6, Again},
		{5, highest, highest - 2, Again},
		{5, highest, highest - 1, Again},
		{5, highest, highest, Leave},
		{5, highest - 1, highest - 2, Again},
		{5, highest - 1, highest - 1, Leave},
		{5, highest - 1, highest, Leave},
		{0, 1, 1, Leave},
		{-1, 1, 0, Again},
		{-1, 1, 1, Leave},
		{-5, -3, -4, Again},
		{-5, -3, -3, Leave},
		{lowest, lowest, lowest + 1, Leave},
		{lowest, lowest + 1, lowest + 1, Leave},
		{lowest, lowest + 2, lowest + 1, Again},
		{lowest, 0, lowest + 1, Again}, // further below than an int64 tells
		{lowest, 9, lowest + 1, Again},
		{lowest, highest, lowest + 1, Again},
		{lowest, highest, -1, Again},
		{lowest, highest, 0, Again},
		{lowest, highest, highest - 1, Again},
		{lowest, highest, highest, Leave},
		{lowest, lowest, highest, Leave},
		{-1 << 62, 1 << 62, 1<<62 - 1, Again},
		{-1 << 62, 1 << 62, 1 << 62, Leave},
		{-1 << 62, highest, -1<<62 + 1, Again},
		{5, 1<<32 + 5, 9, Again},
		{5, 9, 1<<32 + 6, Leave},
		{highest - 1, highest, highest, Leave},
		{highest - 2, highest, highest - 1, Again},
		{highest - 1, lowest, highest, Leave},
		{highest - 1, highest - 1, highest, Leave},
	} {
		for _, d := range dups {
			for _, sent := range beside(c.acked, c.point, c.upto) { // what was sent does not matter
				r := api.Recover{Acked: c.acked, Dups: d.is, Point: c.point, In: true}
				takes(t, r, c.upto, sent, api.Recover{Acked: c.upto, Point: c.point, In: c.what == Again}, c.what)
			}
		}
	}
}

func TestTakeIsTheModels(t *testing.T) {
	everyTake(func(r api.Recover, upto, sent int64) {
		want, what := modelTake(r, upto, sent)
		if got, happened := Take(r, upto, sent); got != want || happened != what {
			t.Fatalf("%+v, upto %d, sent %d: got %+v, %d, want %+v, %d", r, upto, sent, got, happened, want, what)
		}
	})
	for acked := int64(-3); acked <= 3; acked++ {
		for point := int64(-4); point <= 4; point++ {
			for dups := int64(-2); dups <= 5; dups++ {
				for upto := int64(-4); upto <= 4; upto++ {
					for sent := int64(-4); sent <= 4; sent++ {
						for _, in := range []bool{false, true} {
							r := api.Recover{Acked: acked, Dups: dups, Point: point, In: in}
							want, what := modelTake(r, upto, sent)
							takes(t, r, upto, sent, want, what)
						}
					}
				}
			}
		}
	}
	c := rand.New(rand.NewSource(281))
	for range 300000 {
		r, upto, sent := anyTake(c)
		want, what := modelTake(r, upto, sent)
		takes(t, r, upto, sent, want, what)
	}
}

func TestTakeCountsWhatIsBeyondTheEnds(t *testing.T) {
	for _, d := range dups {
		for _, in := range []bool{false, true} {
			r := api.Recover{Acked: 5, Dups: d.is, Point: 9, In: in}
			as := r
			as.Dups = kept(d.is, 0, 999)
			for _, upto := range []int64{5, 6, 8, 9, 10} { // wherever it is told again, or more is there
				got, what := Take(r, upto, 12)
				if want, happened := Take(as, upto, 12); got != want || what != happened {
					t.Errorf("%+v, upto %d: got %+v, %d, want %+v, %d", r, upto, got, what, want, happened)
				}
			}
		}
	}
}

// P28.2

func TestTimeout(t *testing.T) {
	everyState(func(r api.Recover) {
		for _, sent := range beside(r.Acked, r.Point, 0) {
			if got := Timeout(r, sent); got != (api.Recover{Acked: r.Acked, Point: sent, In: true}) {
				t.Fatalf("%+v, sent %d: got %+v", r, sent, got)
			}
		}
	})
	c := rand.New(rand.NewSource(282))
	for range 100000 {
		r, sent := anyState(c), anyNumber(c)
		if got := Timeout(r, sent); got != (api.Recover{Acked: r.Acked, Point: sent, In: true}) {
			t.Fatalf("%+v, sent %d: got %+v", r, sent, got)
		}
	}
}

func TestBehindATimeout(t *testing.T) {
	for _, c := range []struct {
		acked, sent, upto int64
		what              int
	}{
		{5, 20, 4, Nothing},
		{5, 20, 5, Nothing},
		{5, 20, 6, Again},
		{5, 20, 19, Again},
		{5, 20, 20, Leave},
		{5, 20, 21, Leave},
		{5, 6, 6, Leave},
		{5, 5, 5, Nothing}, // nothing was under way
		{5, 5, 6, Leave},
		{5, 4, 6, Leave},
		{5, lowest, 6, Leave},
		{5, highest, highest - 1, Again},
		{5, highest, highest, Leave},
		{lowest, highest, 0, Again},
		{lowest, lowest, lowest + 1, Leave},
		{highest, highest, highest, Nothing},
	} {
		for _, d := range dups {
			for _, in := range []bool{false, true} {
				r := Timeout(api.Recover{Acked: c.acked, Dups: d.is, Point: c.acked, In: in}, c.sent)
				if _, what := Take(r, c.upto, c.sent); what != c.what {
					t.Errorf("%+v, upto %d: got %d, want %d", r, c.upto, what, c.what)
				}
			}
		}
	}
}

func TestNothingIsEnteredBehindATimeout(t *testing.T) {
	r := Timeout(api.Recover{Acked: 5, Dups: 2}, 20)
	for n := int64(1); n <= 10; n++ {
		var what int
		if r, what = Take(r, 5, 20+n); what != Nothing || r != (api.Recover{Acked: 5, Dups: n, Point: 20, In: true}) {
			t.Errorf("told %d times: %+v, %d", n, r, what)
		}
	}
	r, what := Take(r, 20, 30)
	if what != Leave {
		t.Errorf("%+v, %d", r, what)
	}
	for _, want := range []int{Nothing, Nothing, Enter, Nothing} { // and then again
		if r, what = Take(r, 20, 30); what != want {
			t.Errorf("%+v, %d, not %d", r, what, want)
		}
	}
}

// P28.3

// A step is a call: a timeout, or an acknowledgement.
type step struct {
	isTimeout  bool
	upto, sent int64
}

// stepsBehind are calls of each kind, as they may come behind a state: what is old, what is told again, one more segment, all that is awaited, more, and timeouts, of all that was sent and of less.
func stepsBehind(r api.Recover) []step {
	sent := r.Acked + 3
	return []step{
		{upto: r.Acked - 1, sent: sent},
		{upto: r.Acked, sent: sent},
		{upto: r.Acked + 1, sent: sent},
		{upto: r.Point, sent: sent + 1},
		{upto: r.Point + 1, sent: sent},
		{isTimeout: true, sent: sent},
		{isTimeout: true, sent: r.Acked - 1},
	}
}

// taken is the state behind a step, and what happened by it.
func taken(r api.Recover, s step) (api.Recover, int) {
	if s.isTimeout {
		return Timeout(r, s.sent), Nothing
	}
	return Take(r, s.upto, s.sent)
}

// A watch looks at steps in a row: what was sent as something was lost, as far as that is told from outside, and how often it was entered and left.
type watch struct {
	t             *testing.T
	isAwaited     bool
	awaited       int64
	entered, left int
}

// see fails if the step that led from a state to the next one is none that the promise allows.
func (w watch) see(was, is api.Recover, s step, what int) watch {
	if is.Acked < was.Acked {
		w.t.Fatalf("Acked falls: from %+v to %+v by %+v", was, is, s)
	}
	if w.isAwaited && is.Acked >= w.awaited && is.Acked > was.Acked {
		w.isAwaited = false
	}
	if what == Enter && w.isAwaited {
		w.t.Fatalf("entered ahead of %d: from %+v to %+v by %+v", w.awaited, was, is, s)
	}
	if what == Leave && w.isAwaited || what == Again && !w.isAwaited {
		w.t.Fatalf("%d, not as far as %d: from %+v to %+v by %+v", what, w.awaited, was, is, s)
	}
	if what == Enter || s.isTimeout {
		w.isAwaited, w.awaited = true, s.sent
	}
	if is.In != w.isAwaited || is.In && is.Point != w.awaited {
		w.t.Fatalf("%d is awaited, %t: from %+v to %+v by %+v", w.awaited, w.isAwaited, was, is, s)
	}
	switch what {
	case Enter:
		w.entered++
	case Leave:
		w.left++
	}
	return w
}

// everyRow goes through all rows of so many steps behind a state, and yields the watch of each row's end.
func everyRow(w watch, r api.Recover, left int, yield func(w watch)) {
	if left == 0 {
		yield(w)
		return
	}
	for _, s := range stepsBehind(r) {
		next, what := taken(r, s)
		everyRow(w.see(r, next, s, what), next, left-1, yield)
	}
}

func TestEveryRow(t *testing.T) {
	rows, most, left := 0, 0, 0
	everyRow(watch{t: t}, api.Recover{}, 7, func(w watch) {
		rows++
		most, left = max(most, w.entered), max(left, w.left)
	})
	if rows != 823543 || most != 2 || left != 3 { // 7^7; three of the same, what leaves, and three of the same anew
		t.Errorf("%d rows, entered %d and left %d times", rows, most, left)
	}
	for _, r := range []api.Recover{{Acked: 5, Dups: 2, Point: 3}, {Acked: 5, Dups: -1, Point: 9}, {Acked: -3, Dups: 1001}, {Acked: 1 << 62, Dups: 2, Point: -1 << 62}} {
		everyRow(watch{t: t}, r, 6, func(watch) {})
	}
	for _, r := range []api.Recover{{Acked: 5, Dups: 2, Point: 9, In: true}, {Acked: 5, Dups: -1, Point: 3, In: true}, {Acked: -3, Dups: 999, Point: 1 << 62, In: true}} {
		everyRow(watch{t: t, isAwaited: true, awaited: r.Point}, r, 6, func(watch) {})
	}
}

func TestRowsByChance(t *testing.T) {
	c := rand.New(rand.NewSource(283))
	entered, left := 0, 0
	for range 3000 {
		r, w := api.Recover{}, watch{t: t}
		for range 100 {
			s := stepsBehind(r)[[]int{0, 1, 1, 1, 1, 1, 2, 2, 3, 4, 5, 6}[c.Intn(12)]]
			if c.Intn(20) == 0 {
				s = step{isTimeout: c.Intn(2) == 0, upto: r.Acked + int64(c.Intn(9)-4), sent: r.Acked + int64(c.Intn(9)-4)}
			}
			next, what := taken(r, s)
			w, r = w.see(r, next, s, what), next
		}
		entered += w.entered
		left += w.left
	}
	if entered < 1000 || left < 1000 {
		t.Errorf("entered %d and left %d times", entered, left)
	}
}

func TestRowsOfAnyNumbers(t *testing.T) {
	c := rand.New(rand.NewSource(284))
	for range 20000 {
		r := anyState(c)
		w := watch{t: t, isAwaited: r.In, awaited: r.Point}
		for range 20 {
			s := step{isTimeout: c.Intn(10) == 0, upto: anyOf(c, beside(r.Acked, r.Point)), sent: anyNumber(c)}
			if c.Intn(2) == 0 {
				s.upto = r.Acked
			}
			next, what := taken(r, s)
			w, r = w.see(r, next, s, what), next
		}
	}
}

func TestRowsAreTheirHistorys(t *testing.T) {
	c := rand.New(rand.NewSource(285))
	for range 2000 {
		r := api.Recover{}
		var row []step
		for range 60 {
			s := stepsBehind(r)[[]int{0, 1, 1, 1, 1, 2, 3, 4, 5, 6}[c.Intn(10)]]
			row = append(row, s)
			r, _ = taken(r, s)
			if acked, again := historyOf(row); r.Acked != acked || r.Dups != again {
				t.Fatalf("%+v: %+v, not %d and %d", row, r, acked, again)
			}
		}
	}
}

// historyOf is, of a row from nothing on, up to where all is there, and how often that was told again: by all of the row, not step by step.
func historyOf(row []step) (int64, int64) {
	acked, since := int64(0), 0
	for i, s := range row {
		if s.isTimeout {
			since = i + 1
		} else if s.upto > acked {
			acked, since = s.upto, i+1
		}
	}
	again := int64(0)
	for _, s := range row[since:] {
		if s.upto == acked && s.sent > acked {
			again++
		}
	}
	return acked, again
}

func TestAcknowledgementsInARow(t *testing.T) {
	r := api.Recover{}
	for i, c := range []struct {
		step
		what int
		is   api.Recover
	}{
		{step{upto: 0, sent: 0}, Nothing, api.Recover{}}, // nothing was sent
		{step{upto: 0, sent: 4}, Nothing, api.Recover{Dups: 1}},
		{step{upto: 2, sent: 4}, Fresh, api.Recover{Acked: 2}}, // they are told anew from here
		{step{upto: 2, sent: 4}, Nothing, api.Recover{Acked: 2, Dups: 1}},
		{step{upto: 1, sent: 4}, Nothing, api.Recover{Acked: 2, Dups: 1}}, // an old one among them
		{step{upto: 2, sent: 4}, Nothing, api.Recover{Acked: 2, Dups: 2}},
		{step{upto: 2, sent: 2}, Nothing, api.Recover{Acked: 2, Dups: 2}},
		{step{upto: 2, sent: 5}, Enter, api.Recover{Acked: 2, Dups: 3, Point: 5, In: true}},
		{step{upto: 2, sent: 6}, Nothing, api.Recover{Acked: 2, Dups: 4, Point: 5, In: true}},
		{step{upto: 3, sent: 6}, Again, api.Recover{Acked: 3, Point: 5, In: true}},
		{step{upto: 3, sent: 6}, Nothing, api.Recover{Acked: 3, Dups: 1, Point: 5, In: true}},
		{step{upto: 3, sent: 6}, Nothing, api.Recover{Acked: 3, Dups: 2, Point: 5, In: true}},
		{step{upto: 3, sent: 6}, Nothing, api.Recover{Acked: 3, Dups: 3, Point: 5, In: true}}, // not entered anew
		{step{upto: 4, sent: 7}, Again, api.Recover{Acked: 4, Point: 5, In: true}},
		{step{upto: 6, sent: 8}, Leave, api.Recover{Acked: 6, Point: 5}},
		{step{upto: 7, sent: 8}, Fresh, api.Recover{Acked: 7, Point: 5}},
		{step{upto: 7, sent: 9}, Nothing, api.Recover{Acked: 7, Dups: 1, Point: 5}},
		{step{upto: 7, sent: 9}, Nothing, api.Recover{Acked: 7, Dups: 2, Point: 5}},
		{step{upto: 7, sent: 9}, Enter, api.Recover{Acked: 7, Dups: 3, Point: 9, In: true}}, // it was left, and is entered again
		{step{isTimeout: true, sent: 12}, Nothing, api.Recover{Acked: 7, Point: 12, In: true}},
		{step{upto: 9, sent: 12}, Again, api.Recover{Acked: 9, Point: 12, In: true}}, // up to 9, yet by now 12 is awaited
		{step{isTimeout: true, sent: 11}, Nothing, api.Recover{Acked: 9, Point: 11, In: true}},
		{step{upto: 11, sent: 12}, Leave, api.Recover{Acked: 11, Point: 11}},
		{step{upto: 12, sent: 12}, Fresh, api.Recover{Acked: 12, Point: 11}},
		{step{upto: 12, sent: 12}, Nothing, api.Recover{Acked: 12, Point: 11}},
		{step{isTimeout: true, sent: 12}, Nothing, api.Recover{Acked: 12, Point: 12, In: true}},
		{step{upto: 12, sent: 13}, Nothing, api.Recover{Acked: 12, Dups: 1, Point: 12, In: true}}, // that is there already, but it was not left
		{step{upto: 13, sent: 13}, Leave, api.Recover{Acked: 13, Point: 12}},
	} {
		var what int
		if r, what = taken(r, c.step); r != c.is || what != c.what {
			t.Fatalf("%d: got %+v, %d, want %+v, %d", i, r, what, c.is, c.what)
		}
	}
}

func TestAckedNeverFalls(t *testing.T) {
	everyTake(func(r api.Recover, upto, sent int64) {
		if got, _ := Take(r, upto, sent); got.Acked != max(r.Acked, upto) {
			t.Fatalf("%+v, upto %d, sent %d: got %+v", r, upto, sent, got)
		}
	})
	everyState(func(r api.Recover) {
		if got := Timeout(r, lowest); got.Acked != r.Acked {
			t.Fatalf("%+v: got %+v", r, got)
		}
	})
}

// Rules that hold everywhere

func TestWhatIsHandedInStays(t *testing.T) {
	everyState(func(r api.Recover) {
		was := r
		Take(r, r.Acked, highest)
		Take(r, highest, highest)
		Take(r, lowest, highest)
		Timeout(r, 20)
		if r != was {
			t.Fatalf("%+v became %+v", was, r)
		}
	})
	a := api.Recover{Acked: 5, Dups: 2}
	b, _ := Take(a, 5, 9)
	c, _ := Take(b, 7, 9)
	d := Timeout(c, 12)
	if a != (api.Recover{Acked: 5, Dups: 2}) || b != (api.Recover{Acked: 5, Dups: 3, Point: 9, In: true}) || c != (api.Recover{Acked: 7, Point: 9, In: true}) || d != (api.Recover{Acked: 7, Point: 12, In: true}) {
		t.Errorf("%+v, %+v, %+v and %+v", a, b, c, d)
	}
}

func TestTheSameIsAnsweredTheSame(t *testing.T) {
	c := rand.New(rand.NewSource(286))
	for range 20000 {
		r, upto, sent := anyTake(c)
		next, what := Take(r, upto, sent)
		late := Timeout(r, sent)
		Take(anyTake(c)) // what others are told does not matter
		Timeout(anyState(c), anyNumber(c))
		again, happened := Take(r, upto, sent)
		if again != next || happened != what || Timeout(r, sent) != late {
			t.Fatalf("%+v, upto %d, sent %d: it is not the same again", r, upto, sent)
		}
	}
}

func TestWhatIsToldIsWithinItsEnds(t *testing.T) {
	everyTake(func(r api.Recover, upto, sent int64) {
		next, what := Take(r, upto, sent)
		if what < Nothing || what > Leave || what != Nothing && next == r {
			t.Fatalf("%+v, upto %d, sent %d: got %+v, %d", r, upto, sent, next, what)
		}
		if next != r && (next.Dups < 0 || next.Dups > 1000) { // only a state that stays as it was keeps what is beyond
			t.Fatalf("%+v, upto %d, sent %d: got %+v", r, upto, sent, next)
		}
	})
}
