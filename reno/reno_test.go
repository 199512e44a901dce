package reno

import (
	"math"
	"math/big"
	"math/rand"
	"testing"

	"leat/api"
)

const (
	lowest  = math.MinInt64
	highest = math.MaxInt64
	widest  = 1 << 30 // the greatest Cwnd and Thresh
	biggest = 1 << 16 // the greatest mss
	fullest = 1<<50 - 1
	heaped  = 1 << 24 // the greatest acked
	one     = 1 << 20
)

// sizes are numbers that an mss may be, with what each counts as.
var sizes = []struct{ is, as int64 }{
	{lowest, 1},
	{lowest + 1, 1},
	{-biggest, 1},
	{-1000, 1},
	{-1, 1},
	{0, 1},
	{1, 1},
	{2, 2},
	{3, 3},
	{536, 536},
	{1000, 1000},
	{1448, 1448},
	{biggest - 1, biggest - 1},
	{biggest, biggest},
	{biggest + 1, biggest},
	{2 * biggest, biggest},
	{1<<32 + 5, biggest},
	{highest - 1, biggest},
	{highest, biggest},
}

// carries are numbers that a Carry may be, with what each counts as.
var carries = []struct{ is, as int64 }{
	{lowest, 0},
	{lowest + 1, 0},
	{-1 << 50, 0},
	{-1, 0},
	{0, 0},
	{1, 1},
	{7, 7},
	{9999, 9999},
	{1 << 30, 1 << 30},
	{1<<32 + 3, 1<<32 + 3},
	{fullest - 1, fullest - 1},
	{fullest, fullest},
	{fullest + 1, fullest},
	{fullest + 2, fullest},
	{1 << 51, fullest},
	{highest - 1, fullest},
	{highest, fullest},
}

// heaps are numbers that acked may be, with what each counts as.
var heaps = []struct{ is, as int64 }{
	{lowest, 0},
	{lowest + 1, 0},
	{-heaped, 0},
	{-1000, 0},
	{-1, 0},
	{0, 0},
	{1, 1},
	{2, 2},
	{999, 999},
	{1000, 1000},
	{5000, 5000},
	{heaped - 1, heaped - 1},
	{heaped, heaped},
	{heaped + 1, heaped},
	{2 * heaped, heaped},
	{1<<32 + 5, heaped},
	{highest - 1, heaped},
	{highest, heaped},
}

// shares are numbers that a share may be, with what each counts as.
var shares = []struct{ is, as int64 }{
	{lowest, 0},
	{lowest + 1, 0},
	{-one, 0},
	{-1, 0},
	{0, 0},
	{1, 1},
	{2, 2},
	{one / 3, one / 3},
	{one / 2, one / 2},
	{one/2 + 1, one/2 + 1},
	{one - 1, one - 1},
	{one, one},
	{one + 1, one},
	{2 * one, one},
	{1<<32 + 5, one},
	{highest - 1, one},
	{highest, one},
}

// cwndsOf are numbers that a Cwnd may be, of an mss that counts as itself.
func cwndsOf(mss int64) []int64 {
	return []int64{lowest, lowest + 1, -widest, -mss, -1, 0, 1, mss - 1, mss, mss + 1, 2*mss - 1, 2 * mss, 2*mss + 1, 3 * mss, 4*mss - 1, 4 * mss, 4*mss + 1, 10 * mss, 10*mss + 1, widest / 2, widest - mss, widest - 1, widest, widest + 1, 2 * widest, 1<<32 + 5, highest - 1, highest}
}

// threshesOf are numbers that a Thresh may be beside a Cwnd.
func threshesOf(cwnd int64) []int64 {
	return []int64{lowest, lowest + 1, -widest, -1, 0, 1, cwnd - 1, cwnd, cwnd + 1, cwnd + 999, cwnd + 1000, widest - 1, widest, widest + 1, 1<<32 + 5, highest - 1, highest}
}

// carriesOf are numbers that a Carry may be beside a Cwnd.
func carriesOf(cwnd int64) []int64 {
	l := []int64{cwnd - 1, cwnd, cwnd + 1, 2*cwnd - 1, 2 * cwnd, 5*cwnd + 3}
	for _, c := range carries {
		l = append(l, c.is)
	}
	return l
}

func number(x int64) *big.Int { return big.NewInt(x) }

func product(a, b *big.Int) *big.Int { return new(big.Int).Mul(a, b) }

// kept is a number within its ends, as the model keeps it.
func kept(x, lo, hi int64) int64 {
	if x < lo {
		return lo
	}
	if x > hi {
		return hi
	}
	return x
}

// part is the share f of x, both within their ends, by numbers without bounds.
func part(x *big.Int, f int64) *big.Int {
	p := product(x, number(f))
	return p.Div(p, number(one))
}

// modelWithin is Within as the chapter says it.
func modelWithin(w api.Window, mss int64) api.Window {
	return api.Window{Cwnd: kept(w.Cwnd, kept(mss, 1, biggest), widest), Thresh: kept(w.Thresh, 0, widest), Carry: kept(w.Carry, 0, fullest)}
}

// modelGrow is Grow as the chapter says it, by numbers without bounds.
func modelGrow(w api.Window, acked, mss, share int64) api.Window {
	w = modelWithin(w, mss)
	cwnd, left := number(w.Cwnd), number(kept(acked, 0, heaped))
	if w.Cwnd < w.Thresh {
		up := number(w.Thresh - w.Cwnd)
		if up.Cmp(left) > 0 {
			up.Set(left)
		}
		cwnd.Add(cwnd, up)
		left.Sub(left, up)
	}
	carry := new(big.Int).Add(number(w.Carry), part(product(left, number(kept(mss, 1, biggest))), kept(share, 0, one)))
	times := new(big.Int).Div(carry, cwnd)
	carry.Sub(carry, product(times, cwnd))
	cwnd.Add(cwnd, times)
	if cwnd.Cmp(number(widest)) > 0 {
		cwnd = number(widest)
	}
	return api.Window{Cwnd: cwnd.Int64(), Thresh: w.Thresh, Carry: carry.Int64()}
}

// modelCut is Cut as the chapter says it.
func modelCut(w api.Window, share, mss int64) api.Window {
	w, mss = modelWithin(w, mss), kept(mss, 1, biggest)
	cwnd := w.Cwnd - part(number(w.Cwnd), kept(share, 0, one)).Int64()
	if cwnd < 2*mss {
		cwnd = 2 * mss
	}
	if cwnd > w.Cwnd {
		cwnd = w.Cwnd
	}
	return api.Window{Cwnd: cwnd, Thresh: cwnd}
}

// modelCollapse is Collapse as the chapter says it.
func modelCollapse(w api.Window, mss int64) api.Window {
	w, mss = modelWithin(w, mss), kept(mss, 1, biggest)
	half := w.Cwnd >> 1
	if half < 2*mss {
		half = 2 * mss
	}
	return api.Window{Cwnd: mss, Thresh: half}
}

// is fails if a window is another one.
func is(t *testing.T, got, want api.Window) {
	t.Helper()
	if got != want {
		t.Errorf("got %+v, want %+v", got, want)
	}
}

// grows fails if a window, grown, is another one.
func grows(t *testing.T, w api.Window, acked, mss, share int64, want api.Window) {
	t.Helper()
	if got := Grow(w, acked, mss, share); got != want {
		t.Errorf("%+v by %d, mss %d, share %d: got %+v, want %+v", w, acked, mss, share, got, want)
	}
}

// cuts fails if a window, cut, is another one.
func cuts(t *testing.T, w api.Window, share, mss int64, want api.Window) {
	t.Helper()
	if got := Cut(w, share, mss); got != want {
		t.Errorf("%+v by share %d, mss %d: got %+v, want %+v", w, share, mss, got, want)
	}
}

// collapses fails if a window, collapsed, is another one.
func collapses(t *testing.T, w api.Window, mss int64, want api.Window) {
	t.Helper()
	if got := Collapse(w, mss); got != want {
		t.Errorf("%+v, mss %d: got %+v, want %+v", w, mss, got, want)
	}
}

// everyWindow goes through windows of all numbers of the tables, beside each mss.
func everyWindow(yield func(w api.Window, mss int64)) {
	for _, s := range sizes {
		for _, cwnd := range cwndsOf(s.as) {
			for _, thresh := range threshesOf(kept(cwnd, s.as, widest)) {
				for _, carry := range carriesOf(kept(cwnd, s.as, widest)) {
					yield(api.Window{Cwnd: cwnd, Thresh: thresh, Carry: carry}, s.is)
				}
			}
		}
	}
}

// few are windows of some numbers, within their ends and beyond them.
func few() []api.Window {
	return []api.Window{
		{},
		{Cwnd: 1000},
		{Cwnd: 10000, Thresh: widest},
		{Cwnd: 10000, Thresh: 12000, Carry: 9999},
		{Cwnd: 10000, Thresh: 10000},
		{Cwnd: 10001, Thresh: 10000, Carry: 10000},
		{Cwnd: 10001, Thresh: 10000, Carry: 50007},
		{Cwnd: 1, Thresh: 1, Carry: fullest},
		{Cwnd: widest - 1, Thresh: widest - 2, Carry: widest - 2},
		{Cwnd: widest - 1, Thresh: widest, Carry: widest},
		{Cwnd: widest, Thresh: widest, Carry: fullest},
		{Cwnd: widest / 2, Thresh: 5, Carry: fullest},
		{Cwnd: lowest, Thresh: lowest, Carry: lowest},
		{Cwnd: highest, Thresh: highest, Carry: highest},
		{Cwnd: lowest, Thresh: highest, Carry: lowest},
		{Cwnd: lowest, Thresh: lowest, Carry: highest},
		{Cwnd: highest, Thresh: lowest, Carry: highest},
	}
}

// anyNumber is one of any size, mostly not below 0.
func anyNumber(r *rand.Rand) int64 {
	x := int64(r.Uint64()>>1) >> r.Intn(63)
	if r.Intn(5) == 0 {
		return -x
	}
	return x
}

// anyWindow is one of any numbers, now and then of a Thresh and a Carry near its Cwnd.
func anyWindow(r *rand.Rand) api.Window {
	w := api.Window{Cwnd: anyNumber(r), Thresh: anyNumber(r), Carry: anyNumber(r)}
	if r.Intn(2) == 0 {
		w.Cwnd = 1 + r.Int63n(widest>>r.Intn(20))
	}
	if r.Intn(2) == 0 {
		w.Thresh = kept(w.Cwnd, 0, widest) + r.Int63n(4001) - 2000
	}
	if r.Intn(2) == 0 {
		w.Carry = r.Int63n(kept(w.Cwnd, 1, widest))
	}
	return w
}

func TestTheExampleOfTheChapter(t *testing.T) {
	w := Grow(api.Window{Cwnd: 10000}, 5000, 1000, api.One)
	is(t, w, api.Window{Cwnd: 10500})
	w = Grow(w, 5000, 1000, api.One)
	is(t, w, api.Window{Cwnd: 10976, Carry: 2000})
}

// P24.1

func TestWithin(t *testing.T) {
	for _, c := range []struct {
		w    api.Window
		mss  int64
		want api.Window
	}{
		{api.Window{Cwnd: 10000, Thresh: 7, Carry: 5}, 1000, api.Window{Cwnd: 10000, Thresh: 7, Carry: 5}},
		{api.Window{Cwnd: 999, Thresh: 7, Carry: 5}, 1000, api.Window{Cwnd: 1000, Thresh: 7, Carry: 5}},
		{api.Window{Cwnd: 1000, Thresh: 7, Carry: 5}, 1000, api.Window{Cwnd: 1000, Thresh: 7, Carry: 5}},
		{api.Window{Cwnd: 1001, Thresh: 7, Carry: 5}, 1000, api.Window{Cwnd: 1001, Thresh: 7, Carry: 5}},
		{api.Window{}, 1000, api.Window{Cwnd: 1000}},
		{api.Window{}, 0, api.Window{Cwnd: 1}},
		{api.Window{}, -1, api.Window{Cwnd: 1}},
		{api.Window{}, lowest, api.Window{Cwnd: 1}},
		{api.Window{}, 1, api.Window{Cwnd: 1}},
		{api.Window{}, biggest, api.Window{Cwnd: biggest}},
		{api.Window{}, biggest + 1, api.Window{Cwnd: biggest}},
		{api.Window{}, highest, api.Window{Cwnd: biggest}},
		{api.Window{Cwnd: widest - 1}, 1000, api.Window{Cwnd: widest - 1}},
		{api.Window{Cwnd: widest}, 1000, api.Window{Cwnd: widest}},
		{api.Window{Cwnd: widest + 1}, 1000, api.Window{Cwnd: widest}},
		{api.Window{Cwnd: 5000, Thresh: -1}, 1000, api.Window{Cwnd: 5000}},
		{api.Window{Cwnd: 5000, Thresh: widest - 1}, 1000, api.Window{Cwnd: 5000, Thresh: widest - 1}},
		{api.Window{Cwnd: 5000, Thresh: widest}, 1000, api.Window{Cwnd: 5000, Thresh: widest}},
		{api.Window{Cwnd: 5000, Thresh: widest + 1}, 1000, api.Window{Cwnd: 5000, Thresh: widest}},
		{api.Window{Cwnd: 5000, Carry: -1}, 1000, api.Window{Cwnd: 5000}},
		{api.Window{Cwnd: 5000, Carry: 5000}, 1000, api.Window{Cwnd: 5000, Carry: 5000}}, // it may be above Cwnd
		{api.Window{Cwnd: 5000, Carry: fullest}, 1000, api.Window{Cwnd: 5000, Carry: fullest}},
		{api.Window{Cwnd: 5000, Carry: fullest + 1}, 1000, api.Window{Cwnd: 5000, Carry: fullest}},
		{api.Window{Cwnd: lowest, Thresh: lowest, Carry: lowest}, 1000, api.Window{Cwnd: 1000}},
		{api.Window{Cwnd: highest, Thresh: highest, Carry: highest}, 1000, api.Window{Cwnd: widest, Thresh: widest, Carry: fullest}},
	} {
		is(t, Within(c.w, c.mss), c.want)
	}
}

func TestWithinOfAnyWindow(t *testing.T) {
	everyWindow(func(w api.Window, mss int64) {
		got := Within(w, mss)
		if want := modelWithin(w, mss); got != want {
			t.Fatalf("%+v, mss %d: got %+v, want %+v", w, mss, got, want)
		}
		if again := Within(got, mss); again != got {
			t.Fatalf("%+v, mss %d: again it is %+v", got, mss, again)
		}
	})
}

func TestStart(t *testing.T) {
	for _, c := range []struct{ mss, segments, cwnd int64 }{
		{1000, 10, 10000},
		{1000, 1, 1000},
		{1000, 2, 2000},
		{1000, 0, 1000}, // at least one segment
		{1000, -1, 1000},
		{1000, lowest, 1000},
		{1000, 999, 999000},
		{1000, 1000, 1000000},
		{1000, 1001, 1000000}, // at most 1000
		{1000, 1<<32 + 5, 1000000},
		{1000, highest, 1000000},
		{1448, 3, 4344},
		{1, 7, 7},
		{0, 7, 7},
		{-1, 7, 7},
		{lowest, 7, 7},
		{biggest - 1, 7, 7*biggest - 7},
		{biggest, 7, 7 * biggest},
		{biggest + 1, 7, 7 * biggest},
		{highest, 7, 7 * biggest},
		{lowest, lowest, 1},
		{lowest, highest, 1000},
		{highest, lowest, biggest},
		{highest, highest, 1000 * biggest},
	} {
		is(t, Start(c.mss, c.segments), api.Window{Cwnd: c.cwnd, Thresh: widest})
	}
}

func TestStartOfAnyNumbers(t *testing.T) {
	segments := []struct{ is, as int64 }{{lowest, 1}, {-1, 1}, {0, 1}, {1, 1}, {2, 2}, {10, 10}, {999, 999}, {1000, 1000}, {1001, 1000}, {1 << 32, 1000}, {highest, 1000}}
	for _, s := range sizes {
		for _, n := range segments {
			is(t, Start(s.is, n.is), api.Window{Cwnd: s.as * n.as, Thresh: widest})
		}
	}
}

func TestSlow(t *testing.T) {
	for _, c := range []struct {
		cwnd, thresh int64
		want         bool
	}{
		{1, 2, true},
		{2, 2, false},
		{3, 2, false},
		{9999, 10000, true}, // one below Thresh
		{10000, 10000, false},
		{10001, 10000, false},
		{10000, 0, false},
		{10000, widest, true},
		{1, 1, false},
		{1, 0, false},
		{widest - 1, widest, true},
		{widest, widest, false},
		{widest, widest - 1, false},
		{widest, widest + 1, false}, // both count as MaxCwnd
		{widest, highest, false},
		{widest + 1, highest, false},
		{widest - 1, highest, true},
		{highest - 1, highest, false},
		{highest, widest, false},
		{10000, -1, false},
		{10000, lowest, false},
		{lowest, -1, false}, // a Thresh below 0 counts as 0, a Cwnd as the least mss at least
		{lowest, 0, false},
		{lowest, 1, false},
		{lowest, 2, true},
		{-5, -3, false},
		{0, 1, false},
		{0, 2, true},
		{lowest, highest, true},
		{lowest, lowest, false},
		{highest, lowest, false},
	} {
		for _, carry := range carries {
			if got := Slow(api.Window{Cwnd: c.cwnd, Thresh: c.thresh, Carry: carry.is}); got != c.want {
				t.Errorf("Cwnd %d, Thresh %d, Carry %d: got %v, want %v", c.cwnd, c.thresh, carry.is, got, c.want)
			}
		}
	}
}

func TestSlowOfAnyWindow(t *testing.T) {
	everyWindow(func(w api.Window, mss int64) {
		as := modelWithin(w, mss)
		if got := Slow(as); got != (as.Cwnd < as.Thresh) {
			t.Fatalf("%+v: got %v", as, got)
		}
		as = modelWithin(w, 1)
		if got := Slow(w); got != (as.Cwnd < as.Thresh) {
			t.Fatalf("%+v: got %v", w, got)
		}
	})
}

// P24.2

func TestGrowFast(t *testing.T) {
	for _, c := range []struct {
		cwnd, thresh, carry, acked int64
		cwndThen, carryThen        int64
	}{
		{10000, widest, 0, 3000, 13000, 0},
		{10000, widest, 0, 0, 10000, 0},
		{10000, widest, 0, 1, 10001, 0},
		{10000, widest, 9999, 3000, 13000, 9999}, // of what is left nothing is: Carry stays
		{10000, widest, 0, -1, 10000, 0},
		{10000, widest, 0, heaped, 10000 + heaped, 0},
		{10000, widest, 0, heaped + 1, 10000 + heaped, 0},
		{10000, widest, 0, highest, 10000 + heaped, 0},
		{10000, highest, 0, 3000, 13000, 0},
		{10000, 13001, 0, 3000, 13000, 0}, // it ends just below Thresh
		{10000, 13000, 0, 3000, 13000, 0}, // just at it
		{10000, 12999, 0, 3000, 12999, 1000},
		{10000, 12987, 0, 3000, 12988, 13}, // beyond it: 13000 is once 12987, and 13
		{10000, 12986, 0, 3000, 12987, 1014},
		{9000, 10000, 0, 2000, 10100, 0}, // a thousand are left, of a window of ten
		{9000, 10000, 9999, 2000, 10100, 9999},
		{9000, 10000, 10000, 2000, 10101, 0},
		{9000, 10000, 0, 1000, 10000, 0},
		{9000, 10000, 0, 999, 9999, 0},
		{9000, 10000, 0, 1001, 10000, 1000},
		{9999, 10000, 0, 1, 10000, 0},
		{9999, 10000, 0, 2, 10000, 1000},
		{9999, 10000, 0, 11, 10001, 0},
		{10000, 10001, 0, 11, 10001, 10000},
		{widest - 1, widest, 0, 1, widest, 0},
		{widest - 1, widest, 0, heaped, widest, (heaped - 1) * 1000 % widest}, // it would rise above MaxCwnd
		{widest - 1, widest, fullest, heaped, widest, (fullest + (heaped-1)*1000) % widest},
		{widest - heaped, highest, 0, heaped, widest, 0},
		{widest - heaped - 1, highest, 0, heaped, widest - 1, 0},
		{500, 1000, 0, 300, 1300, 0},   // a Cwnd below mss counts as mss: it is not below Thresh, then
		{500, 1100, 0, 300, 1281, 900}, // a hundred up to Thresh, and 200000 by that
		{lowest, 1100, 0, 300, 1281, 900},
		{highest, highest, 0, 300, widest, 300000},
	} {
		want := api.Window{Cwnd: c.cwndThen, Thresh: kept(c.thresh, 0, widest), Carry: c.carryThen}
		grows(t, api.Window{Cwnd: c.cwnd, Thresh: c.thresh, Carry: c.carry}, c.acked, 1000, one, want)
	}
}

func TestGrow(t *testing.T) {
	for _, c := range []struct {
		cwnd, carry, acked, mss, share int64
		cwndThen, carryThen            int64
	}{
		{10000, 0, 5000, 1000, one, 10500, 0},
		{10500, 0, 5000, 1000, one, 10976, 2000},
		{10000, 0, 15, 1000, one, 10001, 5000},
		{10000, 0, 9, 1000, one, 10000, 9000},
		{10000, 0, 10, 1000, one, 10001, 0},
		{10000, 0, 10000, 1000, one, 11000, 0},
		{10000, 9999, 10000, 1000, one, 11000, 9999},
		{10000, 0, 0, 1000, one, 10000, 0},
		{10000, 0, -1, 1000, one, 10000, 0},
		{10000, 0, lowest, 1000, one, 10000, 0},
		{10000, 9999, 0, 1000, one, 10000, 9999},    // one below Cwnd
		{10000, 10000, 0, 1000, one, 10001, 0},      // just Cwnd
		{10000, 10001, 0, 1000, one, 10001, 1},      // one above it
		{10000, 19999, 0, 1000, one, 10001, 9999},   // twice, but for one
		{10000, 20000, 0, 1000, one, 10002, 0},      // twice
		{10000, 70003, 0, 1000, one, 10007, 3},      // of Cwnd as it was each time
		{10000, 10000, -5, 1000, one, 10001, 0},     // also where nothing was acknowledged
		{10000, 10000, 5, 1000, 0, 10001, 0},        // nor any share is
		{10000, 9000, 1, 1000, one, 10001, 0},       // it comes to Cwnd just by this
		{10000, 8999, 1, 1000, one, 10000, 9999},    // but not by this
		{10000, 0, 5000, 1000, one / 2, 10250, 0},   // a half
		{10000, 0, 5000, 1000, one/2 + 1, 10250, 4}, // by 4.76, downwards
		{10000, 0, 5000, 1000, one/2 - 1, 10249, 9995},
		{10000, 0, 5000, 1000, one - 1, 10499, 9995},
		{10000, 0, 5000, 1000, 1, 10000, 4},
		{10000, 0, 1, 1000, 1048, 10000, 0}, // of 1048000 by 1048576
		{10000, 0, 1, 1000, 1049, 10000, 1},
		{10000, 0, 5000, 1000, 0, 10000, 0},
		{10000, 0, 5000, 1000, -1, 10000, 0},
		{10000, 0, 5000, 1000, lowest, 10000, 0},
		{10000, 0, 5000, 1000, one + 1, 10500, 0},
		{10000, 0, 5000, 1000, highest, 10500, 0},
		{10000, 0, 5000, 1, one, 10000, 5000},
		{10000, 0, 5000, 0, one, 10000, 5000}, // an mss below 1 counts as 1
		{10000, 0, 5000, -1, one, 10000, 5000},
		{10000, 0, 5000, lowest, one, 10000, 5000},
		{10000, 0, 10000, 1, one, 10001, 0},
		{biggest, 0, 5000, biggest, one, biggest + 5000, 0},
		{biggest, 0, 5000, biggest + 1, one, biggest + 5000, 0}, // above MaxSize as that
		{biggest, 0, 5000, highest, one, biggest + 5000, 0},
		{0, 0, 5000, highest, one, biggest + 5000, 0},
		{999, 0, 1, 1000, one, 1001, 0}, // a Cwnd below mss counts as that
		{1000, 0, 1, 1000, one, 1001, 0},
		{1001, 0, 1, 1000, one, 1001, 1000},
		{1001, 1, 1, 1000, one, 1002, 0},
		{-1, 0, 1, 1000, one, 1001, 0},
		{lowest, 0, 1, 1000, one, 1001, 0},
		{10000, -1, 5, 1000, one, 10000, 5000},
		{10000, lowest, 5, 1000, one, 10000, 5000},
		{10000, 0, heaped, 1000, one, 10000 + heaped/10, heaped % 10 * 1000},
		{10000, 0, heaped + 1, 1000, one, 10000 + heaped/10, heaped % 10 * 1000},
		{10000, 0, highest, 1000, one, 10000 + heaped/10, heaped % 10 * 1000},
		{widest - 1, widest - 2, 0, 1000, one, widest - 1, widest - 2},
		{widest - 1, widest - 2, 1, 1, one, widest, 0},
		{widest - 1, widest - 1, 0, 1000, one, widest, 0},
		{widest - 1, 2 * (widest - 1), 0, 1000, one, widest, 0}, // it would rise above MaxCwnd
		{widest - 1, 2*widest + 1, 0, 1000, one, widest, 3},     // Carry falls all the same
		{widest - 1, widest - 2, 2, 1, one, widest, 1},
		{widest, widest - 1, 1, 1, one, widest, 0},
		{widest, widest - 1, 0, 1, one, widest, widest - 1},
		{widest, 0, heaped, biggest, one, widest, 0},
		{widest, fullest, 0, 1000, one, widest, widest - 1},
		{widest + 1, 5, 1, 1000, one, widest, 1005},
		{highest, 5, 1, 1000, one, widest, 1005},
		{1, fullest, 0, 1, one, widest, 0},
		{1, highest, 0, 1, one, widest, 0},
		{1, fullest, heaped, 1, one, widest, 0},
		{widest / 2, fullest, 0, 1000, one, widest/2 + 1<<21 - 1, widest/2 - 1},
		{widest / 2, fullest, heaped, biggest, one, widest/2 + 1<<21 - 1 + 1<<11, widest/2 - 1}, // in between Carry is beyond its end
		{highest, highest, highest, highest, highest, widest, widest - 1},
		{lowest, lowest, lowest, lowest, lowest, 1, 0},
		{lowest, highest, lowest, highest, lowest, biggest + 1<<34 - 1, biggest - 1},
	} {
		for _, thresh := range []int64{lowest, -1, 0, 1} { // it is not below any of these
			cwnd := kept(c.cwndThen, 0, widest)
			want := api.Window{Cwnd: cwnd, Thresh: kept(thresh, 0, widest), Carry: c.carryThen}
			grows(t, api.Window{Cwnd: c.cwnd, Thresh: thresh, Carry: c.carry}, c.acked, c.mss, c.share, want)
		}
	}
}

func TestGrowBesideAnyThresh(t *testing.T) {
	for _, cwnd := range []int64{1000, 1001, 10000, widest - 1, widest} {
		for _, thresh := range threshesOf(cwnd) {
			for _, h := range heaps {
				for _, carry := range carriesOf(cwnd) {
					w := api.Window{Cwnd: cwnd, Thresh: thresh, Carry: carry}
					grows(t, w, h.is, 1000, one, modelGrow(w, h.as, 1000, one))
				}
			}
		}
	}
}

func TestGrowToThresh(t *testing.T) {
	for _, up := range []int64{1, 2, 999, 1000, 5000, heaped} { // so far it is up to Thresh
		for _, over := range []int64{-1, 0, 1, 2, 10, 11, 10000} {
			w := api.Window{Cwnd: 10000, Thresh: 10000 + up}
			rise, left := up+min(over, 0), max(min(up+over, heaped)-up, 0)
			want := w
			want.Cwnd += rise + left*1000/w.Thresh
			want.Carry = left * 1000 % w.Thresh
			grows(t, w, up+over, 1000, one, want)
		}
	}
}

func TestGrowOfAnyWindow(t *testing.T) {
	everyWindow(func(w api.Window, mss int64) {
		for _, acked := range []int64{-1, 0, 1, 5000, highest} {
			got := Grow(w, acked, mss, one/3)
			if want := modelGrow(w, acked, mss, one/3); got != want {
				t.Fatalf("%+v by %d, mss %d: got %+v, want %+v", w, acked, mss, got, want)
			}
		}
	})
}

func TestGrowByAnyNumbers(t *testing.T) {
	for _, w := range few() {
		for _, h := range heaps {
			for _, s := range sizes {
				for _, f := range shares {
					want := modelGrow(w, h.as, s.as, f.as)
					grows(t, w, h.is, s.is, f.is, want)
					grows(t, modelWithin(w, s.as), h.as, s.as, f.as, want)
				}
			}
		}
	}
}

func TestGrowOfNumbersByChance(t *testing.T) {
	r := rand.New(rand.NewSource(242))
	for range 100000 {
		w, acked, mss, share := anyWindow(r), anyNumber(r), anyNumber(r), anyNumber(r)
		if r.Intn(2) == 0 {
			acked, mss, share = r.Int63n(heaped+2), 1+r.Int63n(3000), r.Int63n(one+2)
		}
		grows(t, w, acked, mss, share, modelGrow(w, acked, mss, share))
	}
}

// P24.3

func TestCut(t *testing.T) {
	for _, c := range []struct {
		cwnd, share, mss int64
		then             int64
	}{
		{10000, one / 2, 1000, 5000},
		{10001, one / 2, 1000, 5001}, // it falls by 5000.5, downwards
		{10000, one / 4, 1000, 7500},
		{10000, 0, 1000, 10000},
		{10000, -1, 1000, 10000},
		{10000, lowest, 1000, 10000},
		{10000, 1, 1000, 10000},
		{one, 1, 1000, one - 1},
		{one - 1, 1, 1000, one - 1},
		{one + 1, 1, 1000, one},
		{2*one - 1, 1, 1000, 2*one - 2},
		{2 * one, 1, 1000, 2*one - 2},
		{10000, one, 1000, 2000}, // not below two segments
		{10000, one - 1, 1000, 2000},
		{10000, one + 1, 1000, 2000},
		{10000, highest, 1000, 2000},
		{4000, one / 2, 1000, 2000}, // just to them
		{4001, one / 2, 1000, 2001},
		{4002, one / 2, 1000, 2001},
		{3999, one / 2, 1000, 2000}, // it falls by 1999
		{3998, one / 2, 1000, 2000}, // it would fall to 1999
		{3000, one, 1000, 2000},
		{2001, one, 1000, 2000},
		{2001, 0, 1000, 2001},
		{2000, one, 1000, 2000}, // just there already
		{2000, one / 2, 1000, 2000},
		{2000, 0, 1000, 2000},
		{1999, one, 1000, 1999}, // below them: it stays, and does not rise
		{1999, one / 2, 1000, 1999},
		{1999, 0, 1000, 1999},
		{1500, one, 1000, 1500},
		{1001, one, 1000, 1001},
		{1000, one, 1000, 1000},
		{999, one, 1000, 1000}, // but to mss
		{999, 0, 1000, 1000},
		{0, one, 1000, 1000},
		{-1, one / 2, 1000, 1000},
		{lowest, one, 1000, 1000},
		{lowest, 0, 1000, 1000},
		{widest, one / 2, 1000, widest / 2},
		{widest - 1, one / 2, 1000, widest / 2},
		{widest, 1, 1000, widest - 1<<10},
		{widest, one - 1, 1, 1 << 10},
		{widest, one, 1, 2},
		{widest, one, 0, 2}, // an mss below 1 counts as 1
		{widest, one, -1, 2},
		{widest, one, lowest, 2},
		{widest, one, biggest, 2 * biggest},
		{widest, one, biggest + 1, 2 * biggest}, // above MaxSize as that
		{widest, one, highest, 2 * biggest},
		{widest + 1, one / 2, 1000, widest / 2}, // a Cwnd above MaxCwnd counts as that
		{widest + 1, 0, 1000, widest},
		{highest, one / 2, 1000, widest / 2},
		{highest, 0, 1000, widest},
		{1, one, 1, 1},
		{2, one, 1, 2},
		{3, one, 1, 2},
		{3, one / 2, 1, 2},
		{lowest, lowest, lowest, 1},
		{highest, highest, highest, 2 * biggest},
		{lowest, highest, highest, biggest},
		{highest, lowest, lowest, widest},
	} {
		for _, thresh := range []int64{lowest, 0, 5, c.then, widest, highest} { // it hangs on none of these
			for _, carry := range []int64{lowest, 0, 7, highest} {
				w := api.Window{Cwnd: c.cwnd, Thresh: thresh, Carry: carry}
				cuts(t, w, c.share, c.mss, api.Window{Cwnd: c.then, Thresh: c.then})
			}
		}
	}
}

func TestCutJustToTwoSegments(t *testing.T) {
	for _, s := range sizes {
		for _, over := range []int64{-2, -1, 0, 1, 2} {
			cwnd := 4*s.as + over
			want := max(cwnd-cwnd/2, min(2*s.as, max(cwnd, s.as)))
			cuts(t, api.Window{Cwnd: cwnd, Thresh: 3, Carry: 3}, one/2, s.is, api.Window{Cwnd: want, Thresh: want})
			cwnd = 2*s.as + over
			want = min(max(cwnd, s.as), 2*s.as)
			cuts(t, api.Window{Cwnd: cwnd, Thresh: 3, Carry: 3}, one, s.is, api.Window{Cwnd: want, Thresh: want})
		}
	}
}

func TestCutOfAnyWindow(t *testing.T) {
	everyWindow(func(w api.Window, mss int64) {
		for _, share := range []int64{-1, 0, 1, one / 2, one, highest} {
			got := Cut(w, share, mss)
			if want := modelCut(w, share, mss); got != want {
				t.Fatalf("%+v by share %d, mss %d: got %+v, want %+v", w, share, mss, got, want)
			}
		}
	})
}

func TestCutByAnyNumbers(t *testing.T) {
	for _, w := range few() {
		for _, s := range sizes {
			for _, f := range shares {
				want := modelCut(w, f.as, s.as)
				cuts(t, w, f.is, s.is, want)
				cuts(t, modelWithin(w, s.as), f.as, s.as, want)
			}
		}
	}
}

func TestCutOfNumbersByChance(t *testing.T) {
	r := rand.New(rand.NewSource(243))
	for range 100000 {
		w, share, mss := anyWindow(r), anyNumber(r), anyNumber(r)
		if r.Intn(2) == 0 {
			share, mss = r.Int63n(one+2), 1+r.Int63n(3000)
		}
		cuts(t, w, share, mss, modelCut(w, share, mss))
	}
}

// P24.4

func TestCollapse(t *testing.T) {
	for _, c := range []struct{ cwnd, mss, cwndThen, thresh int64 }{
		{10000, 1000, 1000, 5000},
		{10001, 1000, 1000, 5000}, // downwards
		{10002, 1000, 1000, 5001},
		{9999, 1000, 1000, 4999},
		{4002, 1000, 1000, 2001},
		{4001, 1000, 1000, 2000}, // the half is just two segments
		{4000, 1000, 1000, 2000},
		{3999, 1000, 1000, 2000}, // below them
		{3998, 1000, 1000, 2000},
		{2000, 1000, 1000, 2000},
		{1000, 1000, 1000, 2000},
		{999, 1000, 1000, 2000},
		{0, 1000, 1000, 2000},
		{-1, 1000, 1000, 2000},
		{lowest, 1000, 1000, 2000},
		{widest, 1000, 1000, widest / 2},
		{widest - 1, 1000, 1000, widest/2 - 1},
		{widest + 1, 1000, 1000, widest / 2}, // it counts as MaxCwnd
		{widest + 2, 1000, 1000, widest / 2},
		{2 * widest, 1000, 1000, widest / 2},
		{highest, 1000, 1000, widest / 2},
		{3, 1, 1, 2},
		{4, 1, 1, 2},
		{5, 1, 1, 2},
		{6, 1, 1, 3},
		{7, 0, 1, 3}, // an mss below 1 counts as 1
		{7, -1, 1, 3},
		{7, lowest, 1, 3},
		{7, biggest, biggest, 2 * biggest},
		{7, biggest + 1, biggest, 2 * biggest}, // above MaxSize as that
		{7, highest, biggest, 2 * biggest},
		{4*biggest - 1, biggest, biggest, 2 * biggest},
		{4*biggest + 1, biggest, biggest, 2 * biggest},
		{4*biggest + 2, biggest, biggest, 2*biggest + 1},
		{lowest, lowest, 1, 2},
		{highest, lowest, 1, widest / 2},
		{lowest, highest, biggest, 2 * biggest},
		{highest, highest, biggest, widest / 2},
	} {
		for _, thresh := range []int64{lowest, 0, 5, c.cwnd, widest, highest} { // it hangs on none of these
			for _, carry := range []int64{lowest, 0, 4, highest} {
				w := api.Window{Cwnd: c.cwnd, Thresh: thresh, Carry: carry}
				collapses(t, w, c.mss, api.Window{Cwnd: c.cwndThen, Thresh: c.thresh})
			}
		}
	}
}

func TestCollapseOfAnyWindow(t *testing.T) {
	everyWindow(func(w api.Window, mss int64) {
		got := Collapse(w, mss)
		if want := modelCollapse(w, mss); got != want {
			t.Fatalf("%+v, mss %d: got %+v, want %+v", w, mss, got, want)
		}
		if !Slow(got) {
			t.Fatalf("%+v, mss %d: it does not grow fast", w, mss)
		}
	})
}

func TestCollapseOfNumbersByChance(t *testing.T) {
	r := rand.New(rand.NewSource(244))
	for range 100000 {
		w, mss := anyWindow(r), anyNumber(r)
		collapses(t, w, mss, modelCollapse(w, mss))
	}
}

// P24.5

// rises is by how much a window grows, where a window of bytes is acknowledged in parts.
func rises(t *testing.T, w api.Window, mss, share int64, part func() int64) int64 {
	t.Helper()
	was, left := w, w.Cwnd
	for left > 0 {
		acked := kept(part(), 1, left)
		grown := Grow(w, acked, mss, share)
		if grown.Cwnd < w.Cwnd {
			t.Fatalf("%+v by %d, mss %d: it fell to %+v", w, acked, mss, grown)
		}
		if grown.Carry >= grown.Cwnd {
			t.Fatalf("%+v by %d, mss %d: there is more left than it takes: %+v", w, acked, mss, grown)
		}
		w, left = grown, left-min(acked, heaped)
	}
	return w.Cwnd - was.Cwnd
}

func always(x int64) func() int64 { return func() int64 { return x } }

func TestAWindowOfBytesInOnePart(t *testing.T) {
	for _, mss := range []int64{1, 2, 999, 1000, 1448, biggest} {
		for _, cwnd := range []int64{mss, mss + 1, 2*mss + 1, 10 * mss, 17*mss + 5, 1000 * mss, widest - 2*mss, widest - 1, widest} {
			for _, carry := range []int64{0, cwnd / 2, cwnd - 1} {
				w := api.Window{Cwnd: cwnd, Thresh: cwnd, Carry: carry}
				got := rises(t, w, mss, one, always(heaped))
				if got > mss+1 {
					t.Errorf("%+v, mss %d: it grew by %d", w, mss, got)
				}
				if cwnd <= heaped && got != mss { // all at once, of a Carry below Cwnd, it is just that
					t.Errorf("%+v, mss %d: it grew by %d", w, mss, got)
				}
				if got := rises(t, w, mss, one/2, always(heaped)); got > mss/2+1 {
					t.Errorf("%+v, mss %d: by a half it grew by %d", w, mss, got)
				}
				if got := rises(t, w, mss, 0, always(heaped)); got != 0 {
					t.Errorf("%+v, mss %d: by no share it grew by %d", w, mss, got)
				}
			}
		}
	}
}

func TestAWindowOfBytesBesideAFullCarry(t *testing.T) {
	for _, mss := range []int64{1, 2, 1000, biggest} {
		for _, cwnd := range []int64{mss, mss + 1, 10 * mss, 100 * mss} {
			for _, carry := range []int64{cwnd, cwnd + cwnd/2, 2*cwnd - 1} { // the one byte is that of the Carry
				w := api.Window{Cwnd: cwnd, Thresh: 0, Carry: carry}
				if got := rises(t, w, mss, one, always(heaped)); got != mss+1 {
					t.Errorf("%+v, mss %d: it grew by %d", w, mss, got)
				}
				if got := rises(t, w, mss, one, always(mss)); got > mss+1 {
					t.Errorf("%+v, mss %d: in parts it grew by %d", w, mss, got)
				}
			}
		}
	}
}

func TestAWindowOfBytesInManyParts(t *testing.T) {
	for _, mss := range []int64{1, 2, 100, 1000, 1448} {
		for _, times := range []int64{1, 2, 3, 10, 57} {
			for _, over := range []int64{0, 1, mss / 2} {
				for _, part := range []int64{1, 2, 7, mss, mss + 1, 3 * mss} {
					cwnd := times*mss + over
					for _, carry := range []int64{0, cwnd - 1} {
						w := api.Window{Cwnd: cwnd, Thresh: cwnd, Carry: carry}
						got := rises(t, w, mss, one, always(part))
						if got > mss+1 || got < mss*cwnd/(cwnd+mss)-1 {
							t.Errorf("%+v, mss %d, %d by %d: it grew by %d", w, mss, cwnd, part, got)
						}
					}
				}
			}
		}
	}
}

func TestAWindowOfBytesInPartsByChance(t *testing.T) {
	r := rand.New(rand.NewSource(245))
	for range 3000 {
		mss := 1 + r.Int63n(1<<r.Intn(17))
		cwnd := mss * (1 + r.Int63n(1<<r.Intn(14)))
		w := api.Window{Cwnd: cwnd, Thresh: r.Int63n(cwnd + 1), Carry: r.Int63n(cwnd)}
		most := cwnd/(1+r.Int63n(50)) + 1
		got := rises(t, w, mss, one, func() int64 { return 1 + r.Int63n(most) })
		if got > mss+1 {
			t.Fatalf("%+v, mss %d: it grew by %d", w, mss, got)
		}
	}
}

func TestGrowNeverFallsAndCutNeverRises(t *testing.T) {
	r := rand.New(rand.NewSource(246))
	for range 100000 {
		w, acked, mss, share := anyWindow(r), anyNumber(r), anyNumber(r), anyNumber(r)
		w = Within(w, mss)
		if got := Grow(w, acked, mss, share); got.Cwnd < w.Cwnd {
			t.Fatalf("%+v by %d, mss %d, share %d: it fell to %+v", w, acked, mss, share, got)
		}
		if got := Cut(w, share, mss); got.Cwnd > w.Cwnd {
			t.Fatalf("%+v by share %d, mss %d: it rose to %+v", w, share, mss, got)
		}
	}
}

func TestAWindowGoesUpAndDown(t *testing.T) {
	w := Start(1000, 2)
	for range 5 { // each round trip doubles it
		w = Grow(w, w.Cwnd, 1000, one)
	}
	is(t, w, api.Window{Cwnd: 64000, Thresh: widest})
	w = Cut(w, one/2, 1000)
	is(t, w, api.Window{Cwnd: 32000, Thresh: 32000})
	for range 10 { // each lets it rise by a segment
		w = Grow(w, w.Cwnd, 1000, one)
	}
	is(t, w, api.Window{Cwnd: 42000, Thresh: 32000})
	w = Collapse(w, 1000)
	is(t, w, api.Window{Cwnd: 1000, Thresh: 21000})
	for range 4 {
		w = Grow(w, w.Cwnd, 1000, one)
	}
	is(t, w, api.Window{Cwnd: 16000, Thresh: 21000})
	w = Grow(w, w.Cwnd, 1000, one) // 5000 up to Thresh, then 11000 of 21000
	is(t, w, api.Window{Cwnd: 21523, Thresh: 21000, Carry: 17000})
}

// Rules that hold everywhere

func TestWhatIsHandedInStays(t *testing.T) {
	for _, w := range few() {
		was := w
		Within(w, 1000)
		Grow(w, 5000, 1000, one)
		Cut(w, one/2, 1000)
		Collapse(w, 1000)
		Slow(w)
		is(t, w, was)
	}
	w := api.Window{Cwnd: 10000, Thresh: 10500, Carry: 7}
	x := Grow(w, 1550, 1000, one)
	Grow(x, 1000, 1000, one)
	Cut(x, one, 1000)
	is(t, w, api.Window{Cwnd: 10000, Thresh: 10500, Carry: 7})
	is(t, x, api.Window{Cwnd: 10600, Thresh: 10500, Carry: 7})
}

func TestTheSameIsAnsweredTheSame(t *testing.T) {
	r := rand.New(rand.NewSource(247))
	for range 5000 {
		w, acked, mss, share := anyWindow(r), anyNumber(r), anyNumber(r), anyNumber(r)
		within, grown, cut, collapsed, slow, begun := Within(w, mss), Grow(w, acked, mss, share), Cut(w, share, mss), Collapse(w, mss), Slow(w), Start(mss, acked)
		Grow(anyWindow(r), anyNumber(r), anyNumber(r), anyNumber(r)) // what others are told does not matter
		Cut(anyWindow(r), anyNumber(r), anyNumber(r))
		if Within(w, mss) != within || Grow(w, acked, mss, share) != grown || Cut(w, share, mss) != cut || Collapse(w, mss) != collapsed || Slow(w) != slow || Start(mss, acked) != begun {
			t.Fatalf("%+v by %d, mss %d, share %d: it is not the same again", w, acked, mss, share)
		}
	}
}

func TestWhatIsToldIsWithinItsEnds(t *testing.T) {
	r := rand.New(rand.NewSource(248))
	for range 50000 {
		w, acked, mss, share := anyWindow(r), anyNumber(r), anyNumber(r), anyNumber(r)
		for _, x := range []api.Window{Within(w, mss), Grow(w, acked, mss, share), Cut(w, share, mss), Collapse(w, mss), Start(mss, acked)} {
			is(t, x, modelWithin(x, mss))
		}
	}
}
