package prague

import (
	"math"
	"math/big"
	"math/rand"
	"slices"
	"testing"

	"leat/api"
)

const (
	lowest  = math.MinInt64
	highest = math.MaxInt64
	one     = 1 << 20
	widest  = 1 << 30 // the greatest Cwnd and Thresh
	biggest = 1 << 16 // the greatest mss
	fullest = 1<<50 - 1
	heaped  = 1 << 24 // the greatest acked
)

// shares are numbers that a share and a score may be, with what each counts as.
var shares = []struct{ is, as int64 }{
	{lowest, 0},
	{lowest + 1, 0},
	{-1<<32 - 5, 0},
	{-2 * one, 0},
	{-one, 0},
	{-2, 0},
	{-1, 0},
	{0, 0},
	{1, 1},
	{2, 2},
	{3, 3},
	{7, 7},
	{8, 8},
	{1001, 1001},
	{one / 4, one / 4},
	{one / 3, one / 3},
	{one/2 - 1, one/2 - 1},
	{one / 2, one / 2},
	{one/2 + 1, one/2 + 1},
	{one - 2, one - 2},
	{one - 1, one - 1},
	{one, one},
	{one + 1, one},
	{one + 2, one},
	{2 * one, one},
	{4*one - 1, one},
	{1<<32 + 5, one},
	{highest - 1, one},
	{highest, one},
}

// sizes are numbers that an mss may be, with what each counts as.
var sizes = []struct{ is, as int64 }{
	{lowest, 1},
	{lowest + 1, 1},
	{-1000, 1},
	{-1, 1},
	{0, 1},
	{1, 1},
	{2, 2},
	{1000, 1000},
	{1448, 1448},
	{biggest - 1, biggest - 1},
	{biggest, biggest},
	{biggest + 1, biggest},
	{1<<32 + 5, biggest},
	{highest - 1, biggest},
	{highest, biggest},
}

// heaps are numbers that acked may be, with what each counts as.
var heaps = []struct{ is, as int64 }{
	{lowest, 0},
	{lowest + 1, 0},
	{-1000, 0},
	{-1, 0},
	{0, 0},
	{1, 1},
	{2, 2},
	{999, 999},
	{5000, 5000},
	{heaped - 1, heaped - 1},
	{heaped, heaped},
	{heaped + 1, heaped},
	{1<<32 + 5, heaped},
	{highest - 1, heaped},
	{highest, heaped},
}

// targets are numbers that a target may be, from the least on.
var targets = []int64{lowest, lowest + 1, -1<<32 - 5, -20000, -2, -1, 0, 1, 2, 3, 7, 1000, 1023, 1024, 1025, 19999, 20000, 20001, one - 1, one, one + 1, 2 * one, 1<<32 + 5, 1 << 42, 1<<43 - 1, 1 << 43, 1<<43 + 1, 1 << 50, 1 << 61, 1 << 62, highest - 1, highest}

// beside are numbers that lie near one, as far as they are within the ends.
func beside(x int64) []int64 {
	l := []int64{x}
	for d := int64(1); d <= 2; d++ {
		if x >= lowest+d {
			l = append(l, x-d)
		}
		if x <= highest-d {
			l = append(l, x+d)
		}
	}
	return l
}

// rttsOf are numbers that an rtt may be beside a target, from the least on, none of them twice.
func rttsOf(target int64) []int64 {
	l := []int64{lowest, lowest + 1, -1<<32 - 5, -20000, -1, 0, 1, 2, 3, 1000, 10000, one, 1<<32 + 5, 1 << 50, highest - 1, highest}
	for _, x := range []int64{target, target >> 1, target >> 2, target / 3, target / 1000, target >> 10, target>>20 + 1} {
		l = append(l, beside(x)...)
	}
	slices.Sort(l)
	return slices.Compact(l)
}

// everyTrip goes through all pairs of a round trip and a target.
func everyTrip(yield func(rtt, target int64)) {
	for _, target := range targets {
		for _, rtt := range rttsOf(target) {
			yield(rtt, target)
		}
	}
}

// aFewTrips are pairs of a round trip and a target: of no share, of all, and of some between.
var aFewTrips = []struct{ rtt, target int64 }{
	{lowest, 20000},
	{-1, 20000},
	{0, 20000},
	{1, 20000},
	{10000, 20000},
	{13333, 20000},
	{19999, 20000},
	{20000, 20000},
	{20001, 20000},
	{highest, 20000},
	{5, 0},
	{-5, 0},
	{lowest, lowest},
	{highest, lowest},
	{lowest, highest},
	{highest - 1, highest},
	{highest, highest},
}

// cwndsOf are numbers that a Cwnd may be, of an mss that counts as itself.
func cwndsOf(mss int64) []int64 {
	return []int64{lowest, -mss, -1, 0, 1, mss - 1, mss, mss + 1, 2*mss - 1, 2 * mss, 2*mss + 1, 4*mss - 1, 4 * mss, 4*mss + 1, 10*mss + 1, widest / 2, widest - 1, widest, widest + 1, 1<<32 + 5, highest}
}

// threshesOf are numbers that a Thresh may be beside a Cwnd.
func threshesOf(cwnd int64) []int64 {
	return []int64{lowest, -1, 0, 1, cwnd - 1, cwnd, cwnd + 1, cwnd + 999, widest, widest + 1, highest}
}

// carriesOf are numbers that a Carry may be beside a Cwnd.
func carriesOf(cwnd int64) []int64 {
	return []int64{lowest, -1, 0, 1, cwnd - 1, cwnd, cwnd + 1, 5*cwnd + 3, fullest, fullest + 1, highest}
}

func number(x int64) *big.Int { return big.NewInt(x) }

func plus(a, b *big.Int) *big.Int { return new(big.Int).Add(a, b) }

func minus(a, b *big.Int) *big.Int { return new(big.Int).Sub(a, b) }

func product(a, b *big.Int) *big.Int { return new(big.Int).Mul(a, b) }

// by is the quotient, downwards, of a b above 0.
func by(a, b *big.Int) *big.Int { return new(big.Int).Div(a, b) }

// part is the share f of x, which is within its ends, by numbers without bounds.
func part(x *big.Int, f int64) *big.Int { return by(product(x, number(f)), number(one)) }

// kept is a number within its ends, as the model keeps it.
func kept(x, lo, hi int64) int64 {
	if x < lo {
		return lo
	}
	if x > hi {
		return hi
	}
	return x
}

// modelScale is Scale as the chapter says it, by numbers without bounds.
func modelScale(rtt, target int64) int64 {
	r, to := number(rtt), number(target)
	switch {
	case r.Cmp(to) >= 0 || to.Sign() <= 0:
		return one
	case r.Sign() <= 0:
		return 0
	}
	ratio := by(product(r, number(one)), to)
	return part(ratio, ratio.Int64()).Int64()
}

// modelBlend is Blend as the chapter says it, by numbers without bounds.
func modelBlend(share, score int64) int64 {
	half := by(number(kept(share, 0, one)), number(2))
	lacks := minus(by(number(one), number(2)), half)
	return plus(half, part(lacks, kept(score, 0, one))).Int64()
}

// modelWithin is a window as it counts.
func modelWithin(w api.Window, mss int64) api.Window {
	return api.Window{Cwnd: kept(w.Cwnd, kept(mss, 1, biggest), widest), Thresh: kept(w.Thresh, 0, widest), Carry: kept(w.Carry, 0, fullest)}
}

// modelGrow is Grow as the chapters say it, by numbers without bounds.
func modelGrow(w api.Window, acked, mss, rtt, target int64) api.Window {
	w = modelWithin(w, mss)
	cwnd, left := number(w.Cwnd), number(kept(acked, 0, heaped))
	if up := number(w.Thresh - w.Cwnd); up.Sign() > 0 {
		if up.Cmp(left) > 0 {
			up.Set(left)
		}
		cwnd, left = plus(cwnd, up), minus(left, up)
	}
	carry := plus(number(w.Carry), part(product(left, number(kept(mss, 1, biggest))), modelScale(rtt, target)))
	times := by(carry, cwnd)
	carry, cwnd = minus(carry, product(times, cwnd)), plus(cwnd, times)
	if cwnd.Cmp(number(widest)) > 0 {
		cwnd = number(widest)
	}
	return api.Window{Cwnd: cwnd.Int64(), Thresh: w.Thresh, Carry: carry.Int64()}
}

// modelReduce is Reduce as the chapters say it.
func modelReduce(w api.Window, share, mss int64) api.Window {
	w, mss = modelWithin(w, mss), kept(mss, 1, biggest)
	half := kept(share, 0, one) >> 1
	cwnd := w.Cwnd - part(number(w.Cwnd), half).Int64()
	if cwnd < 2*mss {
		cwnd = 2 * mss
	}
	if cwnd > w.Cwnd {
		cwnd = w.Cwnd
	}
	return api.Window{Cwnd: cwnd, Thresh: cwnd}
}

// is fails if a window is another one.
func is(t *testing.T, got, want api.Window) {
	t.Helper()
	if got != want {
		t.Errorf("got %+v, want %+v", got, want)
	}
}

// scales fails if the share of a round trip is another one.
func scales(t *testing.T, rtt, target, want int64) {
	t.Helper()
	if got := Scale(rtt, target); got != want {
		t.Errorf("%d of %d: got %d, want %d", rtt, target, got, want)
	}
}

// blends fails if the share by which a window falls is another one.
func blends(t *testing.T, share, score, want int64) {
	t.Helper()
	if got := Blend(share, score); got != want {
		t.Errorf("share %d, score %d: got %d, want %d", share, score, got, want)
	}
}

// grows fails if a window, grown, is another one.
func grows(t *testing.T, w api.Window, acked, mss, rtt, target int64, want api.Window) {
	t.Helper()
	if got := Grow(w, acked, mss, rtt, target); got != want {
		t.Errorf("%+v by %d, mss %d, %d of %d: got %+v, want %+v", w, acked, mss, rtt, target, got, want)
	}
}

// reduces fails if a window, reduced, is another one.
func reduces(t *testing.T, w api.Window, share, mss int64, want api.Window) {
	t.Helper()
	if got := Reduce(w, share, mss); got != want {
		t.Errorf("%+v by share %d, mss %d: got %+v, want %+v", w, share, mss, got, want)
	}
}

// everyWindow goes through windows of all numbers of the tables, beside each mss.
func everyWindow(yield func(w api.Window, mss int64)) {
	for _, s := range sizes {
		for _, cwnd := range cwndsOf(s.as) {
			for _, thresh := range threshesOf(kept(cwnd, s.as, widest)) {
				for _, carry := range carriesOf(kept(cwnd, s.as, widest)) {
					yield(api.Window{Cwnd: cwnd, Thresh: thresh, Carry: carry}, s.is)
				}
			}
		}
	}
}

// few are windows of some numbers, within their ends and beyond them.
func few() []api.Window {
	return []api.Window{
		{},
		{Cwnd: 1000},
		{Cwnd: 10000, Thresh: widest},
		{Cwnd: 10000, Thresh: 12000, Carry: 9999},
		{Cwnd: 10000, Thresh: 10000},
		{Cwnd: 10001, Thresh: 10000, Carry: 50007},
		{Cwnd: 1, Thresh: 1, Carry: fullest},
		{Cwnd: widest - 1, Thresh: widest - 2, Carry: widest - 2},
		{Cwnd: widest - 1, Thresh: widest, Carry: widest},
		{Cwnd: widest, Thresh: widest, Carry: fullest},
		{Cwnd: widest / 2, Thresh: 5, Carry: fullest},
		{Cwnd: lowest, Thresh: lowest, Carry: lowest},
		{Cwnd: highest, Thresh: highest, Carry: highest},
		{Cwnd: lowest, Thresh: highest, Carry: lowest},
		{Cwnd: lowest, Thresh: lowest, Carry: highest},
		{Cwnd: highest, Thresh: lowest, Carry: highest},
	}
}

// anyNumber is one of any size, mostly not below 0.
func anyNumber(r *rand.Rand) int64 {
	x := int64(r.Uint64()>>1) >> r.Intn(63)
	if r.Intn(5) == 0 {
		return -x
	}
	return x
}

// anyTrip is a round trip and a target of any numbers, mostly the one not far from the other.
func anyTrip(r *rand.Rand) (int64, int64) {
	rtt, target := anyNumber(r), anyNumber(r)
	if target < 1 || r.Intn(3) == 0 {
		return rtt, target
	}
	if r.Intn(2) == 0 {
		return r.Int63n(target), target
	}
	near := beside(target)
	return near[r.Intn(len(near))], target
}

// anyWindow is one of any numbers, now and then of a Thresh and a Carry near its Cwnd.
func anyWindow(r *rand.Rand) api.Window {
	w := api.Window{Cwnd: anyNumber(r), Thresh: anyNumber(r), Carry: anyNumber(r)}
	if r.Intn(2) == 0 {
		w.Cwnd = 1 + r.Int63n(widest>>r.Intn(20))
	}
	if r.Intn(2) == 0 {
		w.Thresh = kept(w.Cwnd, 0, widest) + r.Int63n(4001) - 2000
	}
	if r.Intn(2) == 0 {
		w.Carry = r.Int63n(kept(w.Cwnd, 1, widest))
	}
	return w
}

func TestTheExampleOfTheChapter(t *testing.T) {
	scales(t, 10000, 20000, 1<<18)
	blends(t, 0, api.One, api.One/2)
}

// P26.1

func TestScale(t *testing.T) {
	for _, c := range []struct{ rtt, target, want int64 }{
		{10000, 20000, 1 << 18},
		{5000, 20000, 1 << 16},
		{15000, 20000, 589824}, // nine sixteenths
		{20000, 20000, one},    // just target
		{20001, 20000, one},    // above it
		{40000, 20000, one},    // no more than all
		{1 << 50, 20000, one},
		{highest, 20000, one},
		{19999, 20000, 1048470}, // of 1048523, and 0.57 that fell; of those that did not fall it would be 1048471
		{6700, 20000, 117675},   // of 351272
		{1, 3, 116508},          // of 349525
		{2, 3, 466032},          // of 699050, and two thirds that fell; of those that did not fall it would be 466033
		{3, 7, 192594},          // of 449389
		{333, 1000, 116275},     // of 349175
		{700, 1000, 513801},     // of 734003
		{999, 1000, 1046479},    // of 1047527
		{1, 2, 1 << 18},
		{1, 1000, 1}, // of 1048
		{20, 20000, 1},
		{19, 20000, 0}, // of 996, by which less than one is left
		{1, 20000, 0},  // of 52
		{1, 1023, 1},   // of 1025
		{1, 1024, 1},   // of 1024, which comes to just one
		{1, 1025, 0},   // of 1023
		{1023, one, 0},
		{1024, one, 1},
		{one - 1, one, one - 2}, // of one - 1, of which a one is left
		{one, one + 1, one - 2}, // of one - 1 as well
		{0, 20000, 0},
		{-1, 20000, 0},
		{-5, 20000, 0},
		{-20000, 20000, 0},
		{lowest, 20000, 0},
		{0, 1, 0}, // a target of 1
		{1, 1, one},
		{2, 1, one},
		{-1, 1, 0},
		{lowest, 1, 0},
		{highest, 1, one},
		{0, 0, one}, // a target that is not above 0, whatever rtt is
		{1, 0, one},
		{-1, 0, one},
		{5, 0, one},
		{lowest, 0, one},
		{highest, 0, one},
		{-1, -1, one},
		{-2, -1, one},
		{0, -1, one},
		{10000, -20000, one},
		{lowest, -1, one},
		{highest, -1, one},
		{lowest, lowest, one},
		{lowest, lowest + 1, one},
		{0, lowest, one},
		{highest, lowest, one},
		{highest, highest, one},
		{highest - 1, highest, one - 2},
		{highest - 2, highest - 1, one - 2},
		{highest, highest - 1, one},
		{1 << 62, highest, 1 << 18},
		{1<<62 - 1, highest, 1<<18 - 1}, // of one / 2 - 1
		{1 << 62, highest - 1, 1 << 18},
		{1 << 53, highest, 1}, // of 1024
		{1<<53 - 1, highest, 0},
		{1, highest, 0},
		{0, highest, 0},
		{-1, highest, 0},
		{lowest, highest, 0},
	} {
		scales(t, c.rtt, c.target, c.want)
	}
}

func TestScaleIsTheModels(t *testing.T) {
	everyTrip(func(rtt, target int64) { scales(t, rtt, target, modelScale(rtt, target)) })
	for target := range int64(300) {
		for rtt := int64(-2); rtt <= target+2; rtt++ {
			scales(t, rtt, target, modelScale(rtt, target))
		}
	}
	r := rand.New(rand.NewSource(261))
	for range 200000 {
		rtt, target := anyTrip(r)
		scales(t, rtt, target, modelScale(rtt, target))
	}
}

func TestScaleOfAWholePartOfOne(t *testing.T) {
	for rtt := range int64(one + 1) { // the Ratio of one as target is rtt itself
		scales(t, rtt, one, rtt*rtt>>20)
		scales(t, rtt<<40, one<<40, rtt*rtt>>20)
	}
}

func TestScaleIsTheSquareOfWhatIsTold(t *testing.T) {
	for shift := range 21 { // each target is twice the one ahead of it: a fourth is left of the share
		want := int64(one) >> (2 * shift)
		scales(t, 1000, 1000<<shift, want)
		scales(t, 3, 3<<shift, want)
		scales(t, 1, 1<<shift, want)
	}
}

// P26.2

func TestGrow(t *testing.T) {
	for _, c := range []struct {
		carry, acked, rtt, target int64
		cwndThen, carryThen       int64
	}{
		{0, 10000, 10000, 20000, 10250, 0}, // by a fourth of mss
		{0, 10000, 20000, 20000, 11000, 0}, // by mss
		{0, 10000, 20001, 20000, 11000, 0}, // no more
		{0, 10000, highest, 20000, 11000, 0},
		{0, 10000, 19999, 20000, 10999, 8989}, // by 9998989.1, downwards
		{0, 10000, 5000, 20000, 10062, 5000},
		{5000, 10000, 5000, 20000, 10063, 0},
		{4999, 10000, 5000, 20000, 10062, 9999},
		{0, 10000, 2, 3, 10444, 4427}, // by 4444427.4
		{0, 10000, 20, 20000, 10000, 9},
		{0, 10000, 19, 20000, 10000, 0},
		{0, 10000, 1, 20000, 10000, 0},
		{0, 10000, 0, 20000, 10000, 0},
		{0, 10000, -1, 20000, 10000, 0},
		{0, 10000, lowest, 20000, 10000, 0},
		{9999, 10000, 0, 20000, 10000, 9999},
		{10000, 10000, 0, 20000, 10001, 0}, // of what is left it grows all the same
		{0, 10000, 5, 0, 11000, 0},
		{0, 10000, -5, 0, 11000, 0},
		{0, 10000, 5, -1, 11000, 0},
		{0, 10000, 5, lowest, 11000, 0},
		{0, 10000, lowest, lowest, 11000, 0},
		{0, 10000, 0, 1, 10000, 0},
		{0, 10000, 1, 1, 11000, 0},
		{0, 10000, highest, highest, 11000, 0},
		{0, 10000, highest - 1, highest, 10999, 9980}, // by 9999980.9
		{0, 10000, 1 << 62, highest, 10250, 0},
		{0, 10000, lowest, highest, 10000, 0},
		{0, 0, 10000, 20000, 10000, 0},
		{0, -1, 10000, 20000, 10000, 0},
		{0, lowest, 20000, 20000, 10000, 0},
		{0, 1, 10000, 20000, 10000, 250},
		{0, 39, 10000, 20000, 10000, 9750},
		{0, 40, 10000, 20000, 10001, 0},
		{0, 9, 20000, 20000, 10000, 9000},
		{0, 10, 20000, 20000, 10001, 0},
		{0, heaped, 10000, 20000, 10000 + heaped/40, heaped % 40 * 250},
		{0, heaped + 1, 10000, 20000, 10000 + heaped/40, heaped % 40 * 250},
		{0, highest, 10000, 20000, 10000 + heaped/40, heaped % 40 * 250},
	} {
		for _, thresh := range []int64{lowest, -1, 0, 1, 9999, 10000} { // it is not below any of these
			w := api.Window{Cwnd: 10000, Thresh: thresh, Carry: c.carry}
			want := api.Window{Cwnd: c.cwndThen, Thresh: max(thresh, 0), Carry: c.carryThen}
			grows(t, w, c.acked, 1000, c.rtt, c.target, want)
		}
	}
}

func TestGrowBelowThresh(t *testing.T) {
	for _, trip := range aFewTrips { // there it rises by each byte, however short the round trip is
		grows(t, api.Window{Cwnd: 10000, Thresh: widest, Carry: 7}, 3000, 1000, trip.rtt, trip.target, api.Window{Cwnd: 13000, Thresh: widest, Carry: 7})
		grows(t, api.Window{Cwnd: 10000, Thresh: 13000}, 3000, 1000, trip.rtt, trip.target, api.Window{Cwnd: 13000, Thresh: 13000})
		grows(t, api.Window{Cwnd: widest - 1, Thresh: highest}, 1, 1000, trip.rtt, trip.target, api.Window{Cwnd: widest, Thresh: widest})
	}
	w := api.Window{Cwnd: 9000, Thresh: 10000} // a thousand up to Thresh, and what is left by the share
	grows(t, w, 11000, 1000, 20000, 20000, api.Window{Cwnd: 11000, Thresh: 10000})
	grows(t, w, 11000, 1000, 10000, 20000, api.Window{Cwnd: 10250, Thresh: 10000})
	grows(t, w, 11000, 1000, 0, 20000, api.Window{Cwnd: 10000, Thresh: 10000})
	grows(t, w, 11000, 1000, 0, 0, api.Window{Cwnd: 11000, Thresh: 10000})
}

func TestGrowAtTheEnds(t *testing.T) {
	for _, c := range []struct {
		cwnd, thresh, carry, acked, mss int64
		want                            api.Window
	}{
		{999, 0, 0, 4, 1000, api.Window{Cwnd: 1001}}, // a Cwnd below mss counts as mss
		{lowest, 0, 0, 4, 1000, api.Window{Cwnd: 1001}},
		{1000, 0, 0, 4, 1000, api.Window{Cwnd: 1001}},
		{1001, 0, 0, 4, 1000, api.Window{Cwnd: 1001, Carry: 1000}},
		{1001, 0, 1, 4, 1000, api.Window{Cwnd: 1002}},
		{10000, lowest, lowest, 20, 1000, api.Window{Cwnd: 10000, Carry: 5000}},
		{10000, -1, -1, 20, 1000, api.Window{Cwnd: 10000, Carry: 5000}},
		{10000, 0, 0, 20000, 1, api.Window{Cwnd: 10000, Carry: 5000}},
		{10000, 0, 0, 20000, 0, api.Window{Cwnd: 10000, Carry: 5000}}, // an mss below 1 counts as 1
		{10000, 0, 0, 20000, -1, api.Window{Cwnd: 10000, Carry: 5000}},
		{10000, 0, 0, 20000, lowest, api.Window{Cwnd: 10000, Carry: 5000}},
		{10000, 0, 0, 3, 1, api.Window{Cwnd: 10000}}, // by three fourths of a byte, downwards
		{0, 0, 0, 3, biggest, api.Window{Cwnd: biggest, Carry: 3 * biggest / 4}},
		{0, 0, 0, 4, biggest, api.Window{Cwnd: biggest + 1}},
		{0, 0, 0, 4, biggest + 1, api.Window{Cwnd: biggest + 1}}, // above MaxSize as that
		{0, 0, 0, 4, highest, api.Window{Cwnd: biggest + 1}},
		{widest, 0, 5, 4, 1000, api.Window{Cwnd: widest, Carry: 1005}},
		{widest + 1, 0, 5, 4, 1000, api.Window{Cwnd: widest, Carry: 1005}},
		{highest, highest, 5, 4, 1000, api.Window{Cwnd: widest, Thresh: widest, Carry: 1005}},
		{widest - 1, 0, widest - 2, 4, 1, api.Window{Cwnd: widest}},
		{widest - 1, 0, 3*widest + 2, 0, 1, api.Window{Cwnd: widest, Carry: 5}}, // not above MaxCwnd
		{1, 0, fullest, 0, 1, api.Window{Cwnd: widest}},
		{1, 0, highest, 0, 1, api.Window{Cwnd: widest}},
		{widest / 2, 0, fullest, heaped, biggest, api.Window{Cwnd: widest/2 + 1<<21 - 1 + 1<<9, Carry: widest/2 - 1}},
		{highest, highest, highest, highest, highest, api.Window{Cwnd: widest, Thresh: widest, Carry: widest - 1}},
		{lowest, lowest, lowest, lowest, lowest, api.Window{Cwnd: 1}},
	} {
		grows(t, api.Window{Cwnd: c.cwnd, Thresh: c.thresh, Carry: c.carry}, c.acked, c.mss, 10000, 20000, c.want)
	}
}

func TestGrowOfAnyWindow(t *testing.T) {
	everyWindow(func(w api.Window, mss int64) {
		for _, rtt := range []int64{0, 13333, 20000} { // by no share, by some and by all
			for _, acked := range []int64{-1, 1, 5000, highest} {
				got := Grow(w, acked, mss, rtt, 20000)
				if want := modelGrow(w, acked, mss, rtt, 20000); got != want {
					t.Fatalf("%+v by %d, mss %d, %d of 20000: got %+v, want %+v", w, acked, mss, rtt, got, want)
				}
			}
		}
	})
}

func TestGrowByAnyNumbers(t *testing.T) {
	for _, w := range few() {
		for _, h := range heaps {
			for _, s := range sizes {
				for _, trip := range aFewTrips {
					want := modelGrow(w, h.as, s.as, trip.rtt, trip.target)
					grows(t, w, h.is, s.is, trip.rtt, trip.target, want)
					grows(t, modelWithin(w, s.as), h.as, s.as, trip.rtt, trip.target, want)
				}
			}
		}
	}
}

func TestGrowInAnyTrip(t *testing.T) {
	w := api.Window{Cwnd: 10000, Thresh: 9500, Carry: 17}
	everyTrip(func(rtt, target int64) {
		for _, acked := range []int64{0, 1, 10000, heaped} {
			grows(t, w, acked, 1000, rtt, target, modelGrow(w, acked, 1000, rtt, target))
		}
	})
}

func TestGrowOfNumbersByChance(t *testing.T) {
	r := rand.New(rand.NewSource(262))
	for range 100000 {
		w, acked, mss := anyWindow(r), anyNumber(r), anyNumber(r)
		rtt, target := anyTrip(r)
		if r.Intn(2) == 0 {
			acked, mss = r.Int63n(heaped+2), 1+r.Int63n(3000)
		}
		grows(t, w, acked, mss, rtt, target, modelGrow(w, acked, mss, rtt, target))
	}
}

// inASecond is a window after a second of round trips, in each of which all of it is acknowledged.
func inASecond(w api.Window, mss, rtt, target int64) api.Window {
	for range api.Second / rtt {
		w = Grow(w, w.Cwnd, mss, rtt, target)
	}
	return w
}

func TestTheRateRisesAsThatOfTheTarget(t *testing.T) {
	begun := api.Window{Cwnd: 50000, Thresh: 50000}
	want := inASecond(begun, 1000, 20000, 20000).Cwnd - begun.Cwnd // in 50 round trips by a segment each
	if want != 50000 {
		t.Errorf("in trips of the target it rose by %d", want)
	}
	for _, rtt := range []int64{10000, 5000, 4000, 2500, 1000, 500} {
		rise := (inASecond(begun, 1000, rtt, 20000).Cwnd - begun.Cwnd) * 20000 / rtt // as the rate is the window by the round trip
		if rise > want || rise < want*99/100 {
			t.Errorf("in trips of %d the rate rose by %d, not by %d", rtt, rise, want)
		}
	}
	if got := inASecond(begun, 1000, 40000, 20000).Cwnd - begun.Cwnd; got != 25000 { // a longer one is not made up for
		t.Errorf("in trips of 40000 it rose by %d", got)
	}
}

// P26.3

func TestBlend(t *testing.T) {
	for _, c := range []struct{ share, score, want int64 }{
		{0, one, one / 2},
		{one, 0, one / 2},
		{one, one, one / 2},
		{one, one / 2, one / 2}, // it lacks nothing
		{0, 0, 0},
		{0, one / 2, one / 4},
		{one / 2, 0, one / 4},
		{one / 2, one, one / 2},
		{one / 2, one / 2, one/4 + one/8},
		{one / 4, one / 4, one/8 + 3*one/32}, // it lacks three eighths
		{7, 0, 3},                            // half of an odd one, downwards
		{7, -1, 3},
		{7, 1, 3}, // of 524285 by one part of One
		{7, 2, 3}, // of 1048570 by One, which is less than 1
		{7, 3, 4}, // of 1572855
		{0, 1, 0}, // of 524288: a half
		{0, 2, 1}, // just 1
		{0, 3, 1},
		{0, 1001, 500},
		{1, 0, 0},
		{1, one, one / 2}, // what it lacks is to the half that fell
		{3, one, one / 2},
		{7, one, one / 2},
		{one - 1, 0, one/2 - 1},
		{one - 1, 1, one/2 - 1},
		{one - 1, one - 1, one/2 - 1}, // it lacks 1: but by all of the score it does not rise
		{one - 1, one, one / 2},
		{one - 2, one - 1, one/2 - 1},
		{one - 2, one, one / 2},
		{0, one - 1, one/2 - 1},
		{one / 3, one / 3, 291270}, // 174762, and of 349526 a third: 116508.5, downwards
		{-1, 0, 0},                 // a share counts as from 0 to One
		{-1, one, one / 2},
		{-1, one / 2, one / 4},
		{-2 * one, one / 2, one / 4},
		{lowest, 0, 0},
		{lowest, one / 2, one / 4},
		{one + 1, 0, one / 2},
		{one + 2, 0, one / 2},
		{2 * one, 0, one / 2},
		{2 * one, one, one / 2},
		{highest, 0, one / 2},
		{highest, one, one / 2},
		{0, -1, 0}, // and so does a score
		{0, lowest, 0},
		{0, one + 1, one / 2},
		{0, 2 * one, one / 2},
		{0, highest, one / 2},
		{lowest, lowest, 0},
		{lowest, highest, one / 2},
		{highest, lowest, one / 2},
		{highest, highest, one / 2},
	} {
		blends(t, c.share, c.score, c.want)
	}
}

func TestBlendIsTheModels(t *testing.T) {
	for _, a := range shares {
		for _, b := range shares {
			want := modelBlend(a.as, b.as)
			blends(t, a.is, b.is, want)
			blends(t, a.as, b.as, want)
		}
	}
	r := rand.New(rand.NewSource(263))
	for range 100000 {
		share, score := anyNumber(r), anyNumber(r)
		if r.Intn(2) == 0 {
			share, score = r.Int63n(one+2), r.Int63n(one+2)
		}
		blends(t, share, score, modelBlend(share, score))
	}
}

func TestBlendOfEachShare(t *testing.T) {
	for share := range int64(one + 1) {
		half := share >> 1
		blends(t, share, 0, half)
		blends(t, share, one, one/2)
		blends(t, share, one/2, half+(one/2-half)>>1)
		blends(t, share, 12345, half+(one/2-half)*12345>>20)
	}
}

func TestBlendOfEachScore(t *testing.T) {
	for score := range int64(one + 1) {
		blends(t, 0, score, score>>1)
		blends(t, one, score, one/2)
		blends(t, 12345, score, 6172+(one/2-6172)*score>>20)
	}
}

// P26.4

func TestReduce(t *testing.T) {
	for _, c := range []struct {
		cwnd, share, mss int64
		then             int64
	}{
		{10000, one / 2, 1000, 7500}, // by a fourth, once
		{10000, one, 1000, 5000},     // by a half, at most
		{10000, one / 4, 1000, 8750},
		{10000, 0, 1000, 10000},
		{10000, 1, 1000, 10000}, // half of it is none
		{one, 1, 1000, one},
		{one, 2, 1000, one - 1},
		{one, 3, 1000, one - 1}, // half of an odd one, downwards
		{one, 4, 1000, one - 2},
		{one, 5, 1000, one - 2},
		{2 * one, 3, 1000, 2*one - 2},
		{one - 1, 2, 1000, one - 1}, // of less than a byte
		{widest, one - 1, 1000, widest/2 + 1024},
		{widest, one - 2, 1000, widest/2 + 1024},
		{widest, one - 3, 1000, widest/2 + 2048},
		{10000, -1, 1000, 10000}, // a share below 0 counts as 0
		{10000, -one, 1000, 10000},
		{10000, lowest, 1000, 10000},
		{10000, one + 1, 1000, 5000}, // above One as One
		{10000, one + 2, 1000, 5000},
		{widest, one + 2, 1000, widest / 2},
		{10000, 2 * one, 1000, 5000},
		{10000, highest, 1000, 5000},
		{3000, 987136, 1000, 2000}, // it would fall by 1412: not below two segments
		{4000, one, 1000, 2000},
		{4001, one, 1000, 2001},
		{3999, one, 1000, 2000},
		{2001, one, 1000, 2000},
		{2001, 0, 1000, 2001},
		{2000, one, 1000, 2000}, // just there already
		{1999, one, 1000, 1999}, // below them: it stays, and does not rise
		{1001, one, 1000, 1001},
		{1000, one, 1000, 1000},
		{999, one, 1000, 1000}, // but to mss
		{999, 0, 1000, 1000},
		{0, one / 2, 1000, 1000},
		{-1, one / 2, 1000, 1000},
		{lowest, one / 2, 1000, 1000},
		{widest, one / 2, 1000, widest / 4 * 3},
		{widest + 1, one / 2, 1000, widest / 4 * 3}, // a Cwnd above MaxCwnd counts as that
		{widest + 1, 0, 1000, widest},
		{highest, one / 2, 1000, widest / 4 * 3},
		{widest - 1, one / 2, 1000, widest / 4 * 3},
		{5, one, 1, 3},
		{4, one, 1, 2},
		{3, one, 1, 2},
		{2, one, 1, 2},
		{1, one, 1, 1},
		{5, one, 0, 3}, // an mss below 1 counts as 1
		{3, one, -1, 2},
		{3, one, lowest, 2},
		{4*biggest + 1, one, biggest, 2*biggest + 1},
		{4*biggest - 1, one, biggest, 2 * biggest},
		{4*biggest - 1, one, biggest + 1, 2 * biggest}, // above MaxSize as that
		{4*biggest - 1, one, highest, 2 * biggest},
		{lowest, lowest, lowest, 1},
		{highest, highest, highest, widest / 2},
		{lowest, highest, highest, biggest},
		{highest, lowest, lowest, widest},
	} {
		for _, thresh := range []int64{lowest, 0, 5, c.then, widest, highest} { // it hangs on none of these
			for _, carry := range []int64{lowest, 0, 7, highest} {
				w := api.Window{Cwnd: c.cwnd, Thresh: thresh, Carry: carry}
				reduces(t, w, c.share, c.mss, api.Window{Cwnd: c.then, Thresh: c.then})
			}
		}
	}
}

func TestReduceOfAnyWindow(t *testing.T) {
	everyWindow(func(w api.Window, mss int64) {
		for _, share := range []int64{-1, 0, 3, one / 2, one, 2 * one} {
			got := Reduce(w, share, mss)
			if want := modelReduce(w, share, mss); got != want {
				t.Fatalf("%+v by share %d, mss %d: got %+v, want %+v", w, share, mss, got, want)
			}
		}
	})
}

func TestReduceByAnyNumbers(t *testing.T) {
	for _, w := range few() {
		for _, s := range sizes {
			for _, f := range shares {
				want := modelReduce(w, f.as, s.as)
				reduces(t, w, f.is, s.is, want)
				reduces(t, modelWithin(w, s.as), f.as, s.as, want)
			}
		}
	}
}

func TestReduceOfNumbersByChance(t *testing.T) {
	r := rand.New(rand.NewSource(264))
	for range 100000 {
		w, share, mss := anyWindow(r), anyNumber(r), anyNumber(r)
		if r.Intn(2) == 0 {
			share, mss = r.Int63n(one+2), 1+r.Int63n(3000)
		}
		reduces(t, w, share, mss, modelReduce(w, share, mss))
	}
}

func TestReduceOfEachShare(t *testing.T) {
	for share := range int64(one + 1) { // of that window each one of the share is 1024 bytes
		then := widest - share>>1<<10
		reduces(t, api.Window{Cwnd: widest, Thresh: 3, Carry: 3}, share, 1000, api.Window{Cwnd: then, Thresh: then})
	}
}

func TestAWindowGoesUpAndDown(t *testing.T) {
	w := api.Window{Cwnd: 2000, Thresh: widest}
	for range 5 { // each round trip doubles it
		w = Grow(w, w.Cwnd, 1000, 10000, 20000)
	}
	is(t, w, api.Window{Cwnd: 64000, Thresh: widest})
	w = Reduce(w, one/2, 1000)
	is(t, w, api.Window{Cwnd: 48000, Thresh: 48000})
	for range 4 { // each lets it rise by a fourth of a segment
		w = Grow(w, w.Cwnd, 1000, 10000, 20000)
	}
	is(t, w, api.Window{Cwnd: 49000, Thresh: 48000})
	w = Grow(w, 5, 1000, 10000, 20000)
	is(t, w, api.Window{Cwnd: 49000, Thresh: 48000, Carry: 1250})
	w = Reduce(w, Blend(one/2, one), 1000) // by half of a half
	is(t, w, api.Window{Cwnd: 36750, Thresh: 36750})
	for range 10 {
		w = Reduce(w, one, 1000)
	}
	is(t, w, api.Window{Cwnd: 2000, Thresh: 2000})
}

// P26.5

// notBelow fails if a share, where a number rose, fell, or is none.
func notBelow(t *testing.T, got, last, rtt, target int64) {
	t.Helper()
	if got < last || got < 0 || got > one {
		t.Errorf("%d of %d: it went from %d to %d", rtt, target, last, got)
	}
}

func TestScaleRisesWithTheRoundTrip(t *testing.T) {
	for _, target := range targets {
		last := int64(0)
		for _, rtt := range rttsOf(target) {
			got := Scale(rtt, target)
			notBelow(t, got, last, rtt, target)
			last = got
		}
	}
	for _, target := range []int64{-1, 0, 1, 2, 3, 999, 1000, 20000, 65537} {
		last := int64(0)
		for rtt := int64(-3); rtt <= target+3; rtt++ {
			got := Scale(rtt, target)
			notBelow(t, got, last, rtt, target)
			last = got
		}
		if last != one {
			t.Errorf("target %d: above it is %d", target, last)
		}
	}
}

func TestScaleFallsAsTheTargetRises(t *testing.T) {
	everyTrip(func(rtt, _ int64) {
		last := int64(0)
		for _, target := range slices.Backward(targets) {
			got := Scale(rtt, target)
			notBelow(t, got, last, rtt, target)
			last = got
		}
	})
	for _, rtt := range []int64{lowest, -1, 0, 1, 2, 3, 999, 1000, 20000} {
		last := int64(0)
		for target := 3*max(rtt, 0) + 1100; target >= -3; target-- {
			got := Scale(rtt, target)
			notBelow(t, got, last, rtt, target)
			last = got
		}
		if last != one {
			t.Errorf("round trip %d: without a target it is %d", rtt, last)
		}
	}
}

func TestScaleOfPairsByChance(t *testing.T) {
	r := rand.New(rand.NewSource(265))
	for range 100000 {
		rtt, target := anyTrip(r)
		got := Scale(rtt, target)
		longer, greater := rtt+1, target+1
		if r.Intn(2) == 0 {
			longer, greater = max(rtt, anyNumber(r)), max(target, anyNumber(r))
		}
		if longer > rtt {
			notBelow(t, Scale(longer, target), got, longer, target)
		}
		if greater > target {
			notBelow(t, got, Scale(rtt, greater), rtt, greater)
		}
	}
}

func TestBlendLiesBetween(t *testing.T) {
	for share := range int64(one + 1) {
		for _, score := range []int64{lowest, -1, 0, 1, 2, one / 3, one - 1, one, one + 1, highest} {
			if got := Blend(share, score); got < share>>1 || got > one/2 {
				t.Fatalf("share %d, score %d: it is %d", share, score, got)
			}
		}
	}
	for _, a := range shares {
		for _, b := range shares {
			if got := Blend(a.is, b.is); got < a.as>>1 || got > one/2 {
				t.Errorf("share %d, score %d: it is %d", a.is, b.is, got)
			}
		}
	}
	r := rand.New(rand.NewSource(266))
	for range 100000 {
		share, score := anyNumber(r), anyNumber(r)
		if got := Blend(share, score); got < kept(share, 0, one)>>1 || got > one/2 {
			t.Fatalf("share %d, score %d: it is %d", share, score, got)
		}
	}
}

// Rules that hold everywhere

func TestWhatIsHandedInStays(t *testing.T) {
	for _, w := range few() {
		was := w
		Grow(w, 5000, 1000, 10000, 20000)
		Reduce(w, one/2, 1000)
		is(t, w, was)
	}
	w := api.Window{Cwnd: 10000, Thresh: 10500, Carry: 7}
	x := Grow(w, 4740, 1000, 10000, 20000)
	Grow(x, 1000, 1000, 10000, 20000)
	Reduce(x, one, 1000)
	is(t, w, api.Window{Cwnd: 10000, Thresh: 10500, Carry: 7})
	is(t, x, api.Window{Cwnd: 10600, Thresh: 10500, Carry: 10007})
}

func TestTheSameIsAnsweredTheSame(t *testing.T) {
	r := rand.New(rand.NewSource(267))
	for range 20000 {
		w, acked, mss, share, score := anyWindow(r), anyNumber(r), anyNumber(r), anyNumber(r), anyNumber(r)
		rtt, target := anyTrip(r)
		scaled, grown, reduced, blended := Scale(rtt, target), Grow(w, acked, mss, rtt, target), Reduce(w, share, mss), Blend(share, score)
		Grow(anyWindow(r), anyNumber(r), anyNumber(r), anyNumber(r), anyNumber(r)) // what others are told does not matter
		Reduce(anyWindow(r), anyNumber(r), anyNumber(r))
		Blend(anyNumber(r), anyNumber(r))
		if Scale(rtt, target) != scaled || Grow(w, acked, mss, rtt, target) != grown || Reduce(w, share, mss) != reduced || Blend(share, score) != blended {
			t.Fatalf("%+v by %d, mss %d, %d of %d, share %d, score %d: it is not the same again", w, acked, mss, rtt, target, share, score)
		}
	}
}

func TestWhatIsToldIsWithinItsEnds(t *testing.T) {
	r := rand.New(rand.NewSource(268))
	for range 50000 {
		w, acked, mss, share := anyWindow(r), anyNumber(r), anyNumber(r), anyNumber(r)
		rtt, target := anyTrip(r)
		for _, x := range []api.Window{Grow(w, acked, mss, rtt, target), Reduce(w, share, mss)} {
			is(t, x, modelWithin(x, mss))
		}
		if f := Scale(rtt, target); f < 0 || f > one {
			t.Fatalf("%d of %d: it is %d", rtt, target, f)
		}
	}
}
