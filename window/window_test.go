package window

import (
	"math"
	"math/big"
	"math/rand"
	"slices"
	"testing"

	"leat/api"
)

const (
	lowest  = math.MinInt64
	highest = math.MaxInt64
	one     = 1 << 20
	widest  = 1 << 30   // the greatest Cwnd and Thresh
	biggest = 1 << 16   // the greatest mss
	fullest = 1<<50 - 1 // the greatest Carry
	heaped  = 1 << 24   // the greatest acked that counts at once
	counts  = 1 << 40   // the greatest Acked and Marked of a round
	deepest = 2 * one   // the greatest Score
)

// kinds are numbers that a kind may be, with what each counts as.
var kinds = []struct{ is, as int }{
	{lowest, Reno},
	{lowest + 1, Reno},
	{-1<<32 + 1, Reno},
	{-1<<32 + 2, Reno},
	{-256 + 2, Reno},
	{-3, Reno},
	{-2, Reno},
	{-1, Reno},
	{0, Reno},
	{1, Dctcp},
	{2, Prague},
	{3, Prague},
	{4, Prague},
	{256, Prague},
	{257, Prague},
	{1 << 32, Prague},
	{1<<32 + 1, Prague},
	{highest - 1, Prague},
	{highest, Prague},
}

// few are the kinds that the chapter names, and those one beyond them.
var few = []int{-1, Reno, Dctcp, Prague, 3}

// sizes are numbers that an mss may be, with what each counts as.
var sizes = []struct{ is, as int64 }{
	{lowest, 1},
	{lowest + 1, 1},
	{-1000, 1},
	{-1, 1},
	{0, 1},
	{1, 1},
	{2, 2},
	{1000, 1000},
	{1448, 1448},
	{biggest - 1, biggest - 1},
	{biggest, biggest},
	{biggest + 1, biggest},
	{1<<32 + 5, biggest},
	{highest - 1, biggest},
	{highest, biggest},
}

// segments are numbers of segments that a window may start with, with what each counts as.
var segments = []struct{ is, as int64 }{
	{lowest, 1},
	{lowest + 1, 1},
	{-10, 1},
	{-1, 1},
	{0, 1},
	{1, 1},
	{2, 2},
	{10, 10},
	{999, 999},
	{1000, 1000},
	{1001, 1000},
	{1<<32 + 5, 1000},
	{highest - 1, 1000},
	{highest, 1000},
}

// marks are numbers that Upto, Next, Cut and next may be: none of them has an end.
var marks = []int64{lowest, lowest + 1, lowest + 2, -1 << 62, -1<<32 - 5, -1000, -2, -1, 0, 1, 2, 50, 1000, 1<<32 + 5, 1 << 40, 1 << 62, highest - 2, highest - 1, highest}

// usual are the limits of most tests.
var usual = api.Limits{Mss: 1000, Target: 20000, Deep: 5000}

// begun is a control of that kind in whose every number it is seen whether it changes.
func begun(kind int) api.Control {
	return api.Control{
		Kind:    kind,
		Window:  api.Window{Cwnd: 10000, Thresh: 9000, Carry: 7},
		Alpha:   api.Alpha{Share: one / 2, Acked: 3000, Marked: 1000, End: 100},
		Classic: api.Classic{Score: one / 4},
		Cut:     50,
	}
}

// heard is what of most tests is heard by such a one: something of it is marked, a cut may be made, and no round ends.
func heard() api.Heard {
	return api.Heard{Acked: 2000, Marked: 500, Upto: 60, Next: 120, Rtt: 10000, Depth: 9000}
}

// beside are the numbers just below, at and above each one, and both ends, from the least on, none of them twice.
func beside(of ...int64) []int64 {
	l := []int64{lowest, lowest + 1, highest - 1, highest}
	for _, x := range of {
		l = append(l, x)
		if x > lowest {
			l = append(l, x-1)
		}
		if x < highest {
			l = append(l, x+1)
		}
	}
	slices.Sort(l)
	return slices.Compact(l)
}

func number(x int64) *big.Int { return big.NewInt(x) }

func plus(a, b *big.Int) *big.Int { return new(big.Int).Add(a, b) }

func minus(a, b *big.Int) *big.Int { return new(big.Int).Sub(a, b) }

func product(a, b *big.Int) *big.Int { return new(big.Int).Mul(a, b) }

// by is the quotient, downwards, of a b above 0.
func by(a, b *big.Int) *big.Int { return new(big.Int).Div(a, b) }

// isAbove is whether the one is above the other, by numbers without bounds.
func isAbove(a, b int64) bool { return minus(number(a), number(b)).Sign() > 0 }

// atMost is the lesser one of two numbers.
func atMost(x *big.Int, hi int64) *big.Int {
	if x.Cmp(number(hi)) > 0 {
		return number(hi)
	}
	return x
}

// kept is a number within its ends, as the model keeps it.
func kept(x, lo, hi int64) int64 {
	if x < lo {
		return lo
	}
	if x > hi {
		return hi
	}
	return x
}

// part is the share f of x, downwards.
func part(x *big.Int, f int64) *big.Int { return by(product(x, number(kept(f, 0, one))), number(one)) }

// toward is the number from x to y by one of so many parts of what lies between, downwards.
func toward(x, y, parts int64) int64 {
	return plus(number(x), by(minus(number(y), number(x)), number(parts))).Int64()
}

// ratio is a by b as a share, downwards, of a b above 0.
func ratio(a *big.Int, b int64) int64 {
	if a.Sign() < 0 {
		return 0
	}
	return atMost(by(product(a, number(one)), number(b)), one).Int64()
}

// modelWithin is a window as it counts.
func modelWithin(w api.Window, mss int64) api.Window {
	return api.Window{Cwnd: kept(w.Cwnd, kept(mss, 1, biggest), widest), Thresh: kept(w.Thresh, 0, widest), Carry: kept(w.Carry, 0, fullest)}
}

// modelGrow is reno.Grow as chapter 24 says it, by numbers without bounds.
func modelGrow(w api.Window, acked *big.Int, mss, share int64) api.Window {
	w = modelWithin(w, mss)
	cwnd, left := number(w.Cwnd), atMost(acked, heaped)
	if up := number(w.Thresh - w.Cwnd); up.Sign() > 0 {
		if up.Cmp(left) > 0 {
			up.Set(left)
		}
		cwnd, left = plus(cwnd, up), minus(left, up)
	}
	carry := plus(number(w.Carry), part(product(left, number(kept(mss, 1, biggest))), share))
	times := by(carry, cwnd)
	carry, cwnd = minus(carry, product(times, cwnd)), plus(cwnd, times)
	return api.Window{Cwnd: atMost(cwnd, widest).Int64(), Thresh: w.Thresh, Carry: carry.Int64()}
}

// modelCut is reno.Cut as chapter 24 says it.
func modelCut(w api.Window, share, mss int64) api.Window {
	w, mss = modelWithin(w, mss), kept(mss, 1, biggest)
	cwnd := w.Cwnd - part(number(w.Cwnd), share).Int64()
	if cwnd < 2*mss {
		cwnd = 2 * mss
	}
	if cwnd > w.Cwnd {
		cwnd = w.Cwnd
	}
	return api.Window{Cwnd: cwnd, Thresh: cwnd}
}

// modelCollapse is reno.Collapse as chapter 24 says it.
func modelCollapse(w api.Window, mss int64) api.Window {
	w, mss = modelWithin(w, mss), kept(mss, 1, biggest)
	return api.Window{Cwnd: mss, Thresh: kept(w.Cwnd>>1, 2*mss, widest)}
}

// modelAdded is a share's state with what was just heard, as chapter 25 says that it counts.
func modelAdded(a api.Alpha, acked, marked int64) api.Alpha {
	was := kept(a.Acked, 0, counts)
	acked = kept(acked, 0, heaped)
	sum := kept(was+acked, 0, counts)
	of := kept(kept(a.Marked, 0, was)+kept(marked, 0, acked), 0, sum)
	return api.Alpha{Share: kept(a.Share, 0, one), Acked: sum, Marked: of, End: a.End}
}

// modelFraction is alpha.Fraction as chapter 25 says it.
func modelFraction(a api.Alpha) int64 {
	if a.Acked == 0 {
		return 0
	}
	return ratio(number(a.Marked), a.Acked)
}

// modelTake is alpha.Take as chapter 25 says it.
func modelTake(a api.Alpha, acked, marked, upto, next int64) (api.Alpha, bool) {
	a = modelAdded(a, acked, marked)
	if isAbove(a.End, upto) {
		return a, false
	}
	return api.Alpha{Share: toward(a.Share, modelFraction(a), 16), End: next}, true
}

// modelRound is classic.Round as chapter 27 says it, by numbers without bounds.
func modelRound(c api.Classic, marked bool, depth, limit int64) api.Classic {
	score, limit := kept(c.Score, 0, deepest), kept(limit, 1, highest)
	switch {
	case marked && isAbove(depth, limit):
		score = kept(score+ratio(minus(number(depth), number(limit)), limit)>>2, 0, deepest)
	case marked:
		score = toward(score, 0, 8)
	default:
		score = toward(score, 0, 64)
	}
	return api.Classic{Score: score}
}

// modelScale is prague.Scale as chapter 26 says it.
func modelScale(rtt, target int64) int64 {
	if target <= 0 || !isAbove(target, rtt) {
		return one
	}
	f := ratio(number(rtt), target)
	return part(number(f), f).Int64()
}

// modelBlend is prague.Blend as chapter 26 says it.
func modelBlend(share, score int64) int64 {
	half := kept(share, 0, one) >> 1
	return half + part(number(one/2-half), score).Int64()
}

// modelKind is the kind as which a number counts.
func modelKind(kind int) int { return int(kept(int64(kind), 0, 2)) }

// modelHear is Hear as the chapter says it, sentence by sentence.
func modelHear(c api.Control, h api.Heard, l api.Limits) api.Control {
	acked := kept(h.Acked, 0, highest)
	marked := kept(h.Marked, 0, acked)
	unmarked := minus(number(acked), number(marked))
	kind, was := modelKind(c.Kind), c.Alpha
	if kind == 1 || kind == 2 {
		var ended bool
		c.Alpha, ended = modelTake(was, acked, marked, h.Upto, h.Next)
		if ended && kind == 2 {
			c.Classic = modelRound(c.Classic, modelFraction(modelAdded(was, acked, marked)) > 0, h.Depth, l.Deep)
		}
	}
	if marked > 0 && isAbove(h.Upto, c.Cut) {
		share := []int64{one / 2, c.Alpha.Share >> 1, modelBlend(c.Alpha.Share, c.Classic.Score)}[kind]
		c.Window, c.Cut = modelCut(c.Window, share, l.Mss), h.Next
		return c
	}
	if unmarked.Sign() > 0 {
		share := []int64{one, one, modelScale(h.Rtt, l.Target)}[kind]
		c.Window = modelGrow(c.Window, unmarked, l.Mss, share)
		return c
	}
	c.Window = modelWithin(c.Window, l.Mss)
	return c
}

// modelLoss is Loss as the chapter says it.
func modelLoss(c api.Control, next int64, l api.Limits) api.Control {
	if isAbove(next, c.Cut) {
		c.Window, c.Cut = modelCut(c.Window, one/2, l.Mss), next
	}
	return c
}

// modelTimeout is Timeout as the chapter says it.
func modelTimeout(c api.Control, next int64, l api.Limits) api.Control {
	c.Window, c.Cut = modelCollapse(c.Window, l.Mss), next
	return c
}

// is fails if a control is another one.
func is(t *testing.T, got, want api.Control) {
	t.Helper()
	if got != want {
		t.Errorf("got %+v, want %+v", got, want)
	}
}

// hears fails if a control behind what was heard is another one.
func hears(t *testing.T, c api.Control, h api.Heard, l api.Limits, want api.Control) {
	t.Helper()
	if got := Hear(c, h, l); got != want {
		t.Errorf("%+v, %+v, %+v: got %+v, want %+v", c, h, l, got, want)
	}
}

// asTheModel fails if a control behind what was heard is another one than the model's.
func asTheModel(t *testing.T, c api.Control, h api.Heard, l api.Limits) {
	t.Helper()
	hears(t, c, h, l, modelHear(c, h, l))
}

// loses fails if a control behind a loss is another one.
func loses(t *testing.T, c api.Control, next int64, l api.Limits, want api.Control) {
	t.Helper()
	if got := Loss(c, next, l); got != want {
		t.Errorf("%+v, loss at %d, %+v: got %+v, want %+v", c, next, l, got, want)
	}
}

// collapses fails if a control behind a timeout is another one.
func collapses(t *testing.T, c api.Control, next int64, l api.Limits, want api.Control) {
	t.Helper()
	if got := Timeout(c, next, l); got != want {
		t.Errorf("%+v, timeout at %d, %+v: got %+v, want %+v", c, next, l, got, want)
	}
}

// cutTo is a control as it was, but that its window was cut to that when next was sent.
func cutTo(c api.Control, cwnd, next int64) api.Control {
	c.Window, c.Cut = api.Window{Cwnd: cwnd, Thresh: cwnd}, next
	return c
}

// grownTo is a control as it was, but for a window that rose to that.
func grownTo(c api.Control, cwnd, carry int64) api.Control {
	c.Window.Cwnd, c.Window.Carry = cwnd, carry
	return c
}

// knowing is a control as it was, but for that state of its share.
func knowing(c api.Control, a api.Alpha) api.Control {
	c.Alpha = a
	return c
}

// scoring is a control as it was, but for that score.
func scoring(c api.Control, score int64) api.Control {
	c.Classic.Score = score
	return c
}

// someWindows are windows within their ends, at them and beyond them, beside an mss that counts as itself.
func someWindows(mss int64) []api.Window {
	l := []api.Window{
		{Cwnd: 10 * mss, Thresh: 12 * mss, Carry: 10*mss - 1},
		{Cwnd: 10*mss + 1, Thresh: 10*mss + 1},
		{Cwnd: widest - 1, Thresh: widest, Carry: widest},
		{Cwnd: widest, Thresh: 5, Carry: fullest},
		{Cwnd: widest + 1, Thresh: widest + 1, Carry: fullest + 1},
		{Cwnd: lowest, Thresh: lowest, Carry: lowest},
		{Cwnd: highest, Thresh: highest, Carry: highest},
		{Cwnd: lowest, Thresh: highest, Carry: highest},
		{Cwnd: highest, Thresh: lowest, Carry: lowest},
	}
	for _, cwnd := range []int64{-1, 0, 1, mss - 1, mss, mss + 1, 2*mss - 1, 2 * mss, 2*mss + 1, 4 * mss} {
		l = append(l, api.Window{Cwnd: cwnd, Thresh: cwnd - 1, Carry: cwnd})
	}
	return l
}

// someAlphas are states of a share within their ends, at them and beyond them.
var someAlphas = []api.Alpha{
	{},
	{Share: one, Acked: 3000, Marked: 1000, End: 100},
	{Share: one - 1, Acked: 3000, End: 100},
	{Share: 1, Acked: 3000, Marked: 3000, End: -1},
	{Share: -1, Acked: -1, Marked: 5, End: 100},
	{Share: one + 1, Acked: 5, Marked: 6, End: 100},
	{Share: 7, Acked: 3 * one, End: 100},
	{Share: 7, Acked: 3 * one, Marked: 3, End: 100},
	{Share: 7, Acked: counts, Marked: counts - 1, End: 100},
	{Share: 7, Acked: counts + 1, Marked: counts + 1, End: 100},
	{Share: lowest, Acked: lowest, Marked: lowest, End: lowest},
	{Share: highest, Acked: highest, Marked: highest, End: highest},
	{Share: lowest, Acked: highest, Marked: lowest, End: highest},
	{Share: highest, Acked: lowest, Marked: highest, End: lowest},
}

// someScores are scores within their ends, at them and beyond them.
var someScores = []int64{lowest, -one, -1, 0, 1, 63, 64, 65, one / 4, one - 1, one, one + 1, deepest - 1, deepest, deepest + 1, highest}

// anyNumber is one of any size, mostly not below 0.
func anyNumber(r *rand.Rand) int64 {
	x := int64(r.Uint64()>>1) >> r.Intn(63)
	if r.Intn(5) == 0 {
		return -x
	}
	return x
}

// anyOf is one of a list, or any number.
func anyOf(r *rand.Rand, l []int64) int64 {
	if r.Intn(5) == 0 {
		return anyNumber(r)
	}
	return l[r.Intn(len(l))]
}

// anyControl is one of any numbers, mostly within their ends.
func anyControl(r *rand.Rand) api.Control {
	c := api.Control{Kind: r.Intn(5) - 1, Cut: anyNumber(r)}
	if r.Intn(5) == 0 {
		c.Kind = int(anyNumber(r))
	}
	c.Window = api.Window{Cwnd: anyNumber(r), Thresh: anyNumber(r), Carry: anyNumber(r)}
	if r.Intn(2) == 0 {
		c.Window.Cwnd = 1 + r.Int63n(widest>>r.Intn(20))
	}
	if r.Intn(2) == 0 {
		c.Window.Thresh = kept(c.Window.Cwnd, 0, widest) + r.Int63n(4001) - 2000
	}
	c.Alpha = api.Alpha{Share: anyNumber(r), Acked: anyNumber(r), Marked: anyNumber(r), End: anyOf(r, beside(c.Cut))}
	if r.Intn(2) == 0 {
		c.Alpha.Share = r.Int63n(one + 1)
	}
	if r.Intn(2) == 0 {
		c.Alpha.Acked = r.Int63n(counts>>r.Intn(40) + 1)
		c.Alpha.Marked = r.Int63n(c.Alpha.Acked + 1)
	}
	c.Classic.Score = anyNumber(r)
	if r.Intn(2) == 0 {
		c.Classic.Score = r.Int63n(deepest + 1)
	}
	return c
}

// anyLimits are limits of any numbers, mostly plain ones.
func anyLimits(r *rand.Rand) api.Limits {
	if r.Intn(3) > 0 {
		return api.Limits{Mss: 1 + r.Int63n(3000), Target: 1 + r.Int63n(50000), Deep: 1 + r.Int63n(9000)}
	}
	return api.Limits{Mss: anyNumber(r), Target: anyNumber(r), Deep: anyNumber(r)}
}

// anyHeard is something of any numbers, mostly near those that a control and limits name.
func anyHeard(r *rand.Rand, c api.Control, l api.Limits) api.Heard {
	h := api.Heard{Acked: anyNumber(r), Next: anyNumber(r), Rtt: anyOf(r, beside(l.Target, l.Target/2)), Depth: anyOf(r, beside(l.Deep, l.Deep/2+l.Deep/4))}
	if r.Intn(2) == 0 {
		h.Acked = r.Int63n(20000)
	}
	h.Marked = anyOf(r, append(beside(h.Acked, 0), 0, 0, 0, 0, 1, 1, h.Acked, h.Acked))
	h.Upto = anyOf(r, beside(c.Cut, c.Alpha.End))
	return h
}

// anyOfAll is a control, what it hears, and limits.
func anyOfAll(r *rand.Rand) (api.Control, api.Heard, api.Limits) {
	c, l := anyControl(r), anyLimits(r)
	return c, anyHeard(r, c, l), l
}

func TestTheExampleOfTheChapter(t *testing.T) {
	c := Start(Reno, 1000, 10)
	c = Hear(c, api.Heard{Acked: 1000, Marked: 1000, Upto: 1, Next: 11}, usual)
	want := api.Control{Window: api.Window{Cwnd: 5000, Thresh: 5000}, Alpha: api.Alpha{Share: one}, Cut: 11}
	is(t, c, want)
	is(t, Hear(c, api.Heard{Acked: 1000, Marked: 1000, Upto: 2, Next: 12}, usual), want)
	is(t, Hear(c, api.Heard{Acked: 1000, Marked: 1000, Upto: 11, Next: 16}, usual), want)
	is(t, Hear(c, api.Heard{Acked: 1000, Marked: 1000, Upto: 12, Next: 17}, usual), cutTo(want, 2500, 17)) // that is another round's
}

func TestTheKindsAreThoseOfTheChapter(t *testing.T) {
	if Reno != 0 || Dctcp != 1 || Prague != 2 {
		t.Error(Reno, Dctcp, Prague)
	}
}

// P29.1

func TestStart(t *testing.T) {
	for _, c := range []struct {
		kind          int
		mss, segments int64
		kindThen      int
		cwnd          int64
	}{
		{Reno, 1000, 10, Reno, 10000},
		{Dctcp, 1000, 10, Dctcp, 10000},
		{Prague, 1000, 10, Prague, 10000},
		{-1, 1000, 10, Reno, 10000}, // one below all kinds
		{3, 1000, 10, Prague, 10000},
		{lowest, 1000, 10, Reno, 10000},
		{highest, 1000, 10, Prague, 10000},
		{9, 1448, 2, Prague, 2896},
		{Reno, 1000, 1, Reno, 1000},
		{Reno, 1000, 0, Reno, 1000}, // one segment at least
		{Reno, 1000, -1, Reno, 1000},
		{Reno, 1000, lowest, Reno, 1000},
		{Reno, 1000, 1000, Reno, 1000000},
		{Reno, 1000, 1001, Reno, 1000000}, // a thousand at most
		{Reno, 1000, highest, Reno, 1000000},
		{Dctcp, 1, 10, Dctcp, 10},
		{Dctcp, 0, 10, Dctcp, 10}, // of one byte at least
		{Dctcp, -1, 10, Dctcp, 10},
		{Dctcp, lowest, 10, Dctcp, 10},
		{Prague, biggest, 10, Prague, 10 * biggest},
		{Prague, biggest + 1, 10, Prague, 10 * biggest},
		{Prague, highest, 10, Prague, 10 * biggest},
		{lowest, lowest, lowest, Reno, 1},
		{highest, highest, highest, Prague, 1000 * biggest},
	} {
		want := api.Control{Kind: c.kindThen, Window: api.Window{Cwnd: c.cwnd, Thresh: widest}, Alpha: api.Alpha{Share: one}, Cut: -1}
		is(t, Start(c.kind, c.mss, c.segments), want)
	}
}

func TestStartOfAllNumbers(t *testing.T) {
	for _, k := range kinds {
		for _, s := range sizes {
			for _, n := range segments {
				want := api.Control{Kind: k.as, Window: api.Window{Cwnd: s.as * n.as, Thresh: widest}, Alpha: api.Alpha{Share: one}, Cut: -1}
				is(t, Start(k.is, s.is, n.is), want)
			}
		}
	}
}

func TestCwndIsTheWindows(t *testing.T) {
	for _, kind := range few {
		for _, cwnd := range []int64{lowest, -1, 0, 1, 999, 10000, widest - 1, widest, widest + 1, highest} {
			c := begun(kind)
			c.Window.Cwnd = cwnd
			if got := Cwnd(c); got != cwnd {
				t.Errorf("%+v: got %d", c, got)
			}
		}
		if got := Cwnd(Start(kind, 1448, 10)); got != 14480 {
			t.Errorf("kind %d: it starts at %d", kind, got)
		}
	}
	if got := Cwnd(api.Control{}); got != 0 {
		t.Errorf("of none it is %d", got)
	}
}

// P29.2

func TestSomethingMarkedCuts(t *testing.T) {
	a := api.Alpha{Share: one / 2, Acked: 5000, Marked: 1500, End: 100}
	hears(t, begun(Reno), heard(), usual, cutTo(begun(Reno), 5000, 120))                 // by a half; it keeps no share
	hears(t, begun(Dctcp), heard(), usual, cutTo(knowing(begun(Dctcp), a), 7500, 120))   // by half of the share
	hears(t, begun(Prague), heard(), usual, cutTo(knowing(begun(Prague), a), 6875, 120)) // by a fourth, and a fourth of another one
	h := heard()
	for _, h.Marked = range []int64{1, 2, 1999, 2000, 2001, highest} { // by what is marked of that alone it is cut no more
		for i, cwnd := range []int64{5000, 7500, 6875} {
			got := Hear(begun(i), h, usual)
			if got.Window != (api.Window{Cwnd: cwnd, Thresh: cwnd}) || got.Cut != 120 {
				t.Errorf("kind %d, marked %d: got %+v", i, h.Marked, got)
			}
		}
	}
}

func TestNothingMarkedGrows(t *testing.T) {
	a := api.Alpha{Share: one / 2, Acked: 5000, Marked: 1000, End: 100}
	h := heard()
	for _, h.Marked = range []int64{0, -1, -2000, lowest} {
		for _, h.Upto = range []int64{lowest, 49, 50, 51, 99} {
			hears(t, begun(Reno), h, usual, grownTo(begun(Reno), 10200, 7))
			hears(t, begun(Dctcp), h, usual, grownTo(knowing(begun(Dctcp), a), 10200, 7))
			hears(t, begun(Prague), h, usual, grownTo(knowing(begun(Prague), a), 10050, 7)) // in half the round trip by a fourth
		}
	}
}

func TestWhatCameUnmarkedBesideMarksGrowsWhereNoCutIsMade(t *testing.T) {
	a := api.Alpha{Share: one / 2, Acked: 5000, Marked: 1500, End: 100}
	h := heard()
	for _, h.Upto = range []int64{lowest, 0, 49, 50} {
		hears(t, begun(Reno), h, usual, grownTo(begun(Reno), 10150, 7))
		hears(t, begun(Dctcp), h, usual, grownTo(knowing(begun(Dctcp), a), 10150, 7))
		hears(t, begun(Prague), h, usual, grownTo(knowing(begun(Prague), a), 10037, 5007)) // by 375007
	}
}

func TestUptoBesideCut(t *testing.T) {
	for _, c := range []struct {
		cut, upto int64
		made      bool
	}{
		{50, 49, false}, // one below it
		{50, 50, false}, // just it
		{50, 51, true},  // one above it
		{50, lowest, false},
		{50, highest, true},
		{50, -50, false},
		{-1, -2, false},
		{-1, -1, false},
		{-1, 0, true},
		{0, -1, false},
		{0, 0, false},
		{0, 1, true},
		{lowest, lowest, false},
		{lowest, lowest + 1, true},
		{lowest, 0, true},
		{lowest, highest, true}, // by more than an int64 tells
		{lowest + 1, lowest, false},
		{highest, highest, false},
		{highest, highest - 1, false},
		{highest, 0, false},
		{highest, lowest, false},
		{highest - 1, highest - 1, false},
		{highest - 1, highest, true},
		{1 << 62, -1<<62 - 1, false},
		{-1<<62 - 1, 1 << 62, true},
		{1<<32 + 5, 6, false},
	} {
		for _, kind := range few {
			for _, next := range marks {
				was := begun(kind)
				was.Cut = c.cut
				got := Hear(was, api.Heard{Acked: 2000, Marked: 2000, Upto: c.upto, Next: next}, usual)
				want := c.cut
				if c.made {
					want = next // also one that is behind
				}
				if fell := got.Window.Cwnd < was.Window.Cwnd; fell != c.made || got.Cut != want {
					t.Errorf("kind %d, cut %d, upto %d, next %d: got %+v", kind, c.cut, c.upto, next, got)
				}
			}
		}
	}
}

func TestAckedAndMarkedBesideEachOther(t *testing.T) {
	for _, c := range []struct {
		acked, marked int64
		cut           bool  // where one may be made
		unmarked      int64 // where none may
	}{
		{2000, 0, false, 2000},
		{2000, -1, false, 2000}, // marked below 0 counts as 0
		{2000, lowest, false, 2000},
		{2000, 1, true, 1999},
		{2000, 1999, true, 1}, // one below Acked
		{2000, 2000, true, 0}, // just it
		{2000, 2001, true, 0}, // one above it counts as it
		{2000, highest, true, 0},
		{1, 0, false, 1},
		{1, 1, true, 0},
		{1, 2, true, 0},
		{1, -1, false, 1},
		{0, 0, false, 0},
		{0, 1, false, 0}, // of nothing nothing is marked
		{0, highest, false, 0},
		{0, -1, false, 0},
		{0, lowest, false, 0},
		{-1, 0, false, 0}, // acked below 0 counts as 0
		{-1, 1, false, 0},
		{-1, -2, false, 0}, // also where marked is below it
		{-1, -1, false, 0},
		{-5, -1000, false, 0},
		{lowest, highest, false, 0},
		{lowest, lowest, false, 0},
		{-1, lowest, false, 0},
		{highest, lowest, false, heaped},
		{highest, 0, false, heaped},
		{highest, 1, true, heaped},
		{highest, highest - heaped - 1, true, heaped},
		{highest, highest - heaped + 1, true, heaped - 1},
		{highest, highest - 1, true, 1},
		{highest, highest, true, 0},
		{highest - 1, highest, true, 0},
		{heaped, heaped - 1, true, 1},
		{heaped + 5, 3, true, heaped}, // all but the marked ones, and then the nearer end
		{heaped + 5, 7, true, heaped - 2},
		{2 * heaped, heaped, true, heaped},
	} {
		h := api.Heard{Acked: c.acked, Marked: c.marked, Upto: 60, Next: 120, Rtt: 20000}
		for _, kind := range few {
			was := begun(kind)
			grown := modelGrow(was.Window, number(c.unmarked), 1000, one)
			if c.unmarked == 0 {
				grown = was.Window
			}
			h.Upto = 50
			if got := Hear(was, h, usual); got.Window != grown || got.Cut != 50 {
				t.Errorf("kind %d, %d of %d marked: got %+v, want %+v", kind, c.marked, c.acked, got, grown)
			}
			h.Upto = 51
			if got := Hear(was, h, usual); got.Cut != 50 != c.cut || !c.cut && got.Window != grown {
				t.Errorf("kind %d, %d of %d marked, above Cut: got %+v", kind, c.marked, c.acked, got)
			}
		}
	}
}

func TestARoundThatEndsMovesTheShare(t *testing.T) {
	h := heard()
	h.Upto = 100
	ended := api.Alpha{Share: 511180, End: 120} // of 1500 in 5000, by 314572 - 524288 down: the 16th of that is 13107.25
	hears(t, begun(Reno), h, usual, cutTo(begun(Reno), 5000, 120))
	hears(t, begun(Dctcp), h, usual, cutTo(knowing(begun(Dctcp), ended), 7563, 120)) // by the share as it is behind that round
	hears(t, begun(Prague), h, usual, cutTo(scoring(knowing(begun(Prague), ended), 471859), 6410, 120))
	h.Marked = 0
	ended.Share = 504627 // of 1000 in 5000
	hears(t, begun(Dctcp), h, usual, grownTo(knowing(begun(Dctcp), ended), 10200, 7))
	hears(t, begun(Prague), h, usual, grownTo(scoring(knowing(begun(Prague), ended), 471859), 10050, 7))
	for _, c := range []struct {
		end, upto int64
		ends      bool
	}{
		{100, 99, false},
		{100, 100, true},
		{100, 101, true},
		{100, lowest, false},
		{100, highest, true},
		{lowest, lowest, true},
		{lowest, highest, true},
		{lowest + 1, lowest, false},
		{highest, highest, true},
		{highest, highest - 1, false},
		{highest, lowest, false},
		{0, -1, false},
		{-1, -1, true},
	} {
		for _, next := range marks {
			for _, kind := range []int{Dctcp, Prague, 3, highest} {
				was := begun(kind)
				was.Alpha.End = c.end
				want := api.Alpha{Share: one / 2, Acked: 5000, Marked: 1000, End: c.end}
				if c.ends {
					want = api.Alpha{Share: 504627, End: next}
				}
				h.Upto, h.Next = c.upto, next
				if got := Hear(was, h, usual); got.Alpha != want {
					t.Errorf("kind %d, end %d, upto %d: got %+v, want %+v", kind, c.end, c.upto, got.Alpha, want)
				}
			}
		}
	}
}

func TestRenoKeepsNoShareAndNoScore(t *testing.T) {
	for _, kind := range []int{lowest, -1, Reno} {
		for _, a := range someAlphas {
			for _, score := range someScores {
				for _, upto := range beside(50, a.End) {
					was := scoring(knowing(begun(kind), a), score)
					h := heard()
					h.Upto = upto
					got := Hear(was, h, usual)
					if got.Alpha != a || got.Classic.Score != score {
						t.Errorf("%+v, upto %d: got %+v", was, upto, got)
					}
					if w := Hear(begun(kind), h, usual).Window; got.Window != w {
						t.Errorf("%+v, upto %d: it hangs on them: %+v, not %+v", was, upto, got.Window, w)
					}
				}
			}
		}
	}
}

func TestDctcpKeepsNoScore(t *testing.T) {
	for _, score := range someScores {
		for _, upto := range []int64{40, 60, 99, 100, 101, highest} {
			h := heard()
			h.Upto = upto
			want := Hear(begun(Dctcp), h, usual)
			for _, h.Depth = range beside(5000) {
				hears(t, scoring(begun(Dctcp), score), h, usual, scoring(want, score))
			}
		}
	}
}

func TestTheScoreMovesWhereARoundEnds(t *testing.T) {
	for _, c := range []struct {
		ahead, now  int64 // bytes that came marked
		upto, depth int64
		then        int64
	}{
		{1000, 500, 99, 9000, one / 4}, // it goes on
		{1000, 500, 100, 9000, 471859}, // by a fourth of 838860
		{1000, 0, 100, 9000, 471859},   // something of it was marked ahead
		{0, 1, 100, 9000, 471859},      // or just now
		{0, 2000, 100, 9000, 471859},
		{0, 0, 100, 9000, 258048}, // nothing: a 64th falls, however deep it was
		{0, -1, 100, 9000, 258048},
		{0, 0, 100, lowest, 258048},
		{0, 0, 99, 9000, one / 4},
		{1000, 500, 100, 5000, 229376}, // just Deep: an eighth falls
		{1000, 500, 100, 4999, 229376}, // one below it
		{1000, 500, 100, 5001, 262196}, // one above it: by a fourth of 209
		{1000, 500, 100, 0, 229376},
		{1000, 500, 100, -1, 229376},
		{1000, 500, 100, lowest, 229376},
		{1000, 500, 100, 10000, one / 2}, // by a fourth of One, at most
		{1000, 500, 100, highest, one / 2},
		{1000, 500, 101, highest, one / 2},
		{1000, 500, highest, highest, one / 2},
		{1000, 500, lowest, highest, one / 4},
		{-1, 0, 100, 9000, 258048}, // bytes below 0 count as none
		{lowest, lowest, 100, 9000, 258048},
		{highest, 0, 100, 9000, 471859},
		{0, highest, 100, 9000, 471859},
	} {
		for _, kind := range []int{Prague, 3, highest} {
			was := begun(kind)
			was.Alpha.Marked = c.ahead
			h := heard()
			h.Marked, h.Upto, h.Depth = c.now, c.upto, c.depth
			if got := Hear(was, h, usual); got.Classic.Score != c.then {
				t.Errorf("kind %d, marked %d and %d, upto %d, depth %d: got %d, want %d", kind, c.ahead, c.now, c.upto, c.depth, got.Classic.Score, c.then)
			}
		}
	}
}

func TestTooLittleMarkedToTellIsNothingMarked(t *testing.T) {
	was := begun(Prague)
	for _, c := range []struct {
		acked, marked, score int64
	}{
		{one, 0, 258048}, // of One and 2000 more
		{one, 1, 258048}, // one of them is less than one part of One
		{one, 2, 471859}, // two are not
		{one, 500, 471859},
		{one - 2000, 1, 471859},
		{one - 1999, 1, 258048},
		{counts, one - 1, 258048},
		{counts, one, 471859},
		{counts + 1, one - 1, 258048}, // no more counts
		{highest, one, 471859},
	} {
		h := heard()
		h.Marked, h.Upto = 0, 100
		was.Alpha.Acked, was.Alpha.Marked = c.acked, c.marked
		if got := Hear(was, h, usual).Classic.Score; got != c.score {
			t.Errorf("%d of %d: got %d, want %d", c.marked, c.acked, got, c.score)
		}
	}
	was.Alpha.Acked, was.Alpha.Marked = one, 0
	h := heard()
	h.Marked, h.Upto = 1, 100 // it is cut all the same, by half of the share, and a fourth of what that lacks to a half, nearly
	got := Hear(was, h, usual)
	if got.Classic.Score != 258048 || got.Cut != 120 || got.Window.Cwnd != 10000-part(number(10000), modelBlend(got.Alpha.Share, 258048)).Int64() {
		t.Errorf("one byte just now: got %+v", got)
	}
}

func TestTheCutGoesByTheShare(t *testing.T) {
	for _, c := range []struct{ share, dctcp, prague int64 }{ // of a window of One, of which each part is a byte
		{0, one, one},
		{-1, one, one}, // it counts as from 0
		{lowest, one, one},
		{1, one, one}, // half of it is none
		{2, one - 1, one - 1},
		{3, one - 1, one - 1},
		{one / 2, 3 * one / 4, 3 * one / 4},
		{one - 1, one/2 + 1, one/2 + 1},
		{one, one / 2, one / 2},
		{one + 1, one / 2, one / 2}, // to One
		{one + 2, one / 2, one / 2},
		{highest, one / 2, one / 2},
	} {
		for kind, then := range []int64{one / 2, c.dctcp, c.prague} {
			was := scoring(begun(kind), 0)
			was.Window.Cwnd, was.Alpha.Share = one, c.share
			got := Hear(was, heard(), usual)
			if got.Window != (api.Window{Cwnd: then, Thresh: then}) {
				t.Errorf("kind %d, share %d: got %+v, want %d", kind, c.share, got.Window, then)
			}
		}
	}
}

func TestTheCutOfPragueGoesByTheScore(t *testing.T) {
	for _, c := range []struct{ share, score, then int64 }{
		{0, 0, one},
		{0, 1, one}, // of a half by one part
		{0, 2, one - 1},
		{0, one / 2, 3 * one / 4},
		{0, one - 1, one/2 + 1},
		{0, one, one / 2},
		{0, one + 1, one / 2}, // an old one, however old
		{0, deepest, one / 2},
		{0, deepest + 1, one / 2},
		{0, highest, one / 2},
		{0, -1, one},
		{0, lowest, one},
		{one / 2, 0, 3 * one / 4},
		{one / 2, one / 2, 5 * one / 8},
		{one / 2, one, one / 2},
		{one, 0, one / 2},
		{one, one / 2, one / 2},
		{one, one, one / 2},
		{one + 1, lowest, one / 2},
	} {
		for _, kind := range []int{Prague, 3, highest} {
			was := scoring(begun(kind), c.score)
			was.Window.Cwnd, was.Alpha.Share = one, c.share
			got := Hear(was, heard(), usual)
			if got.Window != (api.Window{Cwnd: c.then, Thresh: c.then}) || got.Classic.Score != c.score {
				t.Errorf("kind %d, share %d, score %d: got %+v, want %d", kind, c.share, c.score, got, c.then)
			}
		}
	}
}

func TestTheCutIsOfWhatTheEndedRoundTold(t *testing.T) {
	h := api.Heard{Acked: 1000, Marked: 1000, Upto: 100, Next: 120, Depth: 10000}
	was := api.Control{Kind: Dctcp, Window: api.Window{Cwnd: one}, Alpha: api.Alpha{End: 100}}
	hears(t, was, h, usual, cutTo(knowing(was, api.Alpha{Share: 1 << 16, End: 120}), one-1<<15, 120)) // a share of 0 would not cut at all
	was.Kind = Prague
	want := cutTo(scoring(knowing(was, api.Alpha{Share: 1 << 16, End: 120}), 1<<18), one-1<<15-(one/2-1<<15)/4, 120)
	hears(t, was, h, usual, want)
	h.Upto = 99
	hears(t, was, h, usual, cutTo(knowing(was, api.Alpha{Acked: 1000, Marked: 1000, End: 100}), one, 120)) // nothing is told yet: a cut of nothing
}

func TestNoWindowIsCutBelowTwoSegments(t *testing.T) {
	for _, c := range []struct{ cwnd, then int64 }{
		{3000, 2000},
		{2001, 2000},
		{2000, 2000},
		{1999, 1999}, // it stays, and does not rise
		{1001, 1001},
		{1000, 1000},
		{999, 1000}, // but to one segment
		{0, 1000},
		{-1, 1000},
		{lowest, 1000},
		{widest, widest / 2},
		{widest + 1, widest / 2},
		{highest, widest / 2},
	} {
		for _, kind := range few {
			was := begun(kind)
			was.Window.Cwnd, was.Alpha.Share = c.cwnd, one // of all kinds by a half
			if got := Hear(was, heard(), usual); got.Window != (api.Window{Cwnd: c.then, Thresh: c.then}) || got.Cut != 120 {
				t.Errorf("kind %d, %d: got %+v, want %d", kind, c.cwnd, got, c.then)
			}
			loses(t, was, 60, usual, cutTo(was, c.then, 60))
		}
	}
}

func TestPragueGrowsByTheRoundTrip(t *testing.T) {
	for _, c := range []struct{ rtt, target, cwnd, carry int64 }{
		{10000, 20000, 10050, 7}, // of 2000 bytes: by a fourth of 200
		{20000, 20000, 10200, 7}, // just the target
		{20001, 20000, 10200, 7}, // no more
		{highest, 20000, 10200, 7},
		{19999, 20000, 10199, 9804}, // of 1048470 parts: 1999797, and 7
		{5000, 20000, 10012, 5007},
		{1, 20000, 10000, 7},
		{0, 20000, 10000, 7},
		{-1, 20000, 10000, 7},
		{lowest, 20000, 10000, 7},
		{1, 0, 10200, 7}, // no target: as the others
		{-5, 0, 10200, 7},
		{lowest, -1, 10200, 7},
		{5, lowest, 10200, 7},
		{lowest, lowest, 10200, 7},
		{0, 1, 10000, 7},
		{1, 1, 10200, 7},
		{highest, highest, 10200, 7},
		{1 << 62, highest, 10050, 7},
		{0, highest, 10000, 7},
		{lowest, highest, 10000, 7},
	} {
		h := heard()
		h.Marked, h.Rtt = 0, c.rtt
		l := api.Limits{Mss: 1000, Target: c.target, Deep: 5000}
		for _, kind := range []int{Prague, 3, highest} {
			if got := Hear(begun(kind), h, l).Window; got != (api.Window{Cwnd: c.cwnd, Thresh: 9000, Carry: c.carry}) {
				t.Errorf("kind %d, %d of %d: got %+v, want %d, %d", kind, c.rtt, c.target, got, c.cwnd, c.carry)
			}
		}
		for _, kind := range []int{lowest, -1, Reno, Dctcp} { // the others do not hang on it
			if got := Hear(begun(kind), h, l).Window; got != (api.Window{Cwnd: 10200, Thresh: 9000, Carry: 7}) {
				t.Errorf("kind %d, %d of %d: got %+v", kind, c.rtt, c.target, got)
			}
		}
	}
}

func TestUpToThreshAllKindsRiseByEachByte(t *testing.T) {
	want := api.Window{Cwnd: 11500, Thresh: 11500, Carry: 7}
	for _, kind := range few {
		was := begun(kind)
		was.Window = api.Window{Cwnd: 10000, Thresh: 11500, Carry: 7}
		for _, h := range []api.Heard{
			{Acked: 1500, Upto: 60},
			{Acked: 2000, Marked: 500, Upto: 50}, // what came marked does not let it rise
		} {
			if got := Hear(was, h, usual).Window; got != want {
				t.Errorf("kind %d, %+v: got %+v", kind, h, got)
			}
		}
	}
}

func TestWhereNothingIsHeardNothingGrows(t *testing.T) {
	for _, acked := range []int64{0, -1, -1000, lowest} {
		for _, marked := range []int64{lowest, -1, 0, 1, highest} {
			for _, kind := range few {
				was := begun(kind)
				was.Window.Carry = fullest // by which it would rise with a byte more
				hears(t, was, api.Heard{Acked: acked, Marked: marked, Upto: 99, Next: 120, Rtt: 20000}, usual, was)
			}
		}
	}
	was := begun(Prague) // but a round ends
	want := scoring(knowing(was, api.Alpha{Share: 513365, End: 120}), 471859)
	hears(t, was, api.Heard{Upto: 100, Next: 120, Depth: 9000}, usual, want)
}

func TestHearOfWindowsBeyondTheirEnds(t *testing.T) {
	for _, s := range sizes {
		l := api.Limits{Mss: s.is, Target: 20000, Deep: 5000}
		for _, w := range someWindows(s.as) {
			for _, kind := range few {
				for _, h := range []api.Heard{
					{Acked: 0, Upto: 60, Next: 120},
					{Acked: 1, Upto: 60, Next: 120, Rtt: 20000},
					{Acked: 5000, Upto: 60, Next: 120, Rtt: 10000},
					{Acked: highest, Upto: 60, Next: 120, Rtt: 10000},
					{Acked: 5000, Marked: 1, Upto: 60, Next: 120, Rtt: 20000},
					{Acked: 5000, Marked: 1, Upto: 40, Next: 120, Rtt: 20000},
					{Acked: 5000, Marked: 5000, Upto: 60, Next: 120},
					{Acked: 5000, Marked: 5000, Upto: 40, Next: 120},
				} {
					was := begun(kind)
					was.Window = w
					asTheModel(t, was, h, l)
					want := modelHear(was, h, l)
					was.Window = modelWithin(w, s.as)
					hears(t, was, h, l, want)
					hears(t, was, h, api.Limits{Mss: s.as, Target: 20000, Deep: 5000}, want)
				}
			}
		}
	}
}

func TestHearOfSharesAndScoresBeyondTheirEnds(t *testing.T) {
	for _, kind := range few {
		for _, a := range someAlphas {
			for _, score := range someScores {
				was := scoring(knowing(begun(kind), a), score)
				for _, upto := range beside(50, a.End) {
					for _, marked := range []int64{0, 1, 2000} {
						asTheModel(t, was, api.Heard{Acked: 2000, Marked: marked, Upto: upto, Next: 120, Rtt: 10000, Depth: 9000}, usual)
					}
				}
			}
		}
	}
}

func TestHearOfAllKinds(t *testing.T) {
	r := rand.New(rand.NewSource(291))
	for _, k := range kinds {
		for range 500 {
			c, h, l := anyOfAll(r)
			c.Kind = k.is
			got := Hear(c, h, l)
			c.Kind = k.as
			want := Hear(c, h, l)
			want.Kind = k.is // it counts as the other one, and stays
			if got != want {
				t.Fatalf("%+v, %+v, %+v: got %+v, want %+v", c, h, l, got, want)
			}
		}
	}
}

func TestHearOfAllLimits(t *testing.T) {
	for _, mss := range beside(0, 1000, biggest) {
		for _, target := range beside(0, 10000) {
			for _, deep := range beside(0, 9000) {
				for _, upto := range []int64{40, 60, 100} {
					for _, marked := range []int64{0, 500, 2000} {
						h := heard()
						h.Upto, h.Marked = upto, marked
						asTheModel(t, begun(Prague), h, api.Limits{Mss: mss, Target: target, Deep: deep})
						asTheModel(t, begun(Dctcp), h, api.Limits{Mss: mss, Target: target, Deep: deep})
						asTheModel(t, begun(Reno), h, api.Limits{Mss: mss, Target: target, Deep: deep})
					}
				}
			}
		}
	}
}

func TestHearIsTheModels(t *testing.T) {
	r := rand.New(rand.NewSource(292))
	for range 200000 {
		c, h, l := anyOfAll(r)
		if got, want := Hear(c, h, l), modelHear(c, h, l); got != want {
			t.Fatalf("%+v, %+v, %+v: got %+v, want %+v", c, h, l, got, want)
		}
	}
}

// P29.3

func TestALossCutsByAHalf(t *testing.T) {
	for _, c := range []struct {
		cut, next int64
		made      bool
	}{
		{50, 49, false}, // one below it
		{50, 50, false}, // just it
		{50, 51, true},  // one above it
		{50, 0, false},
		{50, -51, false},
		{50, lowest, false},
		{50, highest, true},
		{-1, -2, false},
		{-1, -1, false},
		{-1, 0, true},
		{0, 1, true},
		{lowest, lowest, false},
		{lowest, lowest + 1, true},
		{lowest, highest, true},
		{highest, highest, false},
		{highest, highest - 1, false},
		{highest, lowest, false},
		{highest - 1, highest, true},
		{1<<32 + 5, 6, false},
	} {
		for _, kind := range few {
			was := begun(kind)
			was.Cut = c.cut
			want := was
			if c.made {
				want = cutTo(was, 5000, c.next)
			}
			loses(t, was, c.next, usual, want)
		}
	}
}

func TestWhereALossCutsNothingAllIsAsItWas(t *testing.T) {
	r := rand.New(rand.NewSource(293))
	for range 20000 {
		c, l := anyControl(r), anyLimits(r)
		loses(t, c, c.Cut, l, c)
		loses(t, c, min(c.Cut, anyNumber(r)), l, c)
	}
}

func TestATimeoutBeginsAnew(t *testing.T) {
	for _, c := range []struct{ cwnd, mss, then, thresh int64 }{
		{10000, 1000, 1000, 5000},
		{10001, 1000, 1000, 5000}, // half of it, downwards
		{4002, 1000, 1000, 2001},
		{4001, 1000, 1000, 2000},
		{4000, 1000, 1000, 2000},
		{3999, 1000, 1000, 2000}, // not below two segments
		{1000, 1000, 1000, 2000},
		{1, 1000, 1000, 2000},
		{0, 1000, 1000, 2000},
		{lowest, 1000, 1000, 2000},
		{widest, 1000, 1000, widest / 2},
		{widest + 1, 1000, 1000, widest / 2},
		{highest, 1000, 1000, widest / 2},
		{10000, 1, 1, 5000},
		{10000, 0, 1, 5000},
		{10000, -1, 1, 5000},
		{10000, lowest, 1, 5000},
		{10000, biggest, biggest, 2 * biggest},
		{10000, biggest + 1, biggest, 2 * biggest},
		{10000, highest, biggest, 2 * biggest},
		{lowest, lowest, 1, 2},
		{highest, highest, biggest, widest / 2},
	} {
		for _, kind := range few {
			for _, next := range marks {
				for _, cut := range []int64{lowest, 50, next, highest} { // whenever it was cut
					was := begun(kind)
					was.Window.Cwnd, was.Cut = c.cwnd, cut
					want := was
					want.Window, want.Cut = api.Window{Cwnd: c.then, Thresh: c.thresh}, next
					collapses(t, was, next, api.Limits{Mss: c.mss, Target: 20000, Deep: 5000}, want)
				}
			}
		}
	}
}

func TestLossAndTimeoutOfAllKinds(t *testing.T) {
	for _, k := range kinds {
		loses(t, begun(k.is), 51, usual, cutTo(begun(k.is), 5000, 51))
		loses(t, begun(k.is), 50, usual, begun(k.is))
		want := begun(k.is)
		want.Window, want.Cut = api.Window{Cwnd: 1000, Thresh: 5000}, 7
		collapses(t, begun(k.is), 7, usual, want)
	}
}

func TestLossAndTimeoutOfWindowsBeyondTheirEnds(t *testing.T) {
	for _, s := range sizes {
		l := api.Limits{Mss: s.is, Target: 20000, Deep: 5000}
		for _, w := range someWindows(s.as) {
			for _, kind := range few {
				was := begun(kind)
				was.Window = w
				loses(t, was, 51, l, modelLoss(was, 51, l))
				loses(t, was, 50, l, was)
				collapses(t, was, 51, l, modelTimeout(was, 51, l))
			}
		}
	}
}

func TestLossAndTimeoutLeaveShareAndScore(t *testing.T) {
	for _, kind := range few {
		for _, a := range someAlphas {
			for _, score := range someScores {
				was := scoring(knowing(begun(kind), a), score)
				loses(t, was, 60, usual, cutTo(was, 5000, 60))
				want := was
				want.Window, want.Cut = api.Window{Cwnd: 1000, Thresh: 5000}, 60
				collapses(t, was, 60, usual, want)
			}
		}
	}
}

func TestLossAndTimeoutHangOnMssAlone(t *testing.T) {
	for _, target := range beside(0) {
		for _, deep := range beside(0) {
			l := api.Limits{Mss: 1000, Target: target, Deep: deep}
			is(t, Loss(begun(Prague), 60, l), Loss(begun(Prague), 60, usual))
			is(t, Timeout(begun(Prague), 60, l), Timeout(begun(Prague), 60, usual))
		}
	}
}

func TestLossAndTimeoutAreTheModels(t *testing.T) {
	r := rand.New(rand.NewSource(294))
	for range 100000 {
		c, l := anyControl(r), anyLimits(r)
		next := anyOf(r, beside(c.Cut))
		loses(t, c, next, l, modelLoss(c, next, l))
		collapses(t, c, next, l, modelTimeout(c, next, l))
	}
}

// P29.4

// row is a control, what its sender is at, and from where on it may be cut again.
type row struct {
	t                 *testing.T
	c                 api.Control
	l                 api.Limits
	upto, next, point int64
}

// started is a row of which nothing was heard yet.
func started(t *testing.T, kind int, segments int64, l api.Limits) row {
	return row{t: t, c: Start(kind, l.Mss, segments), l: l, next: segments, point: -1}
}

// behind is a row behind a step that told that control; may is whether that may have cut the window.
func (w row) behind(c, want api.Control, may bool) row {
	w.t.Helper()
	is(w.t, c, want)
	if cwnd := Cwnd(c); cwnd < w.l.Mss || cwnd > widest {
		w.t.Errorf("%+v became %+v: it lies beyond its ends", w.c, c)
	}
	if !may && (Cwnd(c) < Cwnd(w.c) || c.Cut != w.c.Cut) {
		w.t.Errorf("%+v became %+v: it was cut once more in a round", w.c, c)
	}
	if c.Cut != w.c.Cut {
		w.point = w.next
	}
	w.c = c
	return w
}

// heard is a row that heard so many segments more, and of them so many that came marked.
func (w row) heard(more, marked, rtt, depth int64) row {
	w.t.Helper()
	w.upto = min(w.upto+more, w.next)
	w.next = w.upto + max(Cwnd(w.c)/w.l.Mss, 1)
	h := api.Heard{Acked: max(more, marked) * w.l.Mss, Marked: marked * w.l.Mss, Upto: w.upto, Next: w.next, Rtt: rtt, Depth: depth}
	c := Hear(w.c, h, w.l)
	if h.Acked == h.Marked && Cwnd(c) > Cwnd(w.c) {
		w.t.Errorf("%+v became %+v: it grew by what came marked alone", w.c, c)
	}
	return w.behind(c, modelHear(w.c, h, w.l), h.Marked > 0 && w.upto > w.point)
}

// lost is a row in which something was lost.
func (w row) lost() row {
	w.t.Helper()
	return w.behind(Loss(w.c, w.next, w.l), modelLoss(w.c, w.next, w.l), w.next > w.point)
}

// timedOut is a row in which nothing was heard for a time.
func (w row) timedOut() row {
	w.t.Helper()
	w = w.behind(Timeout(w.c, w.next, w.l), modelTimeout(w.c, w.next, w.l), true)
	w.point = w.next
	if Cwnd(w.c) != w.l.Mss {
		w.t.Errorf("%+v: it does not begin anew", w.c)
	}
	return w
}

// steps are all that may come next in a row.
var steps = []func(row) row{
	func(w row) row { return w.heard(2, 0, 10000, 0) },
	func(w row) row { return w.heard(2, 1, 20000, 9000) },
	func(w row) row { return w.heard(3, 3, 20000, 6000) },
	func(w row) row { return w.heard(0, 2, 20000, 9000) },
	func(w row) row { return w.heard(0, 0, 10000, 0) },
	func(w row) row { return w.lost() },
	func(w row) row { return w.timedOut() },
}

// goOn goes through all rows of so many steps more.
func goOn(w row, more int) {
	if more == 0 {
		return
	}
	for _, s := range steps {
		goOn(s(w), more-1)
	}
}

func TestEveryRowOfSixSteps(t *testing.T) {
	for kind := range 3 {
		goOn(started(t, kind, 10, usual), 6)
	}
	goOn(started(t, Prague, 1, usual), 5)
	goOn(started(t, Dctcp, 1000, api.Limits{Mss: biggest, Target: 1, Deep: 1}), 5)
	goOn(started(t, Reno, 1, api.Limits{Mss: 1, Target: 1 << 50, Deep: 1 << 50}), 5)
}

func TestManyThatWereHeardInARow(t *testing.T) {
	r := rand.New(rand.NewSource(295))
	for i := range 300 {
		l := api.Limits{Mss: 1 + r.Int63n(biggest), Target: 1 + r.Int63n(50000), Deep: 1 + r.Int63n(9000)}
		w := started(t, i%3, 1+r.Int63n(100), l)
		marks, losses := 1+r.Intn(20), 20+r.Intn(500)
		for range 300 {
			more, marked := r.Int63n(min(w.next-w.upto, 250)+1), int64(0)
			if r.Intn(marks) == 0 {
				marked = r.Int63n(more + 2)
			}
			w = w.heard(more, marked, r.Int63n(60000), r.Int63n(20000))
			if r.Intn(losses) == 0 {
				w = w.lost()
			}
			if r.Intn(4*losses) == 0 {
				w = w.timedOut()
			}
		}
	}
}

func TestByWhatCameMarkedAloneNoWindowGrows(t *testing.T) {
	r := rand.New(rand.NewSource(296))
	for range 50000 {
		c, h, l := anyOfAll(r)
		c.Window, h.Marked = modelWithin(c.Window, l.Mss), h.Acked
		if got := Hear(c, h, l); got.Window.Cwnd > c.Window.Cwnd || got.Window.Carry > c.Window.Carry {
			t.Fatalf("%+v, %+v, %+v: it grew to %+v", c, h, l, got)
		}
	}
	for _, kind := range few { // also not by what was left of growing
		was := begun(kind)
		was.Window = api.Window{Cwnd: 10000, Thresh: widest, Carry: fullest}
		hears(t, was, api.Heard{Acked: 5000, Marked: 5000, Upto: 50, Next: 120, Rtt: 20000}, usual, knowing(was, Hear(was, api.Heard{Acked: 5000, Marked: 5000, Upto: 50}, usual).Alpha))
	}
}

func TestInARoundAllThatCameMarkedCutsOnce(t *testing.T) {
	for _, kind := range few {
		c := Start(kind, 1000, 100)
		cuts := 0
		for upto := int64(1); upto <= 1000; upto++ { // always a hundred under way, and each marked
			was := Cwnd(c)
			c = Hear(c, api.Heard{Acked: 1000, Marked: 1000, Upto: upto, Next: upto + 100}, usual)
			if Cwnd(c) < was || c.Cut == upto+100 {
				cuts++
				if (upto-1)%101 != 0 {
					t.Errorf("kind %d: it was cut at %d", kind, upto)
				}
			}
		}
		if cuts != 10 {
			t.Errorf("kind %d: it was cut %d times in ten rounds", kind, cuts)
		}
	}
}

func TestALossBehindAMarkOfItsRoundCutsNoMore(t *testing.T) {
	for _, kind := range few {
		c := Hear(begun(kind), heard(), usual)
		loses(t, c, 119, usual, c)
		loses(t, c, 120, usual, c)
		loses(t, c, 121, usual, cutTo(c, Cwnd(c)-Cwnd(c)/2, 121))
		lost := Loss(begun(kind), 120, usual)
		h := heard()
		h.Marked = h.Acked
		for _, h.Upto = range []int64{51, 99, 119, 120} { // nor does a mark behind a loss
			if got := Hear(lost, h, usual); got.Window != lost.Window || got.Cut != 120 {
				t.Errorf("kind %d, upto %d: got %+v", kind, h.Upto, got)
			}
		}
		h.Upto, h.Next = 121, 200
		if got := Hear(lost, h, usual); got.Window.Cwnd >= lost.Window.Cwnd || got.Cut != 200 {
			t.Errorf("kind %d, the next round: got %+v", kind, got)
		}
	}
}

// Rules that hold everywhere

func TestWhatIsHandedInStays(t *testing.T) {
	for _, kind := range few {
		c, h, l := begun(kind), heard(), usual
		h.Marked = 5000 // beyond its end
		was := h
		x := Hear(c, h, l)
		y := x
		Hear(x, h, l)
		Loss(x, 500, l)
		Timeout(x, 500, l)
		is(t, c, begun(kind))
		is(t, x, y)
		if h != was || l != usual {
			t.Errorf("%+v, %+v changed", h, l)
		}
	}
}

func TestTheSameIsAnsweredTheSame(t *testing.T) {
	r := rand.New(rand.NewSource(297))
	for range 20000 {
		c, h, l := anyOfAll(r)
		heard, lost, late, first := Hear(c, h, l), Loss(c, h.Next, l), Timeout(c, h.Next, l), Start(c.Kind, l.Mss, h.Acked)
		Hear(anyOfAll(r)) // what others are told does not matter
		Loss(anyControl(r), anyNumber(r), anyLimits(r))
		Timeout(anyControl(r), anyNumber(r), anyLimits(r))
		Start(r.Intn(3), anyNumber(r), anyNumber(r))
		is(t, Hear(c, h, l), heard)
		is(t, Loss(c, h.Next, l), lost)
		is(t, Timeout(c, h.Next, l), late)
		is(t, Start(c.Kind, l.Mss, h.Acked), first)
	}
}

func TestWhatIsToldIsWithinItsEnds(t *testing.T) {
	r := rand.New(rand.NewSource(298))
	for range 50000 {
		c, h, l := anyOfAll(r)
		c.Cut = min(c.Cut, highest-1) // so that there is a next above it
		for _, x := range []api.Control{Hear(c, h, l), Loss(c, highest, l), Timeout(c, h.Next, l), Start(c.Kind, l.Mss, h.Acked)} {
			if x.Window != modelWithin(x.Window, l.Mss) {
				t.Fatalf("%+v, %+v, %+v: got %+v", c, h, l, x)
			}
		}
	}
}
