package timer

import (
	"math"
	"math/big"
	"math/rand"
	"testing"

	"leat/api"
)

const (
	lowest  = math.MinInt64
	highest = math.MaxInt64
	longest = api.MaxTicks // the greatest Base and Most
	end     = 1 << 60      // of times, which begin at 0
)

// bases are numbers that a Base may be, with what each counts as.
var bases = []struct{ is, as int64 }{
	{lowest, 1},
	{lowest + 1, 1},
	{-end, 1},
	{-longest, 1},
	{-1 << 32, 1},
	{-10, 1},
	{-1, 1},
	{0, 1},
	{1, 1},
	{2, 2},
	{3, 3},
	{7, 7},
	{10, 10},
	{api.Second, api.Second},
	{1<<18 - 1, 1<<18 - 1},
	{1 << 18, 1 << 18}, // 32 times doubled it is the greatest Most
	{1<<18 + 1, 1<<18 + 1},
	{1 << 31, 1 << 31}, // 32 times doubled it is just beyond int64
	{1 << 32, 1 << 32}, // and this beyond 64 bits
	{1<<32 + 1, 1<<32 + 1},
	{longest - 1, longest - 1},
	{longest, longest},
	{longest + 1, longest},
	{2 * longest, longest},
	{end, longest},
	{highest - 1, longest},
	{highest, longest},
}

// mosts are numbers that a Most may be, beside those near a Base.
var mosts = []int64{lowest, lowest + 1, -longest, -1, 0, 1, 2, 9, 10, 11, 35, 1000, 60 * api.Second, 1<<32 + 5, 1 << 49, longest - 1, longest, longest + 1, 2 * longest, end, highest - 1, highest}

// tries are numbers that Tries may be, with what each counts as.
var tries = []struct{ is, as int }{
	{math.MinInt, 0},
	{math.MinInt + 1, 0},
	{-1 << 32, 0},
	{-64, 0},
	{-33, 0},
	{-32, 0},
	{-1, 0},
	{0, 0},
	{1, 1},
	{2, 2},
	{5, 5},
	{16, 16},
	{30, 30},
	{31, 31},
	{32, 32},
	{33, 32},
	{62, 32},
	{63, 32},
	{64, 32},
	{256, 32},
	{1 << 32, 32},
	{1<<32 + 1, 32},
	{math.MaxInt - 1, 32},
	{math.MaxInt, 32},
}

// times are numbers that a time may be, with what each counts as.
var times = []struct{ is, as int64 }{
	{lowest, 0},
	{lowest + 1, 0},
	{-end - 1, 0},
	{-end, 0},
	{-longest, 0},
	{-1 << 32, 0},
	{-10, 0},
	{-1, 0},
	{0, 0},
	{1, 1},
	{9, 9},
	{10, 10},
	{50, 50},
	{1<<32 + 3, 1<<32 + 3},
	{longest - 1, longest - 1},
	{longest, longest},
	{longest + 1, longest + 1},
	{end - longest, end - longest},
	{end - 1, end - 1},
	{end, end},
	{end + 1, end},
	{end + 10, end},
	{end + longest, end},
	{2 * end, end},
	{highest - longest, end},
	{highest - 1, end},
	{highest, end},
}

// dues are numbers that a Due may be.
var dues = []int64{lowest, lowest + 1, -end, -longest, -10, -2, -1, 0, 1, 2, 10, 50, 1<<32 + 3, longest - 1, longest, longest + 1, end - 1, end, end + 1, end + 10, end + longest, 2 * end, highest - 1, highest}

// mostsNear are numbers that a Most may be beside a Base: those of the table, the ones near it, and near what it is when it is doubled so many times.
func mostsNear(base int64, tries int) []int64 {
	l := append([]int64{base - 1, base, base + 1}, mosts...)
	if doubled := new(big.Int).Lsh(number(base), uint(tries)); doubled.IsInt64() {
		x := doubled.Int64()
		l = append(l, x-1, x, x+1)
	}
	return l
}

func number(x int64) *big.Int { return big.NewInt(x) }

// between is the nearer end of a number that is out of bounds.
func between(x *big.Int, lo, hi int64) *big.Int {
	if x.Cmp(number(lo)) < 0 {
		return number(lo)
	}
	if x.Cmp(number(hi)) > 0 {
		return number(hi)
	}
	return x
}

// kept is a number within its ends, as the model keeps it.
func kept(x, lo, hi int64) int64 { return between(number(x), lo, hi).Int64() }

// modelWithin is a timer within its ends, as the chapter says them; Due as it was.
func modelWithin(x api.Timer) api.Timer {
	base := kept(x.Base, 1, longest)
	return api.Timer{Base: base, Most: kept(x.Most, base, longest), Tries: int(kept(int64(x.Tries), 0, 32)), Due: x.Due}
}

// modelWait is Wait as the chapter says it, by numbers without bounds.
func modelWait(x api.Timer) int64 {
	x = modelWithin(x)
	doubled := new(big.Int).Exp(number(2), number(int64(x.Tries)), nil)
	doubled.Mul(doubled, number(x.Base))
	if doubled.Cmp(number(x.Most)) > 0 {
		return x.Most
	}
	return doubled.Int64()
}

// modelArm is Arm as the chapter says it.
func modelArm(t *testing.T, x api.Timer, now int64) api.Timer {
	t.Helper()
	wait := number(modelWait(x))
	x = modelWithin(x)
	due := new(big.Int).Add(between(number(now), 0, end), wait)
	if !due.IsInt64() {
		t.Fatalf("%+v at %d: the model is beyond the ends", x, now)
	}
	x.Due = due.Int64()
	return x
}

// modelFire is Fire as the chapter says it.
func modelFire(t *testing.T, x api.Timer, now int64) (api.Timer, bool) {
	t.Helper()
	x = modelWithin(x)
	if x.Due < 0 || between(number(now), 0, end).Cmp(number(x.Due)) < 0 {
		return x, false
	}
	if x.Tries++; x.Tries > 32 {
		x.Tries = 32
	}
	return modelArm(t, x, now), true
}

// modelHeard is Heard as the chapter says it.
func modelHeard(t *testing.T, x api.Timer, base, now int64) api.Timer {
	t.Helper()
	return modelArm(t, api.Timer{Base: base, Most: x.Most, Due: x.Due}, now)
}

// is fails if a timer is another one.
func is(t *testing.T, got, want api.Timer) {
	t.Helper()
	if got != want {
		t.Errorf("got %+v, want %+v", got, want)
	}
}

// waits fails if a timer does not wait so long.
func waits(t *testing.T, x api.Timer, want int64) {
	t.Helper()
	if got := Wait(x); got != want {
		t.Errorf("%+v: waits %d, want %d", x, got, want)
	}
}

// fires fails if a timer does not go off, or is another one behind it.
func fires(t *testing.T, x api.Timer, now int64, want api.Timer) {
	t.Helper()
	if got, did := Fire(x, now); !did || got != want {
		t.Errorf("%+v at %d: got %+v, %v, want %+v", x, now, got, did, want)
	}
}

// stays fails if a timer goes off, or is another one behind it.
func stays(t *testing.T, x api.Timer, now int64, want api.Timer) {
	t.Helper()
	if got, did := Fire(x, now); did || got != want {
		t.Errorf("%+v at %d: got %+v, %v, want %+v", x, now, got, did, want)
	}
}

// timers are timers of all numbers of the tables, but for their Due.
func timers() []api.Timer {
	var l []api.Timer
	for _, b := range bases {
		for _, n := range tries {
			for _, m := range mostsNear(b.as, n.as) {
				l = append(l, api.Timer{Base: b.is, Most: m, Tries: n.is})
			}
		}
	}
	return l
}

// few are timers of some numbers, within their ends and beyond them, but for their Due.
func few() []api.Timer {
	return []api.Timer{
		{},
		{Base: 10, Most: 35},
		{Base: 10, Most: 35, Tries: 1},
		{Base: 10, Most: 35, Tries: 2},
		{Base: 10, Most: 35, Tries: 31},
		{Base: 10, Most: 35, Tries: 32},
		{Base: 10, Most: 35, Tries: 33},
		{Base: 10, Most: 35, Tries: -1},
		{Base: 10, Most: 9, Tries: 3},
		{Base: 10, Most: 10, Tries: 3},
		{Base: 1, Most: longest, Tries: 31},
		{Base: api.Second, Most: 60 * api.Second, Tries: 5},
		{Base: 1 << 18, Most: longest, Tries: 31},
		{Base: longest, Most: longest, Tries: 32},
		{Base: lowest, Most: lowest, Tries: math.MinInt},
		{Base: highest, Most: highest, Tries: math.MaxInt},
		{Base: lowest, Most: highest, Tries: math.MaxInt},
		{Base: highest, Most: lowest, Tries: math.MinInt},
	}
}

// due is a timer that goes off then.
func due(x api.Timer, at int64) api.Timer {
	x.Due = at
	return x
}

// anyNumber is one of any size, mostly not below 0.
func anyNumber(r *rand.Rand) int64 {
	x := int64(r.Uint64()>>1) >> r.Intn(63)
	if r.Intn(8) == 0 {
		return -x
	}
	return x
}

// anyTimer is one of any numbers.
func anyTimer(r *rand.Rand) api.Timer {
	x := api.Timer{Base: anyNumber(r), Most: anyNumber(r), Tries: r.Intn(40) - 3, Due: anyNumber(r)}
	if r.Intn(8) == 0 {
		x.Tries = int(r.Uint64())
	}
	return x
}

func TestTheExampleOfTheChapter(t *testing.T) {
	x := Arm(api.Timer{Base: 10, Most: 35}, 0)
	is(t, x, api.Timer{Base: 10, Most: 35, Due: 10})
	for i, to := range []int64{30, 65, 100, 135} {
		at := x.Due
		stays(t, x, at-1, x)
		fires(t, x, at, api.Timer{Base: 10, Most: 35, Tries: i + 1, Due: to})
		x, _ = Fire(x, at)
	}
}

// P22.1

func TestWait(t *testing.T) {
	for _, c := range []struct {
		base, most int64
		tries      int
		want       int64
	}{
		{10, 35, 0, 10},
		{10, 35, 1, 20},
		{10, 35, 2, 35},
		{10, 35, 3, 35},
		{10, 35, 31, 35},
		{10, 35, 32, 35},
		{10, 41, 2, 40}, // just below Most
		{10, 40, 2, 40}, // just Most
		{10, 39, 2, 39}, // just above it
		{10, 81, 3, 80},
		{10, 80, 3, 80},
		{10, 79, 3, 79},
		{10, 10, 0, 10}, // Most is just Base
		{10, 10, 1, 10},
		{10, 11, 0, 10}, // and one above it
		{10, 11, 1, 11},
		{10, 9, 0, 10}, // one below counts as Base
		{10, 9, 32, 10},
		{10, 0, 5, 10},
		{10, -1, 5, 10},
		{10, lowest, 5, 10},
		{10, longest, 5, 320},
		{10, longest + 1, 32, 10 << 32},
		{10, highest, 32, 10 << 32},
		{1, longest, 0, 1},
		{1, longest, 31, 1 << 31},
		{1, longest, 32, 1 << 32},
		{1, longest, 33, 1 << 32}, // Tries count as 32 at most
		{1, longest, 64, 1 << 32},
		{1, longest, 1 << 32, 1 << 32},
		{1, longest, math.MaxInt, 1 << 32},
		{1, longest, -1, 1}, // and as 0 at least
		{1, longest, -1 << 32, 1},
		{1, longest, math.MinInt, 1},
		{0, longest, 3, 8}, // a Base below 1 counts as 1
		{-1, longest, 3, 8},
		{-10, longest, 3, 8},
		{lowest, longest, 3, 8},
		{0, 0, 3, 1},
		{lowest, lowest, 32, 1},
		{lowest, highest, 32, 1 << 32},
		{lowest, highest, math.MaxInt, 1 << 32},
		{1 << 18, longest, 31, 1 << 49},
		{1 << 18, longest, 32, longest}, // just the greatest Most
		{1 << 18, longest - 1, 32, longest - 1},
		{1 << 18, highest, 32, longest},
		{1<<18 - 1, longest, 32, longest - 1<<32},
		{1<<18 + 1, longest, 32, longest},
		{1 << 31, longest, 31, longest},
		{1 << 31, longest, 32, longest}, // twice to the power of 63
		{1 << 32, longest, 32, longest}, // and of 64
		{1<<32 + 1, longest, 32, longest},
		{3 << 31, longest, 32, longest},
		{1 << 31, 1<<31 + 5, 32, 1<<31 + 5},
		{1 << 32, 1<<32 + 5, 32, 1<<32 + 5},
		{longest - 1, longest, 0, longest - 1},
		{longest - 1, longest, 1, longest},
		{longest, longest, 0, longest},
		{longest, longest, 13, longest},
		{longest, longest, 14, longest},
		{longest, longest, 32, longest},
		{longest, 1, 0, longest},
		{longest + 1, longest + 1, 0, longest}, // above MaxTicks both count as that
		{longest + 1, 1, 0, longest},
		{highest, lowest, 0, longest},
		{highest, highest, 32, longest},
	} {
		for _, d := range dues { // it does not hang on Due
			waits(t, api.Timer{Base: c.base, Most: c.most, Tries: c.tries, Due: d}, c.want)
		}
	}
}

func TestWaitOfAnyTimer(t *testing.T) {
	for _, x := range timers() {
		waits(t, x, modelWait(x))
	}
}

func TestWaitOfNumbersByChance(t *testing.T) {
	r := rand.New(rand.NewSource(22))
	for range 50000 {
		x := anyTimer(r)
		waits(t, x, modelWait(x))
	}
}

func TestWaitOfWhatIsOutOfBoundsIsThatOfTheNearerEnd(t *testing.T) {
	for _, b := range bases {
		for _, n := range tries {
			for _, m := range mostsNear(b.as, n.as) {
				as := api.Timer{Base: b.as, Most: min(max(m, b.as), longest), Tries: n.as}
				waits(t, api.Timer{Base: b.is, Most: m, Tries: n.is}, Wait(as))
			}
		}
	}
}

// P22.2

func TestArm(t *testing.T) {
	for _, c := range []struct {
		base, most int64
		tries      int
		now, want  int64
	}{
		{10, 35, 0, 0, 10},
		{10, 35, 1, 0, 20},
		{10, 35, 2, 0, 35},
		{10, 35, 0, 50, 60},
		{10, 35, 1, 50, 70},
		{10, 35, 0, -1, 10}, // a time below 0 counts as 0
		{10, 35, 0, -10, 10},
		{10, 35, 0, lowest, 10},
		{10, 35, 0, end - 11, end - 1},
		{10, 35, 0, end - 10, end},
		{10, 35, 0, end - 1, end + 9}, // what is told as Due is now and Wait, also beyond the latest time
		{10, 35, 0, end, end + 10},
		{10, 35, 0, end + 1, end + 10}, // one above 2^60 counts as that
		{10, 35, 0, 2 * end, end + 10},
		{10, 35, 0, highest, end + 10},
		{longest, longest, 0, 0, longest},
		{longest, longest, 32, end, end + longest},
		{longest, longest, 32, highest, end + longest},
		{1, longest, 32, highest, end + 1<<32},
		{1, 1, 0, 0, 1},
		{1, 1, 0, highest, end + 1},
	} {
		for _, d := range dues { // whatever its Due was
			x := api.Timer{Base: c.base, Most: c.most, Tries: c.tries, Due: d}
			is(t, Arm(x, c.now), due(x, c.want))
		}
	}
}

func TestArmTellsATimerWithinItsEnds(t *testing.T) {
	for _, b := range bases {
		for _, n := range tries {
			for _, m := range mostsNear(b.as, n.as) {
				as := api.Timer{Base: b.as, Most: min(max(m, b.as), longest), Tries: n.as}
				got := Arm(api.Timer{Base: b.is, Most: m, Tries: n.is}, 50)
				is(t, got, due(as, 50+Wait(as)))
			}
		}
	}
}

func TestArmAtAnyTime(t *testing.T) {
	for _, x := range few() {
		for _, c := range times {
			for _, d := range dues {
				got := Arm(due(x, d), c.is)
				is(t, got, modelArm(t, x, c.is))
				is(t, got, Arm(x, c.as))
				if got.Due-c.as != Wait(x) {
					t.Errorf("%+v at %d: got %+v, which is no wait of %d", x, c.is, got, Wait(x))
				}
			}
		}
	}
}

func TestArmAgain(t *testing.T) {
	x := Arm(api.Timer{Base: 10, Most: 35, Tries: 1}, 100)
	is(t, Arm(x, 103), due(x, 123)) // it waits anew, and no longer
	is(t, Arm(x, 7), due(x, 27))    // also from an earlier time
	is(t, Arm(x, 100), x)
}

func TestOff(t *testing.T) {
	for _, b := range bases {
		for _, n := range tries {
			for _, m := range mostsNear(b.as, n.as) {
				got := Off(api.Timer{Base: b.is, Most: m, Tries: n.is, Due: 7})
				is(t, got, api.Timer{Base: b.as, Most: min(max(m, b.as), longest), Tries: n.as, Due: -1})
			}
		}
	}
	for _, d := range dues { // whatever its Due was
		is(t, Off(api.Timer{Base: 10, Most: 35, Tries: 3, Due: d}), api.Timer{Base: 10, Most: 35, Tries: 3, Due: -1})
	}
	is(t, Off(api.Timer{}), api.Timer{Base: 1, Most: 1, Due: -1})
	is(t, Off(api.Timer{Base: -4, Most: -9, Tries: 99}), api.Timer{Base: 1, Most: 1, Tries: 32, Due: -1})
}

func TestATimerThatIsOffNeverGoesOff(t *testing.T) {
	for _, x := range few() {
		for _, at := range times {
			off := Off(Arm(x, at.is))
			for _, now := range times {
				stays(t, off, now.is, off)
			}
			is(t, Off(off), off)
			is(t, Arm(off, at.is), Arm(x, at.is)) // it is as it was when it is armed again
		}
	}
}

// P22.3

func TestFire(t *testing.T) {
	x := api.Timer{Base: 10, Most: 35, Tries: 1, Due: 50}
	stays(t, x, lowest, x)
	stays(t, x, -1, x)
	stays(t, x, 0, x)
	stays(t, x, 48, x)
	stays(t, x, 49, x)                                                       // one below Due
	fires(t, x, 50, api.Timer{Base: 10, Most: 35, Tries: 2, Due: 85})        // just Due
	fires(t, x, 51, api.Timer{Base: 10, Most: 35, Tries: 2, Due: 86})        // one above it: now and Wait, not Due and Wait
	fires(t, x, 1000, api.Timer{Base: 10, Most: 35, Tries: 2, Due: 1035})    // far behind
	fires(t, x, end, api.Timer{Base: 10, Most: 35, Tries: 2, Due: end + 35}) // at the latest time
	fires(t, x, end+7, api.Timer{Base: 10, Most: 35, Tries: 2, Due: end + 35})
	fires(t, x, highest, api.Timer{Base: 10, Most: 35, Tries: 2, Due: end + 35})
}

func TestFireByDue(t *testing.T) {
	for _, c := range []struct {
		due, now int64
		goes     bool
		to       int64
	}{
		{-1, 0, false, -1}, // below 0 it is off
		{-1, -1, false, -1},
		{-1, highest, false, -1},
		{-2, -1, false, -2},
		{-2, 50, false, -2},
		{-10, highest, false, -10},
		{lowest, lowest, false, lowest},
		{lowest, 0, false, lowest},
		{lowest, highest, false, lowest},
		{0, 0, true, 20},
		{0, 1, true, 21},
		{0, -1, true, 20}, // a time below 0 counts as 0
		{0, lowest, true, 20},
		{1, 0, false, 1},
		{1, -1, false, 1},
		{1, lowest, false, 1},
		{1, 1, true, 21},
		{1, 2, true, 22},
		{longest, longest - 1, false, longest},
		{longest, longest, true, longest + 20},
		{longest, longest + 1, true, longest + 21},
		{end - 1, end - 2, false, end - 1},
		{end - 1, end - 1, true, end + 19},
		{end - 1, end, true, end + 20},
		{end, end - 1, false, end},
		{end, end, true, end + 20},
		{end, end + 1, true, end + 20}, // a time above 2^60 counts as that
		{end, highest, true, end + 20},
		{end + 1, end, false, end + 1}, // no time is as late as that
		{end + 1, end + 1, false, end + 1},
		{end + 1, highest, false, end + 1},
		{end + longest, highest, false, end + longest},
		{highest, highest - 1, false, highest},
		{highest, highest, false, highest},
	} {
		x := api.Timer{Base: 10, Most: 35, Due: c.due}
		if c.goes {
			fires(t, x, c.now, api.Timer{Base: 10, Most: 35, Tries: 1, Due: c.to})
		} else {
			stays(t, x, c.now, api.Timer{Base: 10, Most: 35, Due: c.to})
		}
	}
}

func TestFireAtNumbersOfTries(t *testing.T) {
	for _, c := range []struct {
		tries, to int
		wait      int64
	}{
		{math.MinInt, 1, 6},
		{-1 << 32, 1, 6},
		{-2, 1, 6}, // below 0 they count as 0, and then are one more
		{-1, 1, 6},
		{0, 1, 6},
		{1, 2, 12},
		{2, 3, 24},
		{29, 30, 3 << 30},
		{30, 31, 3 << 31},
		{31, 32, 3 << 32},
		{32, 32, 3 << 32}, // 32 at most
		{33, 32, 3 << 32},
		{34, 32, 3 << 32},
		{1 << 32, 32, 3 << 32},
		{math.MaxInt - 1, 32, 3 << 32},
		{math.MaxInt, 32, 3 << 32},
	} {
		fires(t, api.Timer{Base: 3, Most: longest, Tries: c.tries, Due: 70}, 100, api.Timer{Base: 3, Most: longest, Tries: c.to, Due: 100 + c.wait})
	}
}

func TestWhatElseIsToldWhereItDoesNotGoOff(t *testing.T) {
	for _, b := range bases {
		for _, n := range tries {
			for _, m := range mostsNear(b.as, n.as) {
				as := api.Timer{Base: b.as, Most: min(max(m, b.as), longest), Tries: n.as}
				is := api.Timer{Base: b.is, Most: m, Tries: n.is}
				stays(t, due(is, 50), 49, due(as, 50)) // within its ends, and Tries are no more
				stays(t, due(is, -7), 49, due(as, -7)) // Due as it was
				stays(t, due(is, lowest), highest, due(as, lowest))
				stays(t, due(is, end+1), highest, due(as, end+1))
				stays(t, due(is, highest), highest, due(as, highest))
			}
		}
	}
}

func TestWhatElseIsToldWhereItGoesOff(t *testing.T) {
	for _, b := range bases {
		for _, n := range tries {
			for _, m := range mostsNear(b.as, n.as) {
				as := api.Timer{Base: b.as, Most: min(max(m, b.as), longest), Tries: min(n.as+1, 32)}
				fires(t, api.Timer{Base: b.is, Most: m, Tries: n.is, Due: 50}, 60, due(as, 60+Wait(as)))
			}
		}
	}
}

func TestFireOfAnyTimerAtAnyTime(t *testing.T) {
	for _, x := range few() {
		for _, d := range dues {
			x.Due = d
			for _, c := range times {
				got, did := Fire(x, c.is)
				want, does := modelFire(t, x, c.is)
				if got != want || did != does {
					t.Fatalf("%+v at %d: got %+v, %v, want %+v, %v", x, c.is, got, did, want, does)
				}
				as, also := Fire(x, c.as)
				if got != as || did != also {
					t.Fatalf("%+v: got %+v, %v at %d, and %+v, %v at %d", x, got, did, c.is, as, also, c.as)
				}
			}
		}
	}
}

func TestFireOfNumbersByChance(t *testing.T) {
	r := rand.New(rand.NewSource(223))
	for range 50000 {
		x, now := anyTimer(r), anyNumber(r)
		if r.Intn(3) == 0 {
			now = x.Due + r.Int63n(3) - 1
		}
		got, did := Fire(x, now)
		want, does := modelFire(t, x, now)
		if got != want || did != does {
			t.Fatalf("%+v at %d: got %+v, %v, want %+v, %v", x, now, got, did, want, does)
		}
	}
}

func TestATimerThatGoesOffFortyTimes(t *testing.T) {
	for _, from := range few() {
		for _, late := range []int64{0, 1, 1000} { // behind Due
			x := Arm(from, 5)
			for i := range 40 {
				if want := min(int(kept(int64(from.Tries), 0, 32))+i, 32); x.Tries != want {
					t.Fatalf("%+v: off %d times, and Tries are %d", from, i, x.Tries)
				}
				now := x.Due + late
				for _, early := range []int64{0, x.Due - Wait(x), x.Due - 1} {
					stays(t, x, early, x)
				}
				want, _ := modelFire(t, x, now)
				fires(t, x, now, want)
				x, _ = Fire(x, now)
				if x.Due != now+Wait(x) {
					t.Fatalf("%+v: got %+v at %d", from, x, now)
				}
			}
			if x.Tries != 32 {
				t.Errorf("%+v: got %+v", from, x)
			}
		}
	}
}

func TestWhenATimerGoesOffFortyTimes(t *testing.T) {
	x := Arm(api.Timer{Base: 1, Most: 1 << 35}, 0)
	at := int64(0)
	for i := range 40 {
		at += 1 << min(i, 32)
		stays(t, x, at-1, x)
		fires(t, x, at, api.Timer{Base: 1, Most: 1 << 35, Tries: min(i+1, 32), Due: at + 1<<min(i+1, 32)})
		x, _ = Fire(x, at)
	}
	x = Arm(api.Timer{Base: 3, Most: 50}, 0)
	at = 0
	for i := range 40 {
		at += []int64{3, 6, 12, 24, 48, 50}[min(i, 5)] // Most, from there on
		stays(t, x, at-1, x)
		fires(t, x, at, api.Timer{Base: 3, Most: 50, Tries: min(i+1, 32), Due: at + []int64{3, 6, 12, 24, 48, 50}[min(i+1, 5)]})
		x, _ = Fire(x, at)
	}
}

// P22.4

func TestHeard(t *testing.T) {
	for _, c := range []struct {
		base, now, toBase, toMost, toDue int64
	}{
		{7, 50, 7, 35, 57},
		{10, 50, 10, 35, 60},
		{11, 50, 11, 35, 61}, // above the Base that it had
		{34, 50, 34, 35, 84},
		{35, 50, 35, 35, 85}, // just Most
		{36, 50, 36, 36, 86}, // above it: Most is not below Base
		{1000, 50, 1000, 1000, 1050},
		{longest, 50, longest, longest, 50 + longest},
		{longest + 1, 50, longest, longest, 50 + longest},
		{highest, 50, longest, longest, 50 + longest},
		{1, 50, 1, 35, 51},
		{0, 50, 1, 35, 51},
		{-1, 50, 1, 35, 51},
		{-7, 50, 1, 35, 51},
		{lowest, 50, 1, 35, 51},
		{7, 0, 7, 35, 7},
		{7, -1, 7, 35, 7},
		{7, lowest, 7, 35, 7},
		{7, end, 7, 35, end + 7},
		{7, end + 1, 7, 35, end + 7},
		{7, highest, 7, 35, end + 7},
		{highest, highest, longest, longest, end + longest},
		{lowest, lowest, 1, 35, 1},
	} {
		want := api.Timer{Base: c.toBase, Most: c.toMost, Due: c.toDue}
		for _, n := range tries { // however often it went off
			for _, d := range dues { // and whatever its Due was
				is(t, Heard(api.Timer{Base: 10, Most: 35, Tries: n.is, Due: d}, c.base, c.now), want)
			}
		}
	}
}

func TestHeardHangsOnNoBaseThatItHad(t *testing.T) {
	for _, b := range bases {
		x := api.Timer{Base: b.is, Most: 35, Tries: 4, Due: 99}
		is(t, Heard(x, 7, 50), api.Timer{Base: 7, Most: 35, Due: 57})
		is(t, Heard(x, 40, 50), api.Timer{Base: 40, Most: 40, Due: 90})
	}
}

func TestHeardByMost(t *testing.T) {
	for _, c := range []struct{ most, toMost int64 }{
		{lowest, 7},
		{-1, 7},
		{0, 7},
		{6, 7},
		{7, 7},
		{8, 8},
		{9, 9}, // below the Base that it had
		{10, 10},
		{35, 35},
		{longest, longest},
		{longest + 1, longest},
		{highest, longest},
	} {
		is(t, Heard(api.Timer{Base: 10, Most: c.most, Tries: 2}, 7, 50), api.Timer{Base: 7, Most: c.toMost, Due: 57})
	}
}

func TestHeardOfAnyTimer(t *testing.T) {
	for _, x := range few() {
		for _, b := range bases {
			for _, at := range times {
				got := Heard(due(x, 9), b.is, at.is)
				is(t, got, modelHeard(t, x, b.is, at.is))
				if got.Tries != 0 || got.Base != b.as || got.Due != at.as+b.as {
					t.Errorf("%+v, %d at %d: got %+v", x, b.is, at.is, got)
				}
			}
		}
	}
}

func TestHeardOfNumbersByChance(t *testing.T) {
	r := rand.New(rand.NewSource(224))
	for range 50000 {
		x, base, now := anyTimer(r), anyNumber(r), anyNumber(r)
		is(t, Heard(x, base, now), modelHeard(t, x, base, now))
	}
}

func TestHeardBetweenTimesThatItGoesOff(t *testing.T) {
	x := Arm(api.Timer{Base: 10, Most: 35}, 0)
	x, _ = Fire(x, 10)
	x, _ = Fire(x, 30)
	x = Heard(x, 10, 31)
	is(t, x, api.Timer{Base: 10, Most: 35, Due: 41}) // as if it never went off
	fires(t, x, 41, api.Timer{Base: 10, Most: 35, Tries: 1, Due: 61})
	x = Heard(Off(x), 12, 45)
	is(t, x, api.Timer{Base: 12, Most: 35, Due: 57}) // one that was off is armed
	fires(t, x, 57, api.Timer{Base: 12, Most: 35, Tries: 1, Due: 81})
	x = Heard(Heard(x, 50, 60), 10, 70)
	is(t, x, api.Timer{Base: 10, Most: 50, Due: 80}) // a Most that rose with a base stays
}

// P22.5

func TestWaitNeverFallsAsTriesRise(t *testing.T) {
	for _, b := range bases {
		for _, m := range append(mostsNear(b.as, 5), mostsNear(b.as, 31)...) {
			x := api.Timer{Base: b.is, Most: m}
			most := min(max(m, b.as), longest)
			was := b.as
			for n := -3; n <= 70; n++ { // each number of Tries, one behind the other
				x.Tries = n
				got := Wait(x)
				if got < was || got < b.as || got > most {
					t.Fatalf("%+v: waits %d, and %d with one less", x, got, was)
				}
				if n <= 0 && got != b.as {
					t.Fatalf("%+v: waits %d", x, got)
				}
				if n > 0 && n <= 32 && got != min(2*was, most) {
					t.Fatalf("%+v: waits %d, and %d with one less", x, got, was)
				}
				if n > 32 && got != was {
					t.Fatalf("%+v: waits %d, and %d with 32", x, got, was)
				}
				was = got
			}
		}
	}
}

func TestWaitLiesBetweenBaseAndMost(t *testing.T) {
	for _, x := range timers() {
		told := Off(x)
		if got := Wait(x); got < told.Base || got > told.Most {
			t.Errorf("%+v: waits %d, which is not from %d to %d", x, got, told.Base, told.Most)
		}
	}
}

func TestWaitNeverFallsOfNumbersByChance(t *testing.T) {
	r := rand.New(rand.NewSource(225))
	for range 20000 {
		x := anyTimer(r)
		y := x
		y.Tries = int(r.Uint64()) >> r.Intn(64)
		if x.Tries > y.Tries {
			x, y = y, x
		}
		if Wait(x) > Wait(y) {
			t.Fatalf("%+v waits %d, and %+v %d", x, Wait(x), y, Wait(y))
		}
	}
}

// A timer is a value.

func TestWhatIsHandedInStays(t *testing.T) {
	for _, x := range few() {
		for _, d := range dues {
			x.Due = d
			was := x
			Wait(x)
			Arm(x, 5)
			Off(x)
			Fire(x, highest)
			Heard(x, 7, 50)
			is(t, x, was)
		}
	}
}

func TestTheSameIsAnsweredTheSame(t *testing.T) {
	r := rand.New(rand.NewSource(226))
	for range 5000 {
		x, other, base, now := anyTimer(r), anyTimer(r), anyNumber(r), anyNumber(r)
		wait, armed, off, heard := Wait(x), Arm(x, now), Off(x), Heard(x, base, now)
		fired, did := Fire(x, now)
		Arm(other, base) // another timer does not matter
		Fire(other, now)
		Heard(other, now, base)
		waits(t, x, wait)
		is(t, Arm(x, now), armed)
		is(t, Off(x), off)
		is(t, Heard(x, base, now), heard)
		if got, again := Fire(x, now); got != fired || again != did {
			t.Fatalf("%+v at %d: got %+v, %v, then %+v, %v", x, now, fired, did, got, again)
		}
	}
}

func TestWhatIsToldIsWithinItsEndsAlready(t *testing.T) {
	r := rand.New(rand.NewSource(227))
	within := func(x, told api.Timer) {
		t.Helper()
		if told != modelWithin(told) {
			t.Fatalf("%+v: got %+v", x, told)
		}
	}
	for range 20000 {
		x, base, now := anyTimer(r), anyNumber(r), anyNumber(r)
		fired, _ := Fire(x, now)
		within(x, fired)
		within(x, Arm(x, now))
		within(x, Off(x))
		within(x, Heard(x, base, now))
		is(t, Arm(Off(x), now), Arm(x, now)) // so its numbers count as they did
		waits(t, Off(x), Wait(x))
	}
}
