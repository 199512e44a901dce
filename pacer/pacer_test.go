package pacer

import (
	"math"
	"math/big"
	"math/rand"
	"testing"

	"leat/api"
)

const (
	least    = math.MinInt64
	greatest = math.MaxInt64
	fastest  = 1 << 40  // the greatest Rate and Burst
	deepest  = -1 << 61 // the lowest Level
	latest   = 1 << 50  // of times, which begin at 0
	second   = 1000000
	one      = 1 << 20
)

// rates are numbers that a Rate, or a Burst, may be, with what each counts as.
var rates = []struct{ is, as int64 }{
	{least, 1},
	{least + 1, 1},
	{deepest, 1},
	{-fastest, 1},
	{-1, 1},
	{0, 1},
	{1, 1},
	{2, 2},
	{3, 3},
	{10, 10},
	{1500, 1500},
	{second - 1, second - 1},
	{second, second},
	{second + 1, second + 1},
	{1<<32 + 3, 1<<32 + 3},
	{fastest - 1, fastest - 1},
	{fastest, fastest},
	{fastest + 1, fastest},
	{2 * fastest, fastest},
	{greatest - 1, fastest},
	{greatest, fastest},
}

// times are numbers that a time may be, with what each counts as.
var times = []struct{ is, as int64 }{
	{least, 0},
	{least + 1, 0},
	{-latest, 0},
	{-1 << 32, 0},
	{-7, 0},
	{-1, 0},
	{0, 0},
	{1, 1},
	{5, 5},
	{99, 99},
	{100, 100},
	{101, 101},
	{3333334, 3333334},
	{1<<32 + 3, 1<<32 + 3},
	{latest - 1, latest - 1},
	{latest, latest},
	{latest + 1, latest},
	{2 * latest, latest},
	{greatest - 1, latest},
	{greatest, latest},
}

// levelsOf are numbers that a Level may be, of a Burst that counts as itself.
func levelsOf(burst int64) []int64 {
	full := burst * second
	return []int64{least, least + 1, 2 * deepest, deepest - 1, deepest, deepest + 1, -full - 1, -full, -second, -1, 0, 1, second - 1, second, full / 2, full - 1, full, full + 1, full + second, 1 << 61, greatest - 1, greatest}
}

// sizesOf are numbers that a size may be, of a Burst that counts as itself.
func sizesOf(burst int64) []int64 {
	return []int64{least, least + 1, -fastest, -burst, -2, -1, 0, 1, 2, burst / 2, burst - 1, burst, burst + 1, 2 * burst, 2 * fastest, greatest - 1, greatest}
}

func number(x int64) *big.Int { return big.NewInt(x) }

func product(a, b *big.Int) *big.Int { return new(big.Int).Mul(a, b) }

// kept is a number within its ends, as the model keeps it.
func kept(x, lo, hi int64) int64 {
	if x < lo {
		return lo
	}
	if x > hi {
		return hi
	}
	return x
}

// modelWithin is a bucket within its ends, as the chapter says them.
func modelWithin(p api.Pacer) api.Pacer {
	burst := kept(p.Burst, 1, fastest)
	return api.Pacer{Rate: kept(p.Rate, 1, fastest), Burst: burst, Level: kept(p.Level, deepest, burst*second), At: kept(p.At, 0, latest)}
}

// levelAt is the level, filled, of a bucket within its ends at any time, by numbers without bounds.
func levelAt(p api.Pacer, at int64) *big.Int {
	level := number(p.Level)
	if at <= p.At {
		return level
	}
	ticks := new(big.Int).Sub(number(at), number(p.At))
	level.Add(level, product(number(p.Rate), ticks))
	if full := product(number(p.Burst), number(second)); level.Cmp(full) > 0 {
		return full
	}
	return level
}

// modelFill is Fill as the chapter says it.
func modelFill(p api.Pacer, now int64) api.Pacer {
	p, now = modelWithin(p), kept(now, 0, latest)
	p.Level = levelAt(p, now).Int64()
	p.At = max(p.At, now)
	return p
}

// need is how much level a size takes, of a bucket within its ends.
func need(p api.Pacer, size int64) *big.Int {
	return product(number(kept(size, 0, p.Burst)), number(second))
}

// modelSpend is Spend as the chapter says it.
func modelSpend(p api.Pacer, now, size int64) api.Pacer {
	p = modelFill(p, now)
	level := new(big.Int).Sub(number(p.Level), need(p, size))
	if level.Cmp(number(deepest)) < 0 {
		level = number(deepest)
	}
	p.Level = level.Int64()
	return p
}

// isFirst tells whether a time is the first one from now on, and from At on, at which a size may go.
func isFirst(p api.Pacer, now, size, at int64) bool {
	p, now = modelWithin(p), kept(now, 0, latest)
	may := func(at int64) bool { return levelAt(p, at).Cmp(need(p, size)) >= 0 }
	from := max(now, p.At)
	return at == from && may(at) || at > from && may(at) && !may(at-1)
}

// modelRate is Rate as the chapter says it, by numbers without bounds.
func modelRate(cwnd, srtt, gain int64) int64 {
	x := product(number(kept(cwnd, 0, 1<<30)), number(second))
	x.Div(x, number(kept(srtt, 1, 1<<50)))
	x.Mul(x, number(kept(gain, 0, 16*one)))
	x.Div(x, number(one))
	if x.Cmp(number(fastest)) > 0 {
		return fastest
	}
	return max(x.Int64(), 1)
}

// is fails if a bucket is another one.
func is(t *testing.T, got, want api.Pacer) {
	t.Helper()
	if got != want {
		t.Errorf("got %+v, want %+v", got, want)
	}
}

// fills fails if a bucket, filled, is another one.
func fills(t *testing.T, p api.Pacer, now int64, want api.Pacer) {
	t.Helper()
	if got := Fill(p, now); got != want {
		t.Errorf("%+v at %d: got %+v, want %+v", p, now, got, want)
	}
}

// goes fails if a size may not go just then.
func goes(t *testing.T, p api.Pacer, now, size, want int64) {
	t.Helper()
	if got := When(p, now, size); got != want {
		t.Errorf("%+v at %d, of %d: got %d, want %d", p, now, size, got, want)
	}
}

// spends fails if a bucket, spent, is another one.
func spends(t *testing.T, p api.Pacer, now, size int64, want api.Pacer) {
	t.Helper()
	if got := Spend(p, now, size); got != want {
		t.Errorf("%+v at %d, of %d: got %+v, want %+v", p, now, size, got, want)
	}
}

// comes fails if a rate is another one.
func comes(t *testing.T, cwnd, srtt, gain, want int64) {
	t.Helper()
	if got := Rate(cwnd, srtt, gain); got != want {
		t.Errorf("%d by %d, gain %d: got %d, want %d", cwnd, srtt, gain, got, want)
	}
}

// few are buckets of some numbers, within their ends and beyond them.
func few() []api.Pacer {
	return []api.Pacer{
		{},
		{Rate: second, Burst: 10},
		{Rate: 3, Burst: 10, At: 100},
		{Rate: 3, Burst: 10, Level: 7 * second, At: 100},
		{Rate: 3, Burst: 10, Level: -7*second - 1, At: 100},
		{Rate: 3, Burst: 10, Level: 10 * second, At: latest},
		{Rate: 7, Burst: 1500, Level: deepest, At: 5},
		{Rate: 1, Burst: 1, Level: second, At: 0},
		{Rate: 1, Burst: fastest, Level: deepest, At: latest},
		{Rate: fastest, Burst: 1, Level: deepest, At: 0},
		{Rate: fastest, Burst: fastest, Level: deepest, At: 1},
		{Rate: fastest, Burst: fastest, Level: fastest * second, At: latest - 1},
		{Rate: least, Burst: least, Level: least, At: least},
		{Rate: greatest, Burst: greatest, Level: greatest, At: greatest},
		{Rate: least, Burst: greatest, Level: least, At: greatest},
		{Rate: greatest, Burst: least, Level: greatest, At: least},
		{Rate: greatest, Burst: greatest, Level: least, At: least},
	}
}

// everyBucket goes through buckets of all numbers of the tables, each with itself within its ends.
func everyBucket(yield func(is, as api.Pacer)) {
	for _, r := range rates {
		for _, b := range rates {
			for _, l := range levelsOf(b.as) {
				for _, at := range times {
					level := kept(l, deepest, b.as*second)
					yield(api.Pacer{Rate: r.is, Burst: b.is, Level: l, At: at.is}, api.Pacer{Rate: r.as, Burst: b.as, Level: level, At: at.as})
				}
			}
		}
	}
}

// anyNumber is one of any size, mostly not below 0.
func anyNumber(r *rand.Rand) int64 {
	x := int64(r.Uint64()>>1) >> r.Intn(63)
	if r.Intn(5) == 0 {
		return -x
	}
	return x
}

// anyBucket is one of any numbers.
func anyBucket(r *rand.Rand) api.Pacer {
	return api.Pacer{Rate: anyNumber(r), Burst: anyNumber(r), Level: anyNumber(r), At: anyNumber(r)}
}

// nearby is a time near that of a bucket, or any.
func nearby(r *rand.Rand, p api.Pacer) int64 {
	switch r.Intn(3) {
	case 0:
		return p.At + r.Int63n(5) - 2
	case 1:
		return kept(p.At, 0, latest) + r.Int63n(10*second)
	}
	return anyNumber(r)
}

func TestTheExampleOfTheChapter(t *testing.T) {
	p := api.Pacer{Rate: api.Second, Burst: 10}
	goes(t, p, 0, 4, 4)
	goes(t, p, 0, 0, 0)
	goes(t, p, 0, 10, 10)
	spends(t, p, 4, 4, api.Pacer{Rate: api.Second, Burst: 10, At: 4})
}

// P23.1

func TestFill(t *testing.T) {
	for _, c := range []struct {
		p         api.Pacer
		now       int64
		level, at int64
	}{
		{api.Pacer{Rate: 3, Burst: 10, Level: 50, At: 100}, 99, 50, 100},  // one below At
		{api.Pacer{Rate: 3, Burst: 10, Level: 50, At: 100}, 100, 50, 100}, // just At
		{api.Pacer{Rate: 3, Burst: 10, Level: 50, At: 100}, 101, 53, 101}, // one above it
		{api.Pacer{Rate: 3, Burst: 10, Level: 50, At: 100}, 102, 56, 102},
		{api.Pacer{Rate: 3, Burst: 10, Level: 50, At: 100}, 1100, 3050, 1100},
		{api.Pacer{Rate: 3, Burst: 10, Level: 50, At: 100}, 0, 50, 100},
		{api.Pacer{Rate: 3, Burst: 10, Level: 50, At: 100}, -1, 50, 100},
		{api.Pacer{Rate: 3, Burst: 10, Level: 50, At: 100}, least, 50, 100},
		{api.Pacer{Rate: 3, Burst: 10, Level: 50, At: 0}, -1, 50, 0}, // a time below 0 counts as 0
		{api.Pacer{Rate: 3, Burst: 10, Level: 50, At: -9}, -1, 50, 0},
		{api.Pacer{Rate: 3, Burst: 10, Level: 50, At: -9}, 0, 50, 0},
		{api.Pacer{Rate: 3, Burst: 10, Level: 50, At: -9}, 1, 53, 1},
		{api.Pacer{Rate: 3, Burst: 10, Level: 50, At: least}, 1, 53, 1},
		{api.Pacer{Rate: 1, Burst: 1, Level: 0, At: 0}, second - 1, second - 1, second - 1}, // just short of full
		{api.Pacer{Rate: 1, Burst: 1, Level: 0, At: 0}, second, second, second},             // just full
		{api.Pacer{Rate: 1, Burst: 1, Level: 0, At: 0}, second + 1, second, second + 1},     // no more than that
		{api.Pacer{Rate: 3, Burst: 10, Level: 0, At: 0}, 3333333, 9999999, 3333333},
		{api.Pacer{Rate: 3, Burst: 10, Level: 1, At: 0}, 3333333, 10000000, 3333333},
		{api.Pacer{Rate: 3, Burst: 10, Level: 0, At: 0}, 3333334, 10000000, 3333334},
		{api.Pacer{Rate: 3, Burst: 10, Level: 10000000, At: 0}, 77, 10000000, 77}, // a full one stays full, and At goes on
		{api.Pacer{Rate: 3, Burst: 10, Level: 9999999, At: 0}, 77, 10000000, 77},
		{api.Pacer{Rate: 3, Burst: 10, Level: -231, At: 0}, 76, -3, 76},
		{api.Pacer{Rate: 3, Burst: 10, Level: -231, At: 0}, 77, 0, 77},
		{api.Pacer{Rate: 3, Burst: 10, Level: 0, At: 0}, latest, 10000000, latest},
		{api.Pacer{Rate: 3, Burst: 10, Level: 0, At: 0}, greatest, 10000000, latest}, // a time above 2^50 counts as that
		{api.Pacer{Rate: 3, Burst: 10, Level: 0, At: latest - 1}, latest, 3, latest},
		{api.Pacer{Rate: 3, Burst: 10, Level: 0, At: latest - 1}, latest + 1, 3, latest},
		{api.Pacer{Rate: 3, Burst: 10, Level: 0, At: latest - 1}, greatest, 3, latest},
		{api.Pacer{Rate: 3, Burst: 10, Level: 5, At: latest}, latest + 1, 5, latest},
		{api.Pacer{Rate: 3, Burst: 10, Level: 5, At: latest + 1}, greatest, 5, latest},
		{api.Pacer{Rate: 3, Burst: 10, Level: 5, At: greatest}, latest, 5, latest},
		{api.Pacer{Rate: fastest, Burst: fastest, Level: 0, At: 0}, second - 1, fastest * (second - 1), second - 1},
		{api.Pacer{Rate: fastest, Burst: fastest, Level: 0, At: 0}, second, fastest * second, second},
		{api.Pacer{Rate: fastest, Burst: fastest, Level: 0, At: 0}, latest, fastest * second, latest},       // far beyond int64
		{api.Pacer{Rate: fastest, Burst: fastest, Level: deepest, At: 0}, latest, fastest * second, latest}, // also from there
		{api.Pacer{Rate: fastest, Burst: fastest, Level: deepest, At: 0}, 1 << 21, 0, 1 << 21},
		{api.Pacer{Rate: fastest, Burst: fastest, Level: deepest, At: 0}, 1<<21 - 1, -fastest, 1<<21 - 1},
		{api.Pacer{Rate: fastest, Burst: fastest, Level: deepest, At: 0}, 1<<21 + 1, fastest, 1<<21 + 1},
		{api.Pacer{Rate: fastest, Burst: 1, Level: 0, At: 0}, 1, second, 1},
		{api.Pacer{Rate: fastest, Burst: 1, Level: 0, At: 0}, 1 << 23, second, 1 << 23}, // twice to the power of 63
		{api.Pacer{Rate: fastest, Burst: 1, Level: 0, At: 0}, 1 << 24, second, 1 << 24}, // and of 64
		{api.Pacer{Rate: fastest, Burst: 1, Level: 0, At: 0}, 3 << 23, second, 3 << 23},
		{api.Pacer{Rate: 1, Burst: fastest, Level: deepest, At: 0}, latest, deepest + latest, latest},
	} {
		fills(t, c.p, c.now, api.Pacer{Rate: c.p.Rate, Burst: c.p.Burst, Level: c.level, At: c.at})
	}
}

func TestFillOfNumbersBeyondTheirEnds(t *testing.T) {
	for _, c := range []struct {
		p    api.Pacer
		now  int64
		want api.Pacer
	}{
		{api.Pacer{}, 0, api.Pacer{Rate: 1, Burst: 1}},
		{api.Pacer{}, 7, api.Pacer{Rate: 1, Burst: 1, Level: 7, At: 7}},
		{api.Pacer{Rate: -5, Burst: -5}, 7, api.Pacer{Rate: 1, Burst: 1, Level: 7, At: 7}},
		{api.Pacer{Rate: fastest + 1, Burst: fastest + 1}, 7, api.Pacer{Rate: fastest, Burst: fastest, Level: 7 * fastest, At: 7}},
		{api.Pacer{Rate: 3, Burst: 10, Level: 10*second + 1}, 0, api.Pacer{Rate: 3, Burst: 10, Level: 10 * second}},
		{api.Pacer{Rate: 3, Burst: 10, Level: greatest}, 7, api.Pacer{Rate: 3, Burst: 10, Level: 10 * second, At: 7}},
		{api.Pacer{Rate: 3, Burst: 0, Level: greatest}, 7, api.Pacer{Rate: 3, Burst: 1, Level: second, At: 7}},
		{api.Pacer{Rate: 3, Burst: greatest, Level: greatest}, 7, api.Pacer{Rate: 3, Burst: fastest, Level: fastest * second, At: 7}},
		{api.Pacer{Rate: 3, Burst: 10, Level: deepest - 1}, 0, api.Pacer{Rate: 3, Burst: 10, Level: deepest}},
		{api.Pacer{Rate: 3, Burst: 10, Level: deepest - 1}, 7, api.Pacer{Rate: 3, Burst: 10, Level: deepest + 21, At: 7}},
		{api.Pacer{Rate: 3, Burst: 10, Level: least}, 7, api.Pacer{Rate: 3, Burst: 10, Level: deepest + 21, At: 7}},
		{api.Pacer{Rate: least, Burst: least, Level: least, At: least}, least, api.Pacer{Rate: 1, Burst: 1, Level: deepest}},
		{api.Pacer{Rate: greatest, Burst: greatest, Level: greatest, At: greatest}, greatest, api.Pacer{Rate: fastest, Burst: fastest, Level: fastest * second, At: latest}},
		{api.Pacer{Rate: greatest, Burst: greatest, Level: least, At: least}, greatest, api.Pacer{Rate: fastest, Burst: fastest, Level: fastest * second, At: latest}},
	} {
		fills(t, c.p, c.now, c.want)
	}
}

func TestFillOfAnyBucket(t *testing.T) {
	everyBucket(func(is, as api.Pacer) {
		if got := Fill(is, least); got != as { // no time is later: it is as it was, within its ends
			t.Fatalf("%+v: got %+v, want %+v", is, got, as)
		}
		for _, now := range []int64{is.At, as.At - 1, as.At, as.At + 1, as.At + 1000} {
			if got, want := Fill(is, now), modelFill(as, now); got != want {
				t.Fatalf("%+v at %d: got %+v, want %+v", is, now, got, want)
			}
		}
	})
}

func TestFillAtAnyTime(t *testing.T) {
	for _, p := range few() {
		for _, at := range times {
			p.At = at.is
			for _, now := range times {
				fills(t, p, now.is, modelFill(p, now.as))
				is(t, Fill(p, now.is), Fill(p, now.as))
			}
		}
	}
}

func TestFillJustToTheEnd(t *testing.T) {
	for _, r := range rates {
		for _, b := range rates {
			for _, short := range []int64{1, 2, 1000} { // so many ticks it takes
				for _, over := range []int64{-1, 0, 1} {
					full := b.as * second
					if short*r.as > full {
						continue
					}
					p := api.Pacer{Rate: r.as, Burst: b.as, Level: full - short*r.as + over, At: 100}
					fills(t, p, 100+short, api.Pacer{Rate: r.as, Burst: b.as, Level: min(full+over, full), At: 100 + short})
				}
			}
		}
	}
}

func TestFillInStepsIsFillAtOnce(t *testing.T) {
	r := rand.New(rand.NewSource(231))
	for range 20000 {
		p := anyBucket(r)
		from := kept(p.At, 0, latest)
		first := from + r.Int63n(5*second)
		last := first + r.Int63n(5*second)
		is(t, Fill(Fill(p, first), last), Fill(p, last))
		is(t, Fill(Fill(p, last), first), Fill(p, last))
		is(t, Fill(Fill(p, first), first), Fill(p, first))
	}
}

func TestFillOfNumbersByChance(t *testing.T) {
	r := rand.New(rand.NewSource(23))
	for range 50000 {
		p := anyBucket(r)
		now := nearby(r, p)
		fills(t, p, now, modelFill(p, now))
	}
}

// P23.2

func TestWhen(t *testing.T) {
	p := api.Pacer{Rate: 3, Burst: 10, At: 100} // a byte takes a third of a second
	for _, c := range []struct {
		level, now, size, want int64
	}{
		{0, 100, 3, 1000100}, // a whole number of ticks
		{0, 100, 6, 2000100},
		{0, 100, 1, 333434}, // upwards
		{0, 100, 2, 666767}, // upwards
		{1, 100, 1, 333433},
		{1, 100, 3, 1000100}, // 999999 + 2/3
		{2, 100, 3, 1000100},
		{3, 100, 3, 1000099},
		{-1, 100, 3, 1000101},
		{-3, 100, 3, 1000101},
		{-4, 100, 3, 1000102},
		{0, 100, 0, 100},
		{-1, 100, 0, 101}, // also of nothing, Level has to come to 0
		{-3, 100, 0, 101},
		{-4, 100, 0, 102},
		{-10 * second, 100, 10, 6666767},
		{4*second - 4, 100, 4, 102},
		{4*second - 3, 100, 4, 101},
		{4*second - 1, 100, 4, 101}, // one short of it
		{4 * second, 100, 4, 100},   // just holds it
		{4*second + 1, 100, 4, 100}, // holds it already
		{10 * second, 100, 4, 100},
		{10 * second, 100, 10, 100},
		{10*second - 1, 100, 10, 101},
		{0, 99, 3, 1000100}, // a now below At: from At on
		{0, 0, 3, 1000100},
		{0, -1, 3, 1000100},
		{0, least, 3, 1000100},
		{4 * second, 99, 4, 100},
		{4 * second, 0, 4, 100},
		{4 * second, least, 4, 100},
		{4 * second, 101, 4, 101}, // a now above At: from now on
		{4 * second, 5000, 4, 5000},
		{4*second - 3, 101, 4, 101},
		{4*second - 4, 101, 4, 102},
		{0, 101, 3, 1000100}, // it fills from At on, not from now on
		{0, 1000099, 3, 1000100},
		{0, 1000100, 3, 1000100},
		{0, 1000101, 3, 1000101},
		{0, latest, 3, latest},
		{0, latest + 1, 3, latest}, // a time above 2^50 counts as that
		{0, greatest, 3, latest},
		{0, greatest, 10, latest},
		{0, 100, -1, 100}, // a size below 0 counts as 0
		{0, 100, least, 100},
		{-3, 100, least, 101},
		{0, 100, 10, 3333434},
		{0, 100, 11, 3333434}, // and above Burst as that
		{0, 100, greatest, 3333434},
	} {
		p.Level = c.level
		goes(t, p, c.now, c.size, c.want)
	}
}

func TestWhenAtTheEnds(t *testing.T) {
	for _, c := range []struct {
		p               api.Pacer
		now, size, want int64
	}{
		{api.Pacer{}, 0, 0, 0},
		{api.Pacer{}, 0, 1, second},
		{api.Pacer{}, 0, 2, second}, // Burst counts as 1
		{api.Pacer{Rate: -3, Burst: -3}, 0, 2, second},
		{api.Pacer{Rate: fastest, Burst: 1}, 0, 1, 1},
		{api.Pacer{Rate: second, Burst: 1}, 0, 1, 1},
		{api.Pacer{Rate: second - 1, Burst: 1}, 0, 1, 2},
		{api.Pacer{Rate: second + 1, Burst: 1}, 0, 1, 1},
		{api.Pacer{Rate: fastest, Burst: fastest}, 0, fastest, second},
		{api.Pacer{Rate: fastest - 1, Burst: fastest}, 0, fastest, second + 1},
		{api.Pacer{Rate: fastest + 1, Burst: fastest + 1}, 0, fastest + 1, second},
		{api.Pacer{Rate: greatest, Burst: greatest}, 0, greatest, second},
		{api.Pacer{Rate: fastest, Burst: fastest, Level: deepest}, 0, 0, 1 << 21},
		{api.Pacer{Rate: fastest, Burst: fastest, Level: deepest}, 0, fastest, 1<<21 + second},
		{api.Pacer{Rate: fastest, Burst: fastest, Level: deepest - 1}, 0, fastest, 1<<21 + second},
		{api.Pacer{Rate: fastest, Burst: fastest, Level: least}, 0, fastest, 1<<21 + second},
		{api.Pacer{Rate: 1, Burst: 1, Level: deepest}, 0, 0, 1 << 61}, // beyond the latest time that counts
		{api.Pacer{Rate: 1, Burst: 1, Level: deepest}, greatest, 0, 1 << 61},
		{api.Pacer{Rate: 1, Burst: fastest, Level: deepest, At: latest}, 0, fastest, latest + 1<<61 + fastest*second},
		{api.Pacer{Rate: 1, Burst: fastest, Level: least, At: greatest}, greatest, greatest, latest + 1<<61 + fastest*second},
		{api.Pacer{Rate: 1, Burst: 1, At: latest}, latest, 1, latest + second},
		{api.Pacer{Rate: 1, Burst: 1, At: latest}, latest + 1, 1, latest + second},
		{api.Pacer{Rate: 1, Burst: 1, At: latest - second}, 0, 1, latest},
		{api.Pacer{Rate: 1, Burst: 1, At: latest - second + 1}, 0, 1, latest + 1},
		{api.Pacer{Rate: 1, Burst: fastest, Level: fastest * second, At: 7}, 0, fastest, 7},
		{api.Pacer{Rate: 1, Burst: fastest, Level: greatest, At: 7}, 0, greatest, 7},
		{api.Pacer{Rate: 1, Burst: fastest, Level: greatest, At: least}, 0, greatest, 0},
		{api.Pacer{Rate: 1, Burst: fastest, Level: greatest, At: greatest}, 0, greatest, latest},
	} {
		goes(t, c.p, c.now, c.size, c.want)
	}
}

func TestWhenOfAnyBucket(t *testing.T) {
	everyBucket(func(is, as api.Pacer) {
		if is.At != as.At && is.At != least && is.At != greatest {
			return
		}
		for _, size := range sizesOf(as.Burst) {
			got := When(is, 101, size)
			if !isFirst(as, 101, size, got) {
				t.Fatalf("%+v at 101, of %d: got %d", is, size, got)
			}
		}
	})
}

func TestWhenAtAnyTime(t *testing.T) {
	for _, p := range few() {
		for _, at := range times {
			p.At = at.is
			for _, now := range times {
				for _, size := range sizesOf(kept(p.Burst, 1, fastest)) {
					got := When(p, now.is, size)
					if !isFirst(p, now.as, size, got) {
						t.Fatalf("%+v at %d, of %d: got %d", p, now.is, size, got)
					}
					goes(t, p, now.as, size, got)
				}
			}
		}
	}
}

func TestWhenIsFoundTickByTick(t *testing.T) {
	r := rand.New(rand.NewSource(232))
	for range 2000 {
		p := api.Pacer{Rate: 1 + r.Int63n(3*second), Burst: 1 + r.Int63n(20), At: r.Int63n(20)}
		p.Level = r.Int63n(2*p.Burst*second) - p.Burst*second
		if r.Intn(2) == 0 {
			p.Rate += 5 * second
		}
		now, size := r.Int63n(40), r.Int63n(p.Burst+1)
		got := When(p, now, size)
		if got > 200000 {
			continue
		}
		at := max(now, p.At)
		for Fill(p, at).Level < size*second {
			at++
		}
		if got != at {
			t.Fatalf("%+v at %d, of %d: got %d, want %d", p, now, size, got, at)
		}
	}
}

func TestWhenOfNumbersByChance(t *testing.T) {
	r := rand.New(rand.NewSource(2322))
	for range 50000 {
		p := anyBucket(r)
		now, size := nearby(r, p), anyNumber(r)
		if got := When(p, now, size); !isFirst(p, now, size, got) {
			t.Fatalf("%+v at %d, of %d: got %d", p, now, size, got)
		}
	}
}

// P23.3

func TestSpend(t *testing.T) {
	p := api.Pacer{Rate: 3, Burst: 10, Level: 5 * second, At: 100}
	for _, c := range []struct {
		now, size, level, at int64
	}{
		{100, 0, 5000000, 100},
		{100, 1, 4000000, 100},
		{100, 5, 0, 100},
		{100, 6, -1000000, 100}, // more than Level holds
		{100, 9, -4000000, 100},
		{100, 10, -5000000, 100},
		{100, 11, -5000000, 100}, // a size above Burst counts as that
		{100, greatest, -5000000, 100},
		{100, -1, 5000000, 100}, // and below 0 as 0
		{100, least, 5000000, 100},
		{99, 1, 4000000, 100}, // a now below At: not filled, and At stays
		{0, 1, 4000000, 100},
		{least, 1, 4000000, 100},
		{101, 0, 5000003, 101}, // filled ahead
		{101, 1, 4000003, 101},
		{101, 5, 3, 101},
		{101, 6, -999997, 101},
		{1666766, 1, 8999998, 1666766},
		{1666767, 1, 9000000, 1666767}, // full: then one less
		{1666768, 1, 9000000, 1666768},
		{latest, 10, 0, latest},
		{greatest, 10, 0, latest},
		{greatest, greatest, 0, latest},
	} {
		spends(t, p, c.now, c.size, api.Pacer{Rate: 3, Burst: 10, Level: c.level, At: c.at})
	}
}

func TestSpendNearTheLowestLevel(t *testing.T) {
	for _, c := range []struct {
		level, now, size, want int64
	}{
		{deepest + second + 1, 0, 1, deepest + 1},
		{deepest + second, 0, 1, deepest},
		{deepest + second - 1, 0, 1, deepest}, // no less than that
		{deepest + 1, 0, 1, deepest},
		{deepest, 0, 1, deepest},
		{deepest, 0, 0, deepest},
		{deepest - 1, 0, 0, deepest},
		{deepest - 1, 0, 1, deepest},
		{least, 0, 0, deepest},
		{least, 0, 10, deepest},
		{least, 0, greatest, deepest},
		{deepest, 5, 0, deepest + 15},
		{deepest, 5, 1, deepest},
		{deepest, 333333, 1, deepest},
		{deepest, 333334, 1, deepest + 2},
		{least, 333334, 1, deepest + 2},
	} {
		spends(t, api.Pacer{Rate: 3, Burst: 10, Level: c.level}, c.now, c.size, api.Pacer{Rate: 3, Burst: 10, Level: c.want, At: c.now})
	}
	p := api.Pacer{Rate: 3, Burst: fastest}
	for i, want := range []int64{-fastest * second, -2 * fastest * second, deepest, deepest} {
		if p = Spend(p, 0, fastest); p != (api.Pacer{Rate: 3, Burst: fastest, Level: want}) {
			t.Errorf("spent %d times: got %+v", i+1, p)
		}
	}
	for range 20 {
		p = Spend(p, 0, greatest)
	}
	is(t, p, api.Pacer{Rate: 3, Burst: fastest, Level: deepest})
}

func TestSpendOfNumbersBeyondTheirEnds(t *testing.T) {
	spends(t, api.Pacer{}, 0, 1, api.Pacer{Rate: 1, Burst: 1, Level: -second})
	spends(t, api.Pacer{}, 0, greatest, api.Pacer{Rate: 1, Burst: 1, Level: -second})
	spends(t, api.Pacer{Level: greatest}, -5, 1, api.Pacer{Rate: 1, Burst: 1})
	spends(t, api.Pacer{Rate: greatest, Burst: greatest, Level: greatest, At: greatest}, 0, 1, api.Pacer{Rate: fastest, Burst: fastest, Level: fastest*second - second, At: latest})
	spends(t, api.Pacer{Rate: least, Burst: least, Level: least, At: least}, least, least, api.Pacer{Rate: 1, Burst: 1, Level: deepest})
	spends(t, api.Pacer{Rate: greatest, Burst: greatest, Level: least, At: least}, greatest, greatest, api.Pacer{Rate: fastest, Burst: fastest, At: latest})
}

func TestSpendOfAnyBucket(t *testing.T) {
	everyBucket(func(is, as api.Pacer) {
		if is.At != as.At && is.At != least && is.At != greatest {
			return
		}
		for _, size := range sizesOf(as.Burst) {
			if got, want := Spend(is, 101, size), modelSpend(as, 101, size); got != want {
				t.Fatalf("%+v at 101, of %d: got %+v, want %+v", is, size, got, want)
			}
		}
	})
}

func TestSpendAtAnyTime(t *testing.T) {
	for _, p := range few() {
		for _, at := range times {
			p.At = at.is
			for _, now := range times {
				for _, size := range sizesOf(kept(p.Burst, 1, fastest)) {
					spends(t, p, now.is, size, modelSpend(p, now.as, size))
				}
			}
		}
	}
}

func TestSpendOfNumbersByChance(t *testing.T) {
	r := rand.New(rand.NewSource(233))
	for range 50000 {
		p := anyBucket(r)
		now, size := nearby(r, p), anyNumber(r)
		spends(t, p, now, size, modelSpend(p, now, size))
	}
}

// P23.4

func TestRate(t *testing.T) {
	for _, c := range []struct{ cwnd, srtt, gain, want int64 }{
		{100000, 20000, one, 5000000},
		{100000, 20000, 2 * one, 10000000},
		{100000, 20000, 16 * one, 80000000},
		{100000, 20000, 16*one - 1, 79999995}, // downwards
		{100000, 20000, 16*one + 1, 80000000}, // a gain above 16 counts as that
		{100000, 20000, 32 * one, 80000000},
		{100000, 20000, greatest, 80000000},
		{100000, 20000, one - 1, 4999995},
		{100000, 20000, one + 1, 5000004},
		{100000, 20000, one / 2, 2500000},
		{100000, 20000, 1, 4},
		{100000, 20000, 0, 1}, // at least 1
		{100000, 20000, -1, 1},
		{100000, 20000, least, 1},
		{1, 3, one, 333333}, // downwards
		{1, 3, 3 * one, 999999},
		{2, 3, one, 666666},
		{2, 3, 3 * one, 1999998}, // of the whole number, not of its parts
		{1, second, one, 1},
		{1, second + 1, one, 1}, // 0, and at least 1
		{1, second + 1, 16 * one, 1},
		{1, second - 1, 16 * one, 16},
		{2, second - 1, one, 2},
		{2, second, one, 2},
		{2, second + 1, one, 1},
		{3, second, one / 2, 1},
		{3, second, one/3 + 1, 1},
		{3, second, one / 3, 1},
		{4, second, one / 2, 2},
		{4, second, one/2 - 1, 1},
		{5, 2 * second, one, 2},
		{5, 2 * second, 2 * one, 4},
		{0, 5, 5, 1},
		{0, 1, 16 * one, 1},
		{-1, 1, 16 * one, 1}, // a window below 0 counts as 0
		{least, 1, 16 * one, 1},
		{1, 1, one, second},
		{1, 0, one, second}, // a round trip below 1 counts as 1
		{1, -1, one, second},
		{1, least, one, second},
		{1, 2, one, second / 2},
		{1 << 30, 1, one, fastest}, // at most MaxRate
		{1 << 30, 1, 16 * one, fastest},
		{1<<30 - 1, 1, 16 * one, fastest},
		{1<<30 + 1, 1, 16 * one, fastest},
		{greatest, least, greatest, fastest},
		{1 << 30, 1 << 10, one, 1 << 20 * second},
		{1<<30 + 1, 1 << 10, one, 1 << 20 * second}, // a window above MaxCwnd counts as that
		{1 << 31, 1 << 10, one, 1 << 20 * second},
		{greatest, 1 << 10, one, 1 << 20 * second},
		{1<<30 - 1, 1 << 10, one, 1<<20*second - 977},
		{1 << 30, 1000, one, 1 << 30 * 1000},
		{1 << 30, 1000, one + one/64, 1<<30*1000 + 1<<24*1000},
		{1 << 30, 976, one, fastest},       // it would be just above MaxRate
		{1 << 30, 977, one, 1099019267144}, // just below it
		{1 << 30, 15624, 16 * one, fastest},
		{1 << 20, second, 16 * one, 1 << 24},
		{1 << 30, latest, one, 1},
		{1 << 30, latest, 16 * one, 1},
		{1 << 30, latest + 1, 16 * one, 1},
		{1 << 30, greatest, 16 * one, 1},
		{1 << 30, 1 << 49, 16 * one, 16},
		{1 << 30, 1<<30*second - 1, 16 * one, 16},
		{1 << 30, 1 << 30 * second, 16 * one, 16},
		{1 << 30, 1<<30*second + 1, 16 * one, 1},
		{1 << 30, 1 << 40, one, 976},
		{1 << 30, 1 << 40, 16 * one, 15616},
		{least, greatest, least, 1},
		{greatest, greatest, greatest, 1},
		{least, least, least, 1},
	} {
		comes(t, c.cwnd, c.srtt, c.gain, c.want)
		comes(t, c.cwnd, c.srtt, c.gain, modelRate(c.cwnd, c.srtt, c.gain))
	}
}

func TestRateAtTheEnds(t *testing.T) {
	cwnds := []int64{least, -1 << 30, -1, 0, 1, 2, 1500, 1<<30 - 1, 1 << 30, 1<<30 + 1, 1 << 50, greatest}
	srtts := []int64{least, -1, 0, 1, 2, 3, 20000, second - 1, second, second + 1, latest - 1, latest, latest + 1, greatest}
	gains := []int64{least, -one, -1, 0, 1, one - 1, one, one + 1, 16*one - 1, 16 * one, 16*one + 1, 1 << 50, greatest}
	for _, c := range cwnds {
		for _, s := range srtts {
			for _, g := range gains {
				got := Rate(c, s, g)
				comes(t, c, s, g, modelRate(c, s, g))
				comes(t, kept(c, 0, 1<<30), kept(s, 1, latest), kept(g, 0, 16*one), got)
			}
		}
	}
}

func TestRateOfNumbersByChance(t *testing.T) {
	r := rand.New(rand.NewSource(234))
	for range 100000 {
		c, s, g := anyNumber(r), anyNumber(r), anyNumber(r)
		if r.Intn(2) == 0 {
			c, s, g = r.Int63n(1<<30+2), 1+r.Int63n(2*second), r.Int63n(17*one)
		}
		comes(t, c, s, g, modelRate(c, s, g))
	}
}

// P23.5

// gone is a size that was let go, and when.
type gone struct{ at, size int64 }

// withinBounds fails if within any time more was let go than Burst and Rate by that time.
func withinBounds(t *testing.T, p api.Pacer, l []gone) {
	t.Helper()
	for i, first := range l {
		all := new(big.Int)
		for _, last := range l[i:] {
			all.Add(all, product(number(last.size), number(second)))
			most := product(number(p.Rate), number(last.at-first.at))
			most.Add(most, product(number(p.Burst), number(second)))
			if all.Cmp(most) > 0 {
				t.Fatalf("%+v: from %d to %d went %v, but at most %v may", p, first.at, last.at, all, most)
			}
		}
	}
}

// letGo lets sizes go one by one, each When it may be, or so much later.
func letGo(p api.Pacer, now int64, n int, size, late func() int64) []gone {
	var l []gone
	for range n {
		s := size()
		now = When(p, now, s) + late()
		p = Spend(p, now, s)
		l = append(l, gone{now, s})
	}
	return l
}

func always(x int64) func() int64 { return func() int64 { return x } }

func TestWhatGoesWithinAnyTime(t *testing.T) {
	r := rand.New(rand.NewSource(235))
	for i := range 200 {
		p := api.Pacer{Rate: 1 + r.Int63n(1<<r.Intn(41)), At: r.Int63n(1000)}
		p.Burst = 1 + r.Int63n(min(p.Rate<<r.Intn(11), fastest)) // so that all goes ahead of the latest time
		p.Level = r.Int63n(2*p.Burst*second+1) - p.Burst*second
		late := always(0)
		switch i % 3 {
		case 1: // now and then it goes later than it may
			late = func() int64 { return r.Int63n(2) * r.Int63n(1<<r.Intn(24)) }
		case 2: // now and then so late that the bucket is full
			late = func() int64 { return max(r.Int63n(10)-8, 0) * 2 * (p.Burst*second/p.Rate + 1) }
		}
		size := func() int64 { return r.Int63n(p.Burst>>r.Intn(8) + 1) }
		withinBounds(t, p, letGo(p, r.Int63n(2000), 100, size, late))
	}
}

func TestWhatGoesOfOneSize(t *testing.T) {
	for _, rate := range []int64{1, 3, 999, second - 1, second, second + 1, 125000000, fastest} {
		for _, burst := range []int64{1, 2, 10, 1500, 15000, fastest} {
			for _, size := range []int64{0, 1, burst/3 + 1, burst/2 + 1, burst - 1, burst} {
				if rate < 1000 && size > 1<<30 {
					continue // it would take longer than times go
				}
				p := api.Pacer{Rate: rate, Burst: burst, Level: burst * second, At: 5}
				withinBounds(t, p, letGo(p, 0, 60, always(size), always(0)))
				p.Level = -burst * second
				withinBounds(t, p, letGo(p, 0, 60, always(size), always(0)))
			}
		}
	}
}

func TestJustAsMuchAsMayGoDoes(t *testing.T) {
	p := api.Pacer{Rate: 3, Burst: 10, Level: 10 * second, At: 50}
	l := letGo(p, 0, 100, always(1), always(0))
	for i, g := range l {
		want := int64(50) // ten at once
		if i >= 10 {
			want += (int64(i-9)*second + 2) / 3 // then a third of a second each, upwards of all
		}
		if g.at != want {
			t.Errorf("the one of %d went at %d, want %d", i, g.at, want)
		}
	}
	l = letGo(api.Pacer{Rate: second, Burst: 1500, Level: 0}, 7, 100, always(1500), always(0))
	for i, g := range l {
		if want := int64(i+1) * 1500; g.at != want {
			t.Errorf("the one of %d went at %d, want %d", i, g.at, want)
		}
	}
}

func TestWhatGoesBeyondTheLatestTime(t *testing.T) {
	for _, at := range []int64{latest - 50*second, latest - second, latest - 1, latest} {
		p := api.Pacer{Rate: 7, Burst: 20, Level: 20 * second, At: at}
		l := letGo(p, at, 200, always(3), always(0))
		withinBounds(t, p, l)
		if last := l[len(l)-1].at; last <= latest {
			t.Errorf("from %d: the last one went at %d, want later than %d", at, last, int64(latest))
		}
	}
}

func TestWhatGoesTooEarlyIsWaitedFor(t *testing.T) {
	p := api.Pacer{Rate: second, Burst: 10}
	for range 5 {
		p = Spend(p, 0, 10)
	}
	is(t, p, api.Pacer{Rate: second, Burst: 10, Level: -50 * second})
	goes(t, p, 0, 0, 50)
	goes(t, p, 0, 4, 54)
	withinBounds(t, p, letGo(p, 0, 50, always(4), always(0)))
}

// Rules that hold everywhere

func TestWhatIsHandedInStays(t *testing.T) {
	for _, p := range few() {
		was := p
		Fill(p, 500)
		When(p, 500, 3)
		Spend(p, 500, 3)
		is(t, p, was)
	}
	p := api.Pacer{Rate: 3, Burst: 10, Level: 70, At: 1}
	q := Spend(p, 100, 3)
	Spend(q, 200, 3)
	is(t, p, api.Pacer{Rate: 3, Burst: 10, Level: 70, At: 1})
	is(t, q, api.Pacer{Rate: 3, Burst: 10, Level: 367 - 3*second, At: 100})
}

func TestTheSameIsAnsweredTheSame(t *testing.T) {
	r := rand.New(rand.NewSource(236))
	for range 5000 {
		p := anyBucket(r)
		now, size := nearby(r, p), anyNumber(r)
		filled, when, spent, rate := Fill(p, now), When(p, now, size), Spend(p, now, size), Rate(now, size, p.Rate)
		Fill(anyBucket(r), anyNumber(r)) // what others are told does not matter
		Spend(anyBucket(r), anyNumber(r), anyNumber(r))
		if Fill(p, now) != filled || When(p, now, size) != when || Spend(p, now, size) != spent || Rate(now, size, p.Rate) != rate {
			t.Fatalf("%+v at %d, of %d: it is not the same again", p, now, size)
		}
	}
}

func TestWhatIsToldIsWithinItsEnds(t *testing.T) {
	r := rand.New(rand.NewSource(237))
	for range 20000 {
		p := anyBucket(r)
		now, size := nearby(r, p), anyNumber(r)
		for _, q := range []api.Pacer{Fill(p, now), Spend(p, now, size)} {
			is(t, q, modelWithin(q))
		}
		if x := Rate(now, size, p.Level); x < 1 || x > fastest {
			t.Errorf("got %d", x)
		}
	}
}
