package rtt

import (
	"math"
	"math/big"
	"math/rand"
	"slices"
	"testing"

	"leat/api"
)

const (
	lowest  = math.MinInt64
	highest = math.MaxInt64
	longest = api.MaxTicks
	top     = 8*api.MaxTicks + 8 // the greatest number that counts in an estimate
)

// parts are numbers that an estimate's part may be, with what each counts as.
var parts = []struct{ is, as int64 }{
	{lowest, 0},
	{lowest + 1, 0},
	{-top - 1, 0},
	{-top, 0},
	{-1 << 32, 0},
	{-9, 0},
	{-8, 0},
	{-4, 0},
	{-1, 0},
	{0, 0},
	{1, 1},
	{2, 2},
	{3, 3},
	{4, 4},
	{5, 5},
	{7, 7},
	{8, 8},
	{9, 9},
	{15, 15},
	{16, 16},
	{230, 230},
	{880, 880},
	{1<<32 + 5, 1<<32 + 5},
	{longest, longest},
	{8*longest - 1, 8*longest - 1},
	{8 * longest, 8 * longest},
	{8*longest + 1, 8*longest + 1},
	{top - 1, top - 1},
	{top, top},
	{top + 1, top},
	{top + 2, top},
	{top + 8, top},
	{1 << 62, top},
	{highest - 1, top},
	{highest, top},
}

// samples are numbers that a sample may be, with what each counts as.
var samples = []struct{ is, as int64 }{
	{lowest, 1},
	{lowest + 1, 1},
	{-longest, 1},
	{-1000, 1},
	{-1, 1},
	{0, 1},
	{1, 1},
	{2, 2},
	{3, 3},
	{7, 7},
	{8, 8},
	{9, 9},
	{109, 109},
	{110, 110},
	{111, 111},
	{1000, 1000},
	{api.Second, api.Second},
	{1<<32 + 1, 1<<32 + 1},
	{longest - 1, longest - 1},
	{longest, longest},
	{longest + 1, longest},
	{longest + 8, longest},
	{2 * longest, longest},
	{highest - 1, longest},
	{highest, longest},
}

// times are numbers that a tick, a least or a most one may be.
var times = []int64{lowest, lowest + 1, -longest, -1000, -1, 0, 1, 2, 230, 300, 1000, longest, longest + 1, 3 * longest, top, top + 1, highest - longest, highest - 1, highest}

// estimates are estimates of all parts, seen and not.
func estimates() []api.Rtt {
	var l []api.Rtt
	for _, a := range parts {
		for _, b := range parts {
			l = append(l, api.Rtt{Srtt8: a.is, Var4: b.is}, api.Rtt{Srtt8: a.is, Var4: b.is, Seen: true})
		}
	}
	return l
}

func number(x int64) *big.Int { return big.NewInt(x) }

func plus(a, b *big.Int) *big.Int { return new(big.Int).Add(a, b) }

func less(a, b *big.Int) *big.Int { return new(big.Int).Sub(a, b) }

// by is a quotient downwards, of a b above 0.
func by(a *big.Int, b int64) *big.Int { return new(big.Int).Div(a, number(b)) }

// between is the nearer end of a number that is out of bounds.
func between(x *big.Int, lo, hi int64) *big.Int {
	if x.Cmp(number(lo)) < 0 {
		return number(lo)
	}
	if x.Cmp(number(hi)) > 0 {
		return number(hi)
	}
	return x
}

// model is Sample as the chapter says it, by numbers without bounds.
func model(t *testing.T, s api.Rtt, r int64) api.Rtt {
	t.Helper()
	sample := between(number(r), 1, longest)
	srtt, vary := between(number(s.Srtt8), 0, top), between(number(s.Var4), 0, top)
	if s.Seen {
		d := less(sample, by(srtt, 8))
		srtt, vary = plus(srtt, d), plus(vary, less(new(big.Int).Abs(d), by(vary, 4)))
	} else {
		srtt, vary = new(big.Int).Mul(sample, number(8)), new(big.Int).Mul(sample, number(2))
	}
	if !srtt.IsInt64() || !vary.IsInt64() {
		t.Fatalf("%+v, %d: the model is beyond the ends", s, r)
	}
	return api.Rtt{Srtt8: srtt.Int64(), Var4: vary.Int64(), Seen: true}
}

// modelRto is Rto as the chapter says it, by numbers without bounds.
func modelRto(s api.Rtt, tick, least, most int64) int64 {
	if !s.Seen {
		return most
	}
	smooth, vary := by(between(number(s.Srtt8), 0, top), 8), between(number(s.Var4), 0, top)
	if number(tick).Cmp(vary) > 0 {
		vary = number(tick)
	}
	if most < least {
		return least
	}
	return between(plus(smooth, vary), least, most).Int64()
}

// is fails if an estimate is another one.
func is(t *testing.T, got, want api.Rtt) {
	t.Helper()
	if got != want {
		t.Errorf("got %+v, want %+v", got, want)
	}
}

// seen is an estimate to which samples came.
func seen(srtt8, var4 int64) api.Rtt {
	return api.Rtt{Srtt8: srtt8, Var4: var4, Seen: true}
}

func TestTheExampleOfTheChapter(t *testing.T) {
	s := Sample(Sample(api.Rtt{}, 100), 180)
	is(t, s, seen(880, 230))
	if Smooth(s) != 110 || s.Var4 != 230 {
		t.Errorf("got %d and %d", Smooth(s), s.Var4)
	}
}

// P20.1

func TestSmoothAndVary(t *testing.T) {
	for _, c := range []struct{ part, smooth, vary int64 }{
		{0, 0, 0},
		{1, 0, 0},
		{3, 0, 0},
		{4, 0, 1},
		{7, 0, 1},
		{8, 1, 2},
		{9, 1, 2},
		{11, 1, 2},
		{12, 1, 3},
		{15, 1, 3},
		{16, 2, 4},
		{17, 2, 4},
		{230, 28, 57},
		{880, 110, 220},
		{887, 110, 221},
		{8*longest - 1, longest - 1, 2*longest - 1},
		{8 * longest, longest, 2 * longest},
		{8*longest + 7, longest, 2*longest + 1},
		{top, longest + 1, 2*longest + 2},
		{top + 1, longest + 1, 2*longest + 2},
		{top + 8, longest + 1, 2*longest + 2},
		{highest, longest + 1, 2*longest + 2},
		{-1, 0, 0},
		{-8, 0, 0},
		{-9, 0, 0},
		{lowest, 0, 0},
	} {
		for _, other := range parts {
			for _, was := range []bool{false, true} {
				if got := Smooth(api.Rtt{Srtt8: c.part, Var4: other.is, Seen: was}); got != c.smooth {
					t.Errorf("Smooth of %d beside %d, %v: got %d, want %d", c.part, other.is, was, got, c.smooth)
				}
				if got := Vary(api.Rtt{Srtt8: other.is, Var4: c.part, Seen: was}); got != c.vary {
					t.Errorf("Vary of %d beside %d, %v: got %d, want %d", c.part, other.is, was, got, c.vary)
				}
			}
		}
	}
}

func TestSmoothAndVaryOfAnyParts(t *testing.T) {
	for _, a := range parts {
		for _, b := range parts {
			for _, was := range []bool{false, true} {
				s := api.Rtt{Srtt8: a.is, Var4: b.is, Seen: was}
				if Smooth(s) != a.as/8 || Vary(s) != b.as/4 {
					t.Errorf("%+v: got %d and %d", s, Smooth(s), Vary(s))
				}
			}
		}
	}
}

// P20.2

func TestAFirstSample(t *testing.T) {
	for _, c := range samples {
		is(t, Sample(api.Rtt{}, c.is), seen(8*c.as, 2*c.as))
		for _, s := range estimates() {
			if s.Seen {
				continue
			}
			is(t, Sample(s, c.is), seen(8*c.as, 2*c.as)) // whatever it had
		}
	}
}

func TestASampleBehindTheFirstOne(t *testing.T) {
	for _, c := range []struct {
		srtt8, var4, r   int64
		toSrtt8, toVar4  int64
		smooth, variates int64
	}{
		{800, 200, 180, 880, 230, 110, 57}, // above Smooth
		{800, 200, 100, 800, 150, 100, 37}, // at Smooth
		{800, 200, 99, 799, 151, 99, 37},   // below it: by a part of a tick the tick is lost
		{800, 200, 20, 720, 230, 90, 57},   // as far below as 180 is above
		{800, 200, 149, 849, 199, 106, 49}, // a d whose size is below Vary
		{800, 200, 51, 751, 199, 93, 49},   // and below Smooth
		{800, 200, 150, 850, 200, 106, 50}, // just Vary
		{800, 200, 50, 750, 200, 93, 50},   // and below Smooth
		{800, 200, 151, 851, 201, 106, 50}, // above Vary
		{800, 200, 49, 749, 201, 93, 50},   // and below Smooth
		{807, 203, 100, 807, 153, 100, 38}, // neither 8 nor 4 divides them: Smooth is 100, Vary 50
		{807, 203, 101, 808, 154, 101, 38}, // the parts of a tick are kept
		{801, 201, 100, 801, 151, 100, 37}, // downwards
		{799, 199, 100, 800, 151, 100, 37}, // Smooth 99, Vary 49
		{7, 3, 1, 8, 4, 1, 1},              // Smooth and Vary 0
		{0, 0, 1, 1, 1, 0, 0},              // of a Seen one all of which is 0
		{0, 0, longest, longest, longest, longest / 8, longest / 4},
		{8, 1, 1, 8, 1, 1, 0}, // nothing is left to fall
		{8, 3, 1, 8, 3, 1, 0}, // nor here
		{8, 4, 1, 8, 3, 1, 0}, // one falls to 3
		{8 * longest, 2 * longest, longest, 8 * longest, 2*longest - longest/2, longest, (2*longest - longest/2) / 4},
		{8 * longest, 2 * longest, 1, 7*longest + 1, 2*longest - longest/2 + longest - 1, longest / 8 * 7, (2*longest - longest/2 + longest - 1) / 4},
		{top, top, longest, top - 1, top - 2*longest - 2 + 1, longest, (6*longest + 7) / 4}, // Smooth is one above any sample
		{top, top, 1, top - longest, top - longest - 2, (7*longest + 8) / 8, (7*longest + 6) / 4},
		{top, 0, 1, top - longest, longest, (7*longest + 8) / 8, longest / 4},
		{0, top, 1, 1, top - 2*longest - 2 + 1, 0, (6*longest + 7) / 4},
		{0, top, longest, longest, top - longest - 2, longest / 8, (7*longest + 6) / 4},
	} {
		s := Sample(seen(c.srtt8, c.var4), c.r)
		is(t, s, seen(c.toSrtt8, c.toVar4))
		if Smooth(s) != c.smooth || Vary(s) != c.variates {
			t.Errorf("%d of %d and %d: got %d and %d, want %d and %d", c.r, c.srtt8, c.var4, Smooth(s), Vary(s), c.smooth, c.variates)
		}
	}
}

func TestSampleOfAnyEstimate(t *testing.T) {
	for _, s := range estimates() {
		for _, c := range samples {
			is(t, Sample(s, c.is), model(t, s, c.is))
		}
	}
}

func TestWhatIsOutOfBoundsCountsAsTheNearerEnd(t *testing.T) {
	for _, a := range parts {
		for _, b := range parts {
			for _, c := range samples {
				got, want := Sample(seen(a.is, b.is), c.is), Sample(seen(a.as, b.as), c.as)
				if got != want {
					t.Errorf("%d and %d, %d: got %+v, want %+v", a.is, b.is, c.is, got, want)
				}
			}
		}
	}
}

func TestAnEstimateStaysWithinItsBounds(t *testing.T) {
	for _, s := range estimates() {
		for _, c := range samples {
			got := Sample(s, c.is)
			if got.Srtt8 < 1 || got.Srtt8 > top || got.Var4 < 0 || got.Var4 > top || !got.Seen {
				t.Errorf("%+v, %d: got %+v", s, c.is, got)
			}
		}
	}
}

func TestSampleOfNumbersByChance(t *testing.T) {
	r := rand.New(rand.NewSource(20))
	for range 20000 {
		s := api.Rtt{Srtt8: anyNumber(r), Var4: anyNumber(r), Seen: r.Intn(4) > 0}
		x := anyNumber(r)
		is(t, Sample(s, x), model(t, s, x))
	}
}

// anyNumber is one of any size, mostly not below 0.
func anyNumber(r *rand.Rand) int64 {
	x := int64(r.Uint64()>>1) >> r.Intn(63)
	if r.Intn(8) == 0 {
		return -x
	}
	return x
}

func TestWhatIsHandedInStays(t *testing.T) {
	for _, s := range estimates() {
		was := s
		l := []int64{180, lowest, highest}
		Sample(s, 5)
		Smooth(s)
		Vary(s)
		Rto(s, 1, 2, 3)
		All(s, l)
		is(t, s, was)
		if !slices.Equal(l, []int64{180, lowest, highest}) {
			t.Fatalf("%+v: got %v", s, l)
		}
	}
}

func TestAllOfNoSamples(t *testing.T) {
	for _, s := range append(estimates(), api.Rtt{}, seen(880, 230)) {
		is(t, All(s, nil), s)
		is(t, All(s, []int64{}), s)
	}
}

func TestAllOfOneSample(t *testing.T) {
	for _, s := range estimates() {
		for _, c := range samples {
			is(t, All(s, []int64{c.is}), model(t, s, c.is))
		}
	}
}

func TestAllOfManySamples(t *testing.T) {
	is(t, All(api.Rtt{}, []int64{100, 180}), seen(880, 230))
	is(t, All(api.Rtt{}, []int64{180, 100}), seen(1360, 350)) // in order
	is(t, All(api.Rtt{}, []int64{100, 180, 1}), seen(771, 282))
	is(t, All(seen(800, 200), []int64{180, 1}), seen(771, 282))
	is(t, All(api.Rtt{Srtt8: 800, Var4: 200}, []int64{180, 180}), seen(1440, 270))
	r := rand.New(rand.NewSource(201))
	for _, s := range []api.Rtt{{}, {Srtt8: 5, Var4: -5}, seen(0, 0), seen(880, 230), seen(top, top), seen(lowest, highest)} {
		for range 50 {
			l := make([]int64, r.Intn(40))
			want := s
			for i := range l {
				l[i] = anyNumber(r)
				want = model(t, want, l[i])
			}
			kept := slices.Clone(l)
			is(t, All(s, l), want)
			is(t, All(s, l), want) // again
			if !slices.Equal(l, kept) {
				t.Fatalf("got %v, was %v", l, kept)
			}
			cut := r.Intn(len(l) + 1)
			is(t, All(All(s, l[:cut]), l[cut:]), want)
		}
	}
}

// P20.3

func TestRtoOfOneThatIsNotSeen(t *testing.T) {
	for _, s := range []api.Rtt{{}, {Srtt8: 880, Var4: 230}, {Srtt8: highest, Var4: highest}, {Srtt8: lowest, Var4: lowest}} {
		for _, tick := range times {
			for _, least := range times {
				for _, most := range times {
					if got := Rto(s, tick, least, most); got != most {
						t.Fatalf("%+v, %d, %d, %d: got %d", s, tick, least, most, got)
					}
				}
			}
		}
	}
}

func TestRto(t *testing.T) {
	for _, c := range []struct{ srtt8, var4, tick, least, most, want int64 }{
		{880, 230, 1, 0, 9999, 340},   // tick below Var4
		{880, 230, 229, 0, 9999, 340}, // just below
		{880, 230, 230, 0, 9999, 340}, // at it
		{880, 230, 231, 0, 9999, 341}, // above
		{880, 230, 500, 0, 9999, 610}, // far above
		{880, 230, 57, 0, 9999, 340},  // above Vary alone
		{880, 230, 0, 0, 9999, 340},   // no tick
		{880, 230, -1, 0, 9999, 340},  // one below 0
		{880, 230, lowest, 0, 9999, 340},
		{880, 230, highest, 0, 9999, 9999},
		{880, 230, highest, 0, highest, highest},
		{880, 230, highest - 110, 0, highest, highest},
		{880, 230, highest - 111, 0, highest, highest - 1},
		{887, 233, 1, 0, 9999, 343}, // Smooth is downwards
		{7, 3, 1, 0, 9999, 3},
		{0, 0, 0, -5, 9999, 0},
		{0, 0, -7, -5, 9999, 0},       // Var4 is not below 0
		{880, 230, 1, 339, 9999, 340}, // least below it
		{880, 230, 1, 340, 9999, 340}, // at it
		{880, 230, 1, 341, 9999, 341}, // above it
		{880, 230, 1, 0, 341, 340},    // most above it
		{880, 230, 1, 0, 340, 340},    // at it
		{880, 230, 1, 0, 339, 339},    // below it
		{880, 230, 1, 340, 340, 340},
		{880, 230, 1, 500, 499, 500}, // least above most
		{880, 230, 1, 100, 99, 100},
		{880, 230, 1, 340, 0, 340},
		{880, 230, 1, lowest, highest, 340},
		{880, 230, 1, highest, lowest, highest},
		{880, 230, 1, highest, highest, highest},
		{880, 230, 1, lowest, lowest, lowest},
		{880, 230, 1, lowest, -1, -1},
		{880, 230, 1, -1, lowest, -1},
		{-5, -5, -5, -9, 9999, 0}, // what is below 0 counts as 0
		{lowest, lowest, 5, 0, 9999, 5},
		{lowest, lowest, lowest, lowest, highest, 0},
		{top, top, 1, 0, highest, 9*longest + 9},
		{highest, highest, 1, 0, highest, 9*longest + 9},
		{highest, 0, 1, 0, highest, longest + 2},
		{0, highest, 1, 0, highest, top},
		{0, highest, top + 1, 0, highest, top + 1}, // above what Var4 counts as
		{top, top, highest, lowest, highest, highest},
	} {
		if got := Rto(seen(c.srtt8, c.var4), c.tick, c.least, c.most); got != c.want {
			t.Errorf("%+v: got %d", c, got)
		}
	}
}

func TestRtoOfAnyNumbers(t *testing.T) {
	for _, a := range parts {
		for _, b := range parts {
			s := seen(a.is, b.is)
			for _, tick := range append(times, b.as-1, b.as, b.as+1) {
				for _, ends := range [][2]int64{{0, highest}, {lowest, highest}, {200, 60000}, {60000, 200}, {lowest, lowest}, {highest, highest}, {highest, lowest}, {api.Second, 60 * api.Second}} {
					if got, want := Rto(s, tick, ends[0], ends[1]), modelRto(s, tick, ends[0], ends[1]); got != want {
						t.Fatalf("%+v, %d, %v: got %d, want %d", s, tick, ends, got, want)
					}
				}
			}
		}
	}
	for _, s := range []api.Rtt{seen(880, 230), seen(top, top), seen(lowest, highest)} {
		for _, tick := range times {
			for _, least := range times {
				for _, most := range times {
					if got, want := Rto(s, tick, least, most), modelRto(s, tick, least, most); got != want {
						t.Fatalf("%+v, %d, %d, %d: got %d, want %d", s, tick, least, most, got, want)
					}
				}
			}
		}
	}
}

// P20.4

// staysBetween fails if behind any of the samples Smooth is not between the least and the greatest one of those that came; from is a first estimate, which is not Seen.
func staysBetween(t *testing.T, from api.Rtt, l []int64) {
	t.Helper()
	s := from
	var lo, hi int64
	for i, x := range l {
		s = Sample(s, x)
		x = min(max(x, 1), longest) // as what it counts
		if i == 0 {
			lo, hi = x, x
		}
		lo, hi = min(lo, x), max(hi, x)
		if got := Smooth(s); got < lo || got > hi {
			t.Fatalf("behind %d of %v: got %d, which is not from %d to %d", i, l, got, lo, hi)
		}
	}
}

func TestSmoothLiesBetweenFewSamples(t *testing.T) {
	near := []int64{1, 2, 3, 4, 9}
	far := []int64{lowest, 1, 100, longest - 1, highest}
	for _, of := range [][]int64{near, far} {
		for n := range 5 * 5 * 5 * 5 * 5 * 5 { // all rows of six of five
			l := make([]int64, 6)
			for i := range l {
				l[i] = of[n%5]
				n /= 5
			}
			staysBetween(t, api.Rtt{}, l)
		}
	}
}

func TestSmoothLiesBetweenManySamples(t *testing.T) {
	r := rand.New(rand.NewSource(204))
	for range 300 {
		lo := 1 + r.Int63n(longest)>>r.Intn(50)
		room := 1 + r.Int63n(longest)>>r.Intn(50)
		l := make([]int64, 200)
		for i := range l {
			switch r.Intn(3) {
			case 0:
				l[i] = lo
			case 1:
				l[i] = lo + room - 1
			default:
				l[i] = lo + r.Int63n(room)
			}
		}
		staysBetween(t, api.Rtt{}, l)
		staysBetween(t, api.Rtt{Srtt8: highest, Var4: highest}, l) // what one that is not Seen had does not count
	}
}

func TestSmoothAtTheEndsOfSamples(t *testing.T) {
	for _, ends := range [][2]int64{{1, longest}, {lowest, highest}, {longest - 1, longest}, {1, 2}} {
		for _, turn := range []int{1, 2, 10, 1000} { // so many of each, again and again
			l := make([]int64, 4000)
			for i := range l {
				l[i] = ends[i/turn%2]
			}
			staysBetween(t, api.Rtt{}, l)
			for i := range l {
				l[i] = ends[1-i/turn%2]
			}
			staysBetween(t, api.Rtt{}, l)
		}
	}
}

func TestOneSampleAgainAndAgain(t *testing.T) {
	for _, c := range samples {
		s := api.Rtt{}
		was := int64(highest)
		for i := range 1000 {
			s = Sample(s, c.is)
			if Smooth(s) != c.as || s.Srtt8 != 8*c.as {
				t.Fatalf("%d, %d times: got %+v", c.is, i+1, s)
			}
			if s.Var4 > was || s.Var4 == was && was > 3 || s.Var4 < 0 {
				t.Fatalf("%d, %d times: Var4 is %d behind %d", c.is, i+1, s.Var4, was)
			}
			was = s.Var4
		}
		if s.Var4 > 3 {
			t.Errorf("%d: Var4 is %d still", c.is, s.Var4)
		}
		if got := Rto(s, 4, 0, highest); got != c.as+4 { // the tick is above what is left
			t.Errorf("%d: Rto is %d", c.is, got)
		}
	}
}

func TestOneSampleAgainAndAgainBehindOthers(t *testing.T) {
	for _, a := range parts {
		for _, b := range []int64{lowest, 0, 230, top, highest} {
			for _, c := range samples {
				s := seen(a.is, b)
				for range 1000 {
					s = Sample(s, c.is)
				}
				if Smooth(s) != c.as || s.Var4 > 3 || s.Var4 < 0 {
					t.Fatalf("%d behind %d and %d: got %+v", c.is, a.is, b, s)
				}
			}
		}
	}
}
