package classic

import (
	"math"
	"math/big"
	"math/rand"
	"slices"
	"testing"

	"leat/api"
)

const (
	lowest  = math.MinInt64
	highest = math.MaxInt64
	one     = 1 << 20
	most    = 2 * one // the greatest Score
	fourth  = 1 << 18 // the most by which a score rises
)

// scores are numbers that a Score may be, with what each counts as.
var scores = []struct{ is, as int64 }{
	{lowest, 0},
	{lowest + 1, 0},
	{-1<<32 - 5, 0},
	{-most, 0},
	{-one, 0},
	{-64, 0},
	{-8, 0},
	{-2, 0},
	{-1, 0},
	{0, 0},
	{1, 1},
	{2, 2},
	{7, 7},
	{8, 8},
	{9, 9},
	{63, 63},
	{64, 64},
	{65, 65},
	{800, 800},
	{fourth - 1, fourth - 1},
	{fourth, fourth},
	{fourth + 1, fourth + 1},
	{3*fourth - 1, 3*fourth - 1},
	{3 * fourth, 3 * fourth},
	{3*fourth + 1, 3*fourth + 1},
	{one - 1, one - 1},
	{one, one},
	{one + 1, one + 1},
	{most - fourth - 1, most - fourth - 1},
	{most - fourth, most - fourth},
	{most - fourth + 1, most - fourth + 1},
	{most - 1, most - 1},
	{most, most},
	{most + 1, most},
	{4 * one, most},
	{1 << 32, most},
	{1<<32 + 5, most},
	{highest - 1, most},
	{highest, most},
}

// limits are numbers that a limit may be, with what each counts as.
var limits = []struct{ is, as int64 }{
	{lowest, 1},
	{lowest + 1, 1},
	{-1<<32 - 5, 1},
	{-5000, 1},
	{-2, 1},
	{-1, 1},
	{0, 1},
	{1, 1},
	{2, 2},
	{3, 3},
	{7, 7},
	{5000, 5000},
	{one - 1, one - 1},
	{one, one},
	{one + 1, one + 1},
	{1<<32 + 5, 1<<32 + 5},
	{1<<62 - 1, 1<<62 - 1},
	{1 << 62, 1 << 62},
	{1<<62 + 1, 1<<62 + 1},
	{highest - 2, highest - 2},
	{highest - 1, highest - 1},
	{highest, highest},
}

// beside are numbers that lie near one, as far as they are within the ends.
func beside(x int64) []int64 {
	l := []int64{x}
	for d := int64(1); d <= 4; d++ {
		if x >= lowest+d {
			l = append(l, x-d)
		}
		if x <= highest-d {
			l = append(l, x+d)
		}
	}
	return l
}

// depthsOf are numbers that a depth may be beside a limit that counts as itself, from the least on, none of them twice: of no share of it, of parts of all, and of more.
func depthsOf(limit int64) []int64 {
	l := []int64{lowest, lowest + 1, -1<<32 - 5, -5000, -1, 0, 1, 2, 3, 5000, one, 1<<32 + 5, 1 << 50, 1 << 62, highest - 1, highest}
	for _, above := range []int64{0, limit >> 20, limit >> 10, limit / 7, limit / 4, limit / 3, limit / 2, limit - 1, limit} {
		if above <= highest-limit {
			l = append(l, beside(limit+above)...)
		}
	}
	slices.Sort(l)
	return slices.Compact(l)
}

// everyRound goes through all rounds of the tables, with what the limit counts as.
func everyRound(yield func(marked bool, depth, limit, as int64)) {
	for _, l := range limits {
		for _, depth := range depthsOf(l.as) {
			yield(true, depth, l.is, l.as)
			yield(false, depth, l.is, l.as)
		}
	}
}

func number(x int64) *big.Int { return big.NewInt(x) }

func plus(a, b *big.Int) *big.Int { return new(big.Int).Add(a, b) }

func minus(a, b *big.Int) *big.Int { return new(big.Int).Sub(a, b) }

func product(a, b *big.Int) *big.Int { return new(big.Int).Mul(a, b) }

// by is the quotient, downwards, of a b above 0.
func by(a, b *big.Int) *big.Int { return new(big.Int).Div(a, b) }

// kept is a number within its ends, as the model keeps it.
func kept(x, lo, hi int64) int64 {
	if x < lo {
		return lo
	}
	if x > hi {
		return hi
	}
	return x
}

// modelDeep is whether a round is marked, and its depth above the limit.
func modelDeep(marked bool, depth, limit int64) bool {
	return marked && depth > kept(limit, 1, highest)
}

// modelRise is by how much a deep round lets a score rise, by numbers without bounds.
func modelRise(depth, limit int64) *big.Int {
	to := number(kept(limit, 1, highest))
	ratio := by(product(minus(number(depth), to), number(one)), to)
	if ratio.Cmp(number(one)) > 0 {
		ratio = number(one)
	}
	return by(ratio, number(4))
}

// modelFall is by how much a score falls by that part of it, upwards, by numbers without bounds.
func modelFall(score, parts int64) *big.Int {
	return by(number(score+parts-1), number(parts))
}

// modelScore is the score that Round tells as the chapter says it, by numbers without bounds.
func modelScore(score int64, marked bool, depth, limit int64) int64 {
	s := number(kept(score, 0, most))
	switch {
	case modelDeep(marked, depth, limit):
		s = plus(s, modelRise(depth, limit))
	case marked:
		s = minus(s, modelFall(s.Int64(), 8))
	default:
		s = minus(s, modelFall(s.Int64(), 64))
	}
	if s.Cmp(number(most)) > 0 {
		return most
	}
	return s.Int64()
}

// rounds fails if the score behind a round is another one.
func rounds(t *testing.T, score int64, marked bool, depth, limit, want int64) {
	t.Helper()
	if got := Round(api.Classic{Score: score}, marked, depth, limit); got != (api.Classic{Score: want}) {
		t.Errorf("score %d, marked %t, depth %d, limit %d: got %d, want %d", score, marked, depth, limit, got.Score, want)
	}
}

// old fails if a queue of that score is an old one, or none, against what is wanted.
func old(t *testing.T, score int64, want bool) {
	t.Helper()
	if got := Old(api.Classic{Score: score}); got != want {
		t.Errorf("score %d: got %t, want %t", score, got, want)
	}
}

// anyNumber is one of any size, mostly not below 0.
func anyNumber(r *rand.Rand) int64 {
	x := int64(r.Uint64()>>1) >> r.Intn(63)
	if r.Intn(5) == 0 {
		return -x
	}
	return x
}

// anyScore is one of any number, mostly within its ends.
func anyScore(r *rand.Rand) int64 {
	if r.Intn(4) == 0 {
		return anyNumber(r)
	}
	return r.Int63n(most+1) >> r.Intn(22)
}

// anyRound is whether it is marked, and a depth and a limit of any numbers, mostly the one not far from the other.
func anyRound(r *rand.Rand) (bool, int64, int64) {
	marked, depth, limit := r.Intn(4) > 0, anyNumber(r), anyNumber(r)
	switch r.Intn(4) {
	case 0:
		return marked, depth, limit
	case 1:
		near := beside(kept(limit, 1, highest))
		return marked, near[r.Intn(len(near))], limit
	}
	limit = kept(limit, 1, 1<<62-1)
	return marked, limit + r.Int63n(limit+limit/8+1), limit
}

func TestTheExampleOfTheChapter(t *testing.T) {
	rounds(t, 0, true, 10000, 5000, 1<<18)
}

// P27.1

func TestADeepRound(t *testing.T) {
	for _, c := range []struct{ depth, limit, want int64 }{
		{10000, 5000, fourth}, // twice limit
		{9999, 5000, 262091},  // of 1048366, and two fourths that fell
		{7500, 5000, 1 << 17}, // half of it more
		{6250, 5000, 1 << 16},
		{5004, 5000, 209}, // of 838
		{5003, 5000, 157}, // of 629, and a fourth that fell
		{5002, 5000, 104}, // of 419, and three fourths that fell
		{5001, 5000, 52},  // of 209, and a fourth that fell
		{10001, 5000, fourth},
		{15000, 5000, fourth}, // no share is above One
		{1 << 50, 5000, fourth},
		{highest, 5000, fourth},
		{2, 1, fourth}, // a limit of 1
		{3, 1, fourth},
		{highest, 1, fourth},
		{2, 0, fourth}, // limits that count as 1
		{3, 0, fourth},
		{2, -1, fourth},
		{2, -5000, fourth},
		{2, lowest, fourth},
		{highest, 0, fourth},
		{highest, lowest, fourth},
		{highest, lowest + 1, fourth},
		{3, 2, 1 << 17}, // a limit of 2
		{4, 2, fourth},
		{5, 2, fourth},
		{highest, 2, fourth},
		{4, 3, 87381},  // of 349525, and a fourth that fell
		{5, 3, 174762}, // of 699050, and two fourths that fell
		{6, 3, fourth},
		{8, 7, 37449},          // of 149796
		{12, 7, 187245},        // of 748982, and two fourths that fell
		{13, 7, 224694},        // of 898779, and three fourths that fell
		{one + 1, one, 0},      // of 1, of which all falls
		{one + 2, one, 0},      // of 2
		{one + 3, one, 0},      // of 3
		{one + 4, one, 1},      // of 4
		{one + 5, one, 1},      // of 5
		{one + 7, one, 1},      // of 7
		{one + 8, one, 2},      // of 8
		{one + 1001, one, 250}, // of 1001
		{2*one - 1, one, fourth - 1},
		{2 * one, one, fourth},
		{2*one + 1, one, fourth},
		{one + 2, one + 1, 0}, // of 0
		{one + 6, one + 1, 1}, // of 4, as the fifth falls
		{4*one + 1, 4 * one, 0},
		{4*one + 4, 4 * one, 0},
		{4*one + 16, 4 * one, 1},
		{1<<50 + 1, 1 << 50, 0},
		{1<<50 + 1<<30, 1 << 50, 0},
		{1<<50 + 1<<32 - 1, 1 << 50, 0}, // of 3
		{1<<50 + 1<<32, 1 << 50, 1},     // of 4
		{1<<51 - 1, 1 << 50, fourth - 1},
		{highest, 1<<62 - 1, fourth}, // of 2^62, which is above limit
		{highest - 1, 1<<62 - 1, fourth},
		{highest - 2, 1<<62 - 1, fourth - 1},
		{highest, 1 << 62, fourth - 1}, // of one less than limit
		{highest, 1<<62 + 1, fourth - 1},
		{1<<62 + 1, 1 << 62, 0},
		{highest, highest - 1, 0},
		{highest - 1, highest - 2, 0},
		{highest, highest - 1<<43, 0}, // of 1
		{highest, highest - 1<<46, 2}, // of 8
	} {
		rounds(t, 0, true, c.depth, c.limit, c.want)
		rounds(t, 1001, true, c.depth, c.limit, 1001+c.want)
		rounds(t, one-1, true, c.depth, c.limit, one-1+c.want)
		rounds(t, most-fourth, true, c.depth, c.limit, most-fourth+c.want)
		rounds(t, -5, true, c.depth, c.limit, c.want)
		rounds(t, lowest, true, c.depth, c.limit, c.want)
		rounds(t, most, true, c.depth, c.limit, most)
		rounds(t, highest, true, c.depth, c.limit, most)
		if Round(api.Classic{Score: 1001}, false, c.depth, c.limit).Score != 985 {
			t.Errorf("depth %d, limit %d: it is not marked, and not 985", c.depth, c.limit)
		}
	}
}

func TestADeepRoundRisesToTwiceOne(t *testing.T) {
	for _, c := range []struct{ score, depth, limit, want int64 }{
		{most - fourth - 1, 10000, 5000, most - 1},
		{most - fourth, 10000, 5000, most},
		{most - fourth + 1, 10000, 5000, most},
		{most - 1, 10000, 5000, most},
		{most, 10000, 5000, most},
		{most + 1, 10000, 5000, most},
		{highest, 10000, 5000, most},
		{most - 53, 5001, 5000, most - 1}, // by 52
		{most - 52, 5001, 5000, most},
		{most - 51, 5001, 5000, most},
		{most - 1, 5001, 5000, most},
		{most - 1, one + 4, one, most}, // by 1
		{most - 2, one + 4, one, most - 1},
		{most - 1, one + 3, one, most - 1}, // by 0
		{most + 1, one + 3, one, most},
		{one, 10000, 5000, one + fourth}, // no end at One
		{one - 1, 10000, 5000, one + fourth - 1},
		{one + 1, 10000, 5000, one + fourth + 1},
		{3 * fourth, 10000, 5000, one},
		{3*fourth - 1, 10000, 5000, one - 1},
		{-1, 10000, 5000, fourth},
		{-fourth, 10000, 5000, fourth},
		{lowest, 10000, 5000, fourth},
		{lowest, highest, lowest, fourth},
		{highest, highest, lowest, most},
	} {
		rounds(t, c.score, true, c.depth, c.limit, c.want)
	}
}

// falls are scores, with what is left of each behind a marked round that is not deep, and behind one that is not marked.
var falls = []struct{ score, shallow, unmarked int64 }{
	{lowest, 0, 0},
	{lowest + 1, 0, 0},
	{-1 << 32, 0, 0},
	{-64, 0, 0},
	{-8, 0, 0},
	{-5, 0, 0},
	{-1, 0, 0},
	{0, 0, 0},
	{1, 0, 0}, // by 1, as what is rounded falls as well
	{2, 1, 1},
	{3, 2, 2},
	{7, 6, 6},
	{8, 7, 7},
	{9, 7, 8}, // by 2, of 1 and an eighth
	{10, 8, 9},
	{15, 13, 14},
	{16, 14, 15},
	{17, 14, 16},
	{62, 54, 61},
	{63, 55, 62},
	{64, 56, 63},
	{65, 56, 63}, // by 2, of 1 and a 64th
	{66, 57, 64},
	{127, 111, 125},
	{128, 112, 126},
	{129, 112, 126},
	{800, 700, 787}, // by 100, and by 13, of 12 and a half
	{801, 700, 788},
	{832, 728, 819},
	{833, 728, 819},
	{1001, 875, 985},
	{fourth - 1, 229375, 258047},
	{fourth, 229376, 258048},
	{fourth + 1, 229376, 258048},
	{one - 1, 917503, 1032191},
	{one, 917504, 1032192},
	{one + 1, 917504, 1032192},
	{one + 2, 917505, 1032193},
	{1065219, 932066, 1048574},
	{1065220, 932067, 1048575},
	{1065221, 932068, 1048576}, // the least one of which One is left, unmarked
	{1198372, 1048575, 1179647},
	{1198373, 1048576, 1179648}, // the least one of which it is, marked
	{most - 1, 1835007, 2064383},
	{most, 1835008, 2064384},
	{most + 1, 1835008, 2064384},
	{3 << 20, 1835008, 2064384},
	{1 << 32, 1835008, 2064384},
	{highest - 1, 1835008, 2064384},
	{highest, 1835008, 2064384},
}

func TestAMarkedRoundThatIsNotDeep(t *testing.T) {
	for _, c := range falls {
		for _, at := range []struct{ depth, limit int64 }{
			{5000, 5000}, // just limit
			{4999, 5000}, // one below it
			{1, 5000},
			{0, 5000},
			{-1, 5000},
			{-5000, 5000},
			{lowest, 5000},
			{lowest + 1, 5000},
			{2, 2},
			{1, 2},
			{1, 1}, // a limit of 1
			{0, 1},
			{-1, 1},
			{lowest, 1},
			{1, 0}, // limits that count as 1
			{0, 0},
			{-1, 0},
			{1, -1},
			{0, -1},
			{-1, -2},
			{1, -5000},
			{0, -5000},
			{-4999, -5000},
			{1, lowest},
			{0, lowest},
			{-1, lowest},
			{lowest + 1, lowest},
			{lowest, lowest},
			{lowest, highest}, // limits of which a depth that is less stays at an end
			{lowest + 1, highest},
			{-2, highest},
			{-1, highest},
			{lowest, highest - 1},
			{lowest, 1 << 62},
			{0, highest},
			{highest - 1, highest},
			{highest, highest},
			{highest - 1, highest - 1},
		} {
			rounds(t, c.score, true, at.depth, at.limit, c.shallow)
		}
	}
}

func TestARoundThatIsNotMarked(t *testing.T) {
	for _, c := range falls {
		for _, at := range []struct{ depth, limit int64 }{
			{10000, 5000}, // how deep it is does not matter
			{5001, 5000},
			{5000, 5000},
			{4999, 5000},
			{0, 5000},
			{-1, 5000},
			{lowest, 5000},
			{highest, 5000},
			{9999, 1},
			{2, 1},
			{1, 1},
			{0, 0},
			{2, 0},
			{2, -1},
			{2, lowest},
			{lowest, lowest},
			{highest, lowest},
			{lowest, highest},
			{highest, highest},
			{highest, highest - 1},
			{highest, 1 << 62},
		} {
			rounds(t, c.score, false, at.depth, at.limit, c.unmarked)
		}
	}
}

func TestRoundIsTheModels(t *testing.T) {
	everyRound(func(marked bool, depth, limit, _ int64) {
		for _, s := range scores {
			rounds(t, s.is, marked, depth, limit, modelScore(s.is, marked, depth, limit))
		}
	})
	for limit := int64(-2); limit < 100; limit++ {
		for depth := int64(-2); depth < 2*limit+5; depth++ {
			rounds(t, 1001, true, depth, limit, modelScore(1001, true, depth, limit))
			rounds(t, 1001, false, depth, limit, modelScore(1001, false, depth, limit))
		}
	}
	r := rand.New(rand.NewSource(271))
	for range 300000 {
		score := anyScore(r)
		marked, depth, limit := anyRound(r)
		rounds(t, score, marked, depth, limit, modelScore(score, marked, depth, limit))
	}
}

func TestRoundCountsWhatIsBeyondTheEnds(t *testing.T) {
	everyRound(func(marked bool, depth, limit, as int64) {
		for _, s := range scores {
			rounds(t, s.is, marked, depth, limit, Round(api.Classic{Score: s.as}, marked, depth, as).Score)
		}
	})
}

func TestRoundOfEachScore(t *testing.T) {
	for score := range int64(most + 1) { // of what does not fall seven eighths are left, and 63 parts of 64
		rounds(t, score, true, 5000, 5000, score*7>>3)
		rounds(t, score, false, 5001, 5000, score*63>>6)
		rounds(t, score, true, 7500, 5000, min(score+fourth/2, most))
	}
}

func TestRoundOfEachDepth(t *testing.T) {
	for above := int64(1); above <= one; above++ { // the Ratio of what is above One, as limit, is that itself
		rounds(t, 5, true, one+above, one, 5+above>>2)
		rounds(t, 5, true, (one+above)<<40, one<<40, 5+above>>2)
	}
}

// P27.2

func TestOld(t *testing.T) {
	for _, s := range scores {
		old(t, s.is, s.as >= one)
	}
	for _, c := range []struct {
		score int64
		want  bool
	}{
		{lowest, false},
		{lowest + 1, false},
		{-1 << 32, false},
		{-most, false},
		{-one - 1, false},
		{-one, false},
		{-1, false},
		{0, false},
		{1, false},
		{fourth, false},
		{one / 2, false},
		{one - 2, false},
		{one - 1, false}, // one less than One
		{one, true},      // just One
		{one + 1, true},  // one above it
		{most - 1, true},
		{most, true},
		{most + 1, true}, // what counts as twice One
		{4 * one, true},
		{1 << 32, true},
		{1<<32 + 5, true},
		{1 << 62, true},
		{highest - 1, true},
		{highest, true},
	} {
		old(t, c.score, c.want)
	}
}

func TestOldOfEachScore(t *testing.T) {
	for score := int64(-one); score <= most+one; score++ {
		old(t, score, score >= one)
	}
}

func TestOldOfWhatRoundTells(t *testing.T) {
	everyRound(func(marked bool, depth, limit, _ int64) {
		for _, s := range scores {
			c := Round(api.Classic{Score: s.is}, marked, depth, limit)
			old(t, c.Score, modelScore(s.is, marked, depth, limit) >= one)
		}
	})
}

// P27.3

// kinds are rounds of each kind: as deep as counts, deep by half of the limit, hardly deep, marked and not deep, and not marked, shallow and deep.
var kinds = []struct {
	marked       bool
	depth, limit int64
}{
	{true, highest, lowest},
	{true, 7500, 5000},
	{true, 5001, 5000},
	{true, 5000, 5000},
	{false, 0, 5000},
	{false, highest, 1},
}

// everyRow goes through all rows of so many rounds behind a state: how many of them were deep, and each state, with the one ahead of it.
func everyRow(c api.Classic, deep, left int, yield func(was, is api.Classic, deep int, fell bool)) {
	if left == 0 {
		return
	}
	for _, k := range kinds {
		next, now := Round(c, k.marked, k.depth, k.limit), deep
		if modelDeep(k.marked, k.depth, k.limit) {
			now++
		}
		yield(c, next, now, now == deep)
		everyRow(next, now, left-1, yield)
	}
}

func TestNoQueueIsOldBehindFewerThanFourDeepRounds(t *testing.T) {
	latest, states := 0, 0
	everyRow(api.Classic{}, 0, 7, func(_, is api.Classic, deep int, _ bool) {
		if states++; !Old(is) {
			return
		}
		if deep < 4 {
			t.Fatalf("score %d: it is an old one behind %d deep rounds", is.Score, deep)
		}
		latest = max(latest, deep)
	})
	if states != 335922 || latest != 7 { // 6 + 6^2 + .. + 6^7
		t.Errorf("%d states, old ones behind %d deep rounds", states, latest)
	}
}

func TestTheScoreNeverRisesInARoundThatIsNotDeep(t *testing.T) {
	everyRow(api.Classic{}, 0, 6, func(was, is api.Classic, _ int, fell bool) {
		if fell && (is.Score > was.Score || is.Score == was.Score && was.Score > 0) {
			t.Fatalf("from %d to %d", was.Score, is.Score)
		}
		if !fell && is.Score <= was.Score && was.Score < most {
			t.Fatalf("from %d to %d, in a deep one", was.Score, is.Score)
		}
	})
	everyRound(func(marked bool, depth, limit, _ int64) {
		if modelDeep(marked, depth, limit) {
			return
		}
		for _, s := range scores {
			if c := Round(api.Classic{Score: s.is}, marked, depth, limit); c.Score > s.as || c.Score == s.as && s.as > 0 {
				t.Fatalf("marked %t, depth %d, limit %d: from %d to %d", marked, depth, limit, s.as, c.Score)
			}
		}
	})
}

func TestFourDeepRoundsMakeAnOldOne(t *testing.T) {
	for _, k := range []struct{ depth, limit int64 }{{10000, 5000}, {2, 1}, {2, lowest}, {highest, 0}, {highest, 1<<62 - 1}} {
		c := api.Classic{}
		for n := int64(1); n <= 12; n++ {
			c = Round(c, true, k.depth, k.limit)
			if c.Score != min(n*fourth, most) || Old(c) != (n >= 4) {
				t.Errorf("depth %d, limit %d, %d rounds: score %d, old %t", k.depth, k.limit, n, c.Score, Old(c))
			}
		}
	}
}

func TestHowManyDeepRoundsMakeAnOldOne(t *testing.T) {
	for _, c := range []struct {
		depth, limit int64
		want         int
	}{
		{10000, 5000, 4},
		{9999, 5000, 5}, // four are a little less than One
		{highest, 1 << 62, 5},
		{7500, 5000, 8},
		{6250, 5000, 16},
		{5001, 5000, 20165}, // by 52
		{one + 4, one, one}, // by 1
		{4, 3, 13},          // by 87381
		{5, 3, 7},           // by 174762
	} {
		n, s := 0, api.Classic{}
		for !Old(s) && n <= one {
			s = Round(s, true, c.depth, c.limit)
			n++
		}
		if n != c.want {
			t.Errorf("depth %d, limit %d: %d rounds, not %d", c.depth, c.limit, n, c.want)
		}
	}
}

func TestADeepRoundWhoseShareIsNone(t *testing.T) {
	for _, c := range []struct{ depth, limit int64 }{{one + 3, one}, {highest, highest - 1}, {1<<62 + 1, 1 << 62}} {
		for _, s := range scores {
			rounds(t, s.is, true, c.depth, c.limit, s.as) // it neither rises nor falls
		}
	}
}

func TestRoundsInARow(t *testing.T) {
	c := api.Classic{}
	for i, step := range []struct {
		marked bool
		depth  int64
		score  int64
		old    bool
	}{
		{true, 0, 0, false},
		{false, 0, 0, false},
		{true, 10000, 262144, false},
		{false, 10000, 258048, false},
		{true, 5000, 225792, false},
		{true, 20000, 487936, false},
		{true, 7500, 619008, false},
		{true, 5003, 619165, false},
		{false, 0, 609490, false}, // by 9675, of 9674 and a part
		{true, 10000, 871634, false},
		{true, 10000, 1133778, true},
		{false, 5000, 1116062, true},
		{false, 5000, 1098623, true},
		{false, 5000, 1081457, true},
		{false, 5000, 1064559, true},
		{false, 5000, 1047925, false},
		{true, 6250, 1113461, true},
		{true, 5000, 974278, false},
	} {
		c = Round(c, step.marked, step.depth, 5000)
		if c.Score != step.score || Old(c) != step.old {
			t.Errorf("round %d: score %d, old %t", i, c.Score, Old(c))
		}
	}
}

func TestRoundsByChance(t *testing.T) {
	r := rand.New(rand.NewSource(272))
	for range 3000 {
		c, want, deep := api.Classic{}, int64(0), 0
		for range 60 {
			marked, depth, limit := anyRound(r)
			next := Round(c, marked, depth, limit)
			want = modelScore(want, marked, depth, limit)
			isDeep := modelDeep(marked, depth, limit)
			if isDeep {
				deep++
			}
			if next.Score != want || Old(next) && deep < 4 || !isDeep && next.Score > c.Score || isDeep && next.Score < c.Score {
				t.Fatalf("marked %t, depth %d, limit %d, %d deep ones: from %d to %d, not to %d", marked, depth, limit, deep, c.Score, next.Score, want)
			}
			c = next
		}
	}
}

func TestAnOldOneIsForgotten(t *testing.T) {
	for _, c := range []struct {
		score         int64
		marked        bool
		toNew, toNone int
	}{
		{most, true, 6, 98},
		{highest, true, 6, 98},
		{most, false, 45, 697},
		{one, true, 1, 93},
		{one, false, 1, 653},
		{one + 1, true, 1, 93},
		{1065221, false, 2, 654},
		{1198373, true, 2, 94},
		{fourth, true, 0, 83},
	} {
		s, toNew, toNone := api.Classic{Score: c.score}, 0, 0
		for s.Score > 0 && toNone < 10000 {
			if Old(s) {
				toNew++
			}
			s = Round(s, c.marked, 0, 5000)
			toNone++
		}
		if toNew != c.toNew || toNone != c.toNone {
			t.Errorf("score %d, marked %t: no old one behind %d rounds, and 0 behind %d", c.score, c.marked, toNew, toNone)
		}
	}
}

func TestADeeperRoundRisesNoLess(t *testing.T) {
	for _, l := range limits {
		depths := depthsOf(l.as)
		for _, s := range scores {
			for i := 1; i < len(depths); i++ {
				less := Round(api.Classic{Score: s.is}, true, depths[i-1], l.is)
				if more := Round(api.Classic{Score: s.is}, true, depths[i], l.is); more.Score < less.Score {
					t.Fatalf("score %d, limit %d, depths %d and %d: %d and %d", s.is, l.is, depths[i-1], depths[i], less.Score, more.Score)
				}
			}
		}
	}
}

// Rules that hold everywhere

func TestWhatIsHandedInStays(t *testing.T) {
	for _, s := range scores {
		c := api.Classic{Score: s.is}
		for _, k := range kinds {
			Round(c, k.marked, k.depth, k.limit)
		}
		Old(c)
		if c != (api.Classic{Score: s.is}) {
			t.Errorf("%d became %d", s.is, c.Score)
		}
	}
	a := api.Classic{Score: fourth}
	b := Round(a, true, 10000, 5000)
	c := Round(b, false, 10000, 5000)
	if a.Score != fourth || b.Score != 2*fourth || c.Score != 2*fourth-1<<13 {
		t.Errorf("%d, %d and %d", a.Score, b.Score, c.Score)
	}
}

func TestTheSameIsAnsweredTheSame(t *testing.T) {
	r := rand.New(rand.NewSource(273))
	for range 20000 {
		c := api.Classic{Score: anyScore(r)}
		marked, depth, limit := anyRound(r)
		next, isOld := Round(c, marked, depth, limit), Old(c)
		Round(api.Classic{Score: anyScore(r)}, !marked, anyNumber(r), anyNumber(r)) // what others are told does not matter
		Old(api.Classic{Score: anyScore(r)})
		if Round(c, marked, depth, limit) != next || Old(c) != isOld {
			t.Fatalf("score %d, marked %t, depth %d, limit %d: it is not the same again", c.Score, marked, depth, limit)
		}
	}
}

func TestWhatIsToldIsWithinItsEnds(t *testing.T) {
	r := rand.New(rand.NewSource(274))
	for range 50000 {
		c := api.Classic{Score: anyNumber(r)}
		marked, depth, limit := anyRound(r)
		if next := Round(c, marked, depth, limit); next.Score < 0 || next.Score > most {
			t.Fatalf("score %d, marked %t, depth %d, limit %d: got %d", c.Score, marked, depth, limit, next.Score)
		}
	}
	for _, s := range scores {
		for _, k := range kinds {
			if next := Round(api.Classic{Score: s.is}, k.marked, k.depth, k.limit); next.Score != kept(next.Score, 0, most) {
				t.Errorf("score %d, marked %t, depth %d, limit %d: got %d", s.is, k.marked, k.depth, k.limit, next.Score)
			}
		}
	}
}
