package field

import (
	"math"
	"math/big"
	"math/rand"
	"testing"

	"leat/api"
	"leat/count"
	"leat/ecn"
	"leat/option"
)

const (
	greatest = math.MaxInt64
	least    = math.MinInt64
	round    = 1 << 24
	half     = 1 << 23
)

// lasts are numbers that a counter may be at: about 0, about multiples of a round and of half a one, on both sides of 0, about both ends, and some that a fixed seed gives.
func lasts() []int64 {
	l := []int64{5, 7, 1000, -1000, 5_000_000, -5_000_000}
	for _, about := range []int64{0, half, round, round + half, 2 * round, 3 * round, 255 * round, 256 * round, 1 << 31, 1 << 40, 1 << 53, 1 << 61, 1 << 62, greatest - round, greatest - half} {
		for by := int64(-2); by <= 2; by++ {
			l = append(l, about+by, -about+by)
		}
	}
	for by := int64(0); by <= 3; by++ {
		l = append(l, least+by, greatest-by)
	}
	r := rand.New(rand.NewSource(17))
	for range 20 {
		l = append(l, int64(r.Uint64()))
	}
	return l
}

// untold are numbers that are not told: those that are below 0.
func untold() []int64 {
	return []int64{-1, -2, -5, -100, -half + 1, -half, -half - 1, -round + 1, -round, -round - 1, -1<<32 + 3, -1 << 62, least, least + 1, least + half, least + round - 1}
}

// tolds are numbers that are told: about what stands where a last does, half a round and a round from it, below 2^24 and above it, about rounds, and at the greatest number.
func tolds(last int64) []int64 {
	l := []int64{0, 1, 2, half - 1, half, half + 1, round - 1, round, round + 1, 2*round - 1, 2 * round, 1<<32 + 3, 1 << 62, greatest - half, greatest - 1, greatest}
	for _, away := range []int64{0, 1, half - 1, half, half + 1, round - 1} {
		x := rest(last, away)
		l = append(l, x, x+round, x+1<<40)
	}
	return l
}

// rest is what is left of a number and some more modulo a round, by numbers without bounds.
func rest(last, more int64) int64 {
	sum := new(big.Int).Add(big.NewInt(last), big.NewInt(more))
	return sum.Mod(sum, big.NewInt(round)).Int64()
}

// stands is serial.Diff as its chapter says it, by numbers without bounds: from half a round behind to just below half a round ahead.
func stands(last, x int64) int64 {
	away := new(big.Int).Sub(big.NewInt(x), big.NewInt(last))
	d := away.Mod(away, big.NewInt(round)).Int64()
	if d >= half {
		d -= round
	}
	return d
}

// modelStep is Step as the chapter says it.
func modelStep(last, x int64) int64 {
	if d := stands(last, x); x >= 0 && d >= 0 {
		return d
	}
	return 0
}

// raised is the sum, by numbers without bounds, at its end.
func raised(n, by int64) int64 {
	sum := new(big.Int).Add(big.NewInt(n), big.NewInt(by))
	if !sum.IsInt64() {
		return greatest
	}
	return sum.Int64()
}

// modelFollow is Follow as the chapter says it, one by one.
func modelFollow(last, told [3]int64) [3]int64 {
	return [3]int64{
		raised(last[0], modelStep(last[0], told[0])),
		raised(last[1], modelStep(last[1], told[1])),
		raised(last[2], modelStep(last[2], told[2])),
	}
}

// modelFresh is Fresh as the chapter says it.
func modelFresh(last, told [3]int64) bool {
	behind := 0
	for i := range 3 {
		if told[i] >= 0 && stands(last[i], told[i]) < 0 {
			behind++
		}
	}
	return behind == 0
}

func TestTheExampleOfTheChapter(t *testing.T) {
	if got := Step(1<<24+5, 7); got != 2 {
		t.Errorf("got %d", got)
	}
}

// P17.1

func TestStepOfSome(t *testing.T) {
	for _, c := range []struct{ last, x, want int64 }{
		{0, 0, 0},
		{0, 1, 1},
		{5, 7, 2},
		{7, 7, 0},
		{7, 8, 1},
		{7, 6, 0},
		{0, 8000, 8000},
		{1000, 8000, 7000},
		{8000, 1000, 0},
		{round - 1, 0, 1},
		{round - 1, 3, 4},
		{round, 0, 0},
		{round, 1, 1},
		{round, round - 1, 0},
		{round + 1, 1, 0},
		{3*round + 10, 15, 5},
		{1<<40 + 100, 300, 200},
	} {
		if got := Step(c.last, c.x); got != c.want {
			t.Errorf("Step(%d, %d): got %d, want %d", c.last, c.x, got, c.want)
		}
	}
}

func TestStepHalfARoundAhead(t *testing.T) {
	for _, c := range []struct{ last, x, want int64 }{
		{0, half - 1, half - 1},
		{0, half, 0},
		{0, half + 1, 0},
		{0, round - 1, 0},
		{1, half, half - 1},
		{1, half + 1, 0},
		{1, 0, 0},
		{half, round - 1, half - 1},
		{half, 0, 0},
		{half, 1, 0},
		{half + 1, 0, half - 1},
		{half + 1, 1, 0},
		{round - 1, half - 2, half - 1},
		{round - 1, half - 1, 0},
	} {
		if got := Step(c.last, c.x); got != c.want {
			t.Errorf("Step(%d, %d): got %d, want %d", c.last, c.x, got, c.want)
		}
	}
}

func TestStepOfEachLast(t *testing.T) {
	for _, last := range lasts() {
		for _, c := range []struct{ away, want int64 }{
			{0, 0},
			{1, 1},
			{-1, 0},
			{2, 2},
			{half - 1, half - 1},
			{half, 0},
			{half + 1, 0},
			{-half + 1, 0},
			{-half, 0},
			{-half - 1, half - 1},
		} {
			x := rest(last, c.away)
			if got := Step(last, x); got != c.want {
				t.Errorf("Step(%d, %d), which is %d away: got %d, want %d", last, x, c.away, got, c.want)
			}
		}
	}
}

func TestStepOfWhatIsNotTold(t *testing.T) {
	for _, last := range lasts() {
		for _, x := range untold() {
			if got := Step(last, x); got != 0 {
				t.Errorf("Step(%d, %d): got %d", last, x, got)
			}
		}
	}
	if got := Step(-5, -3); got != 0 { // two ahead, if it were told
		t.Errorf("Step(-5, -3): got %d", got)
	}
}

func TestStepOfARoundAndAbove(t *testing.T) {
	for _, c := range []struct{ last, x, want int64 }{
		{0, round, 0},
		{0, round + 3, 3},
		{0, round - 1, 0},
		{0, round + half - 1, half - 1},
		{0, round + half, 0},
		{7, 2*round + 8, 1},
		{7, 1<<32 + 5, 0},
		{7, 1<<40 + 9, 2},
		{0, greatest, 0}, // it is a round less one, modulo a round
		{round - 2, greatest, 1},
		{half, greatest, half - 1},
		{half - 1, greatest, 0},
		{0, greatest - half, half - 1},
		{greatest, greatest, 0},
		{greatest - 1, greatest, 1},
		{greatest, greatest - 1, 0},
	} {
		if got := Step(c.last, c.x); got != c.want {
			t.Errorf("Step(%d, %d): got %d, want %d", c.last, c.x, got, c.want)
		}
	}
}

func TestStepOfLastsBelowZero(t *testing.T) {
	for _, c := range []struct{ last, x, want int64 }{
		{-1, 0, 1},
		{-1, round - 1, 0},
		{-1, round - 2, 0},
		{-1, half - 2, half - 1},
		{-1, half - 1, 0},
		{-5, round - 3, 2},
		{-half, half, 0},
		{-half, half + 1, 1},
		{-half, 0, 0},
		{-half + 1, 0, half - 1},
		{-round, 0, 0},
		{-round, 4, 4},
		{-round - 1, 0, 1},
		{-round + 1, 0, 0},
		{-3*round - 2, 5, 7},
		{-1<<40 + 5, 7, 2},
	} {
		if got := Step(c.last, c.x); got != c.want {
			t.Errorf("Step(%d, %d): got %d, want %d", c.last, c.x, got, c.want)
		}
	}
}

func TestStepOfLastsAtTheEnds(t *testing.T) {
	for _, c := range []struct{ last, x, want int64 }{
		{greatest, round - 1, 0},
		{greatest, 0, 1},
		{greatest, half - 2, half - 1},
		{greatest, half - 1, 0},
		{greatest, round - 2, 0},
		{greatest - 5, round - 1, 5},
		{greatest - round, 3, 4},
		{least, 0, 0},
		{least, 1, 1},
		{least, half - 1, half - 1},
		{least, half, 0},
		{least, round - 1, 0},
		{least + 1, 0, 0},
		{least + 1, 3, 2},
		{least, greatest, 0},
		{greatest, least, 0},
		{least, least, 0},
	} {
		if got := Step(c.last, c.x); got != c.want {
			t.Errorf("Step(%d, %d): got %d, want %d", c.last, c.x, got, c.want)
		}
	}
}

func TestStepAgainstTheModel(t *testing.T) {
	for _, last := range lasts() {
		for _, x := range append(tolds(last), untold()...) {
			if got, want := Step(last, x), modelStep(last, x); got != want {
				t.Fatalf("Step(%d, %d): got %d, want %d", last, x, got, want)
			}
		}
	}
}

// P17.2

func TestFollowOfSome(t *testing.T) {
	for _, c := range []struct{ last, told, want [3]int64 }{
		{[3]int64{1, 0, 1}, [3]int64{101, 200, 301}, [3]int64{101, 200, 301}},
		{[3]int64{10, 20, 30}, [3]int64{15, -1, 29}, [3]int64{15, 20, 30}},
		{[3]int64{10, 20, 30}, [3]int64{-1, 25, -1}, [3]int64{10, 25, 30}},
		{[3]int64{10, 20, 30}, [3]int64{-1, -1, 31}, [3]int64{10, 20, 31}},
		{[3]int64{10, 20, 30}, [3]int64{10, 20, 30}, [3]int64{10, 20, 30}},
		{[3]int64{10, 20, 30}, [3]int64{9, 19, 29}, [3]int64{10, 20, 30}},
		{[3]int64{10, 20, 30}, [3]int64{30, 10, 20}, [3]int64{30, 20, 30}},
		{[3]int64{round - 1, round, round + 1}, [3]int64{1, 1, 1}, [3]int64{round + 1, round + 1, round + 1}},
		{[3]int64{0, 0, 0}, [3]int64{half - 1, half, half + 1}, [3]int64{half - 1, 0, 0}},
		{[3]int64{0, 0, 0}, [3]int64{round + 3, greatest, greatest - half}, [3]int64{3, 0, half - 1}},
		{[3]int64{-1, -round, -half}, [3]int64{0, 4, half + 1}, [3]int64{0, -round + 4, -half + 1}},
		{[3]int64{least, least + 1, least}, [3]int64{1, 3, half - 1}, [3]int64{least + 1, least + 3, least + half - 1}},
	} {
		if got := Follow(c.last, c.told); got != c.want {
			t.Errorf("Follow(%v, %v): got %v, want %v", c.last, c.told, got, c.want)
		}
	}
}

func TestFollowOfNoneThatIsTold(t *testing.T) {
	at := lasts()
	for i := range at {
		last := [3]int64{at[i], at[(i+7)%len(at)], at[(i+19)%len(at)]}
		for k, x := range untold() {
			told := [3]int64{x, untold()[(k+3)%len(untold())], -1}
			if got := Follow(last, told); got != last {
				t.Fatalf("Follow(%v, %v): got %v", last, told, got)
			}
		}
	}
}

func TestFollowOfOneLeavesTheOthers(t *testing.T) {
	for place := range 3 {
		last := [3]int64{100, 200, 300}
		told := [3]int64{-1, -1, -1}
		told[place] = 1000
		want := last
		want[place] = 1000
		if got := Follow(last, told); got != want {
			t.Errorf("of the one at %d: got %v, want %v", place, got, want)
		}
		last[place] = 2000 // which is behind, and leaves all
		if got := Follow(last, told); got != last {
			t.Errorf("of the one at %d that is behind: got %v", place, got)
		}
	}
}

func TestFollowIsEachOneByItsOwnStep(t *testing.T) {
	at := lasts()
	r := rand.New(rand.NewSource(172))
	for i := range at {
		last := [3]int64{at[i], at[(i+5)%len(at)], at[(i+11)%len(at)]}
		var each [3][]int64
		for k := range each {
			each[k] = append(tolds(last[k]), untold()...)
		}
		for range 200 {
			told := [3]int64{each[0][r.Intn(len(each[0]))], each[1][r.Intn(len(each[1]))], each[2][r.Intn(len(each[2]))]}
			if got, want := Follow(last, told), modelFollow(last, told); got != want {
				t.Fatalf("Follow(%v, %v): got %v, want %v", last, told, got, want)
			}
		}
	}
}

func TestFollowStaysAtTheGreatestNumber(t *testing.T) {
	for _, c := range []struct{ last, told, want [3]int64 }{
		{[3]int64{greatest, greatest, greatest}, [3]int64{round - 1, 0, half - 2}, [3]int64{greatest, greatest, greatest}},
		{[3]int64{greatest - 1, greatest - 1, greatest - 1}, [3]int64{round - 1, 0, 1}, [3]int64{greatest, greatest, greatest}},
		{[3]int64{greatest - 5, greatest - 5, greatest - 5}, [3]int64{round - 2, round - 1, 0}, [3]int64{greatest - 1, greatest, greatest}},
		{[3]int64{greatest - half, greatest - half + 1, greatest - half + 2}, [3]int64{round - 2, round - 1, 0}, [3]int64{greatest - 1, greatest, greatest}},
		{[3]int64{greatest, 5, greatest}, [3]int64{0, 7, -1}, [3]int64{greatest, 7, greatest}},
		{[3]int64{greatest, greatest - 1, 0}, [3]int64{round - 2, round - 3, 1}, [3]int64{greatest, greatest - 1, 1}},
	} {
		if got := Follow(c.last, c.told); got != c.want {
			t.Errorf("Follow(%v, %v): got %v, want %v", c.last, c.told, got, c.want)
		}
	}
}

func TestFollowLeavesWhatWasHandedInAsItWas(t *testing.T) {
	last, told := [3]int64{10, 20, 30}, [3]int64{11, 22, 33}
	got := Follow(last, told)
	if got != told {
		t.Errorf("got %v", got)
	}
	if last != [3]int64{10, 20, 30} || told != [3]int64{11, 22, 33} {
		t.Errorf("what was handed in is %v and %v", last, told)
	}
	got[1] = 99
	if again := Follow(last, told); again != told {
		t.Errorf("of the same behind that: got %v", again)
	}
}

func TestFreshOfSome(t *testing.T) {
	last := [3]int64{10, 20, 30}
	for _, c := range []struct {
		told [3]int64
		want bool
	}{
		{[3]int64{10, 20, 30}, true}, // it stands just at its last one
		{[3]int64{11, 21, 31}, true},
		{[3]int64{11, 20, 30}, true},
		{[3]int64{9, 21, 31}, false},
		{[3]int64{11, 19, 31}, false},
		{[3]int64{11, 21, 29}, false},
		{[3]int64{9, 19, 29}, false},
		{[3]int64{9, -1, -1}, false},
		{[3]int64{-1, 19, -1}, false},
		{[3]int64{-1, -1, 29}, false},
		{[3]int64{15, -1, 29}, false},
		{[3]int64{-1, 21, 31}, true},
		{[3]int64{11, -1, 31}, true},
		{[3]int64{11, 21, -1}, true},
		{[3]int64{-1, -1, 30}, true},
		{[3]int64{-1, -1, -1}, true},
		{[3]int64{least, -round, -2}, true},
		{[3]int64{half + 9, half + 19, half + 29}, true},
		{[3]int64{half + 10, 20, 30}, false}, // half a round ahead, which is behind
		{[3]int64{10, half + 20, 30}, false},
		{[3]int64{10, 20, half + 30}, false},
		{[3]int64{half + 11, 20, 30}, false},
		{[3]int64{round + 10, round + 20, round + 30}, true},
		{[3]int64{round + 9, round + 20, round + 30}, false},
		{[3]int64{10, 20, greatest}, false},
		{[3]int64{10, 20, greatest - half}, true},
	} {
		if got := Fresh(last, c.told); got != c.want {
			t.Errorf("Fresh(%v, %v): got %v", last, c.told, got)
		}
	}
}

func TestFreshAtEachPlace(t *testing.T) {
	at := lasts()
	for i := range at {
		last := [3]int64{at[i], at[(i+5)%len(at)], at[(i+11)%len(at)]}
		all := [3]int64{rest(last[0], 1), rest(last[1], 0), rest(last[2], half-1)}
		if !Fresh(last, all) {
			t.Fatalf("Fresh(%v, %v) is false", last, all)
		}
		for place := range 3 {
			for _, away := range []int64{-1, -2, -half, half, half + 1} {
				told := all
				told[place] = rest(last[place], away)
				if Fresh(last, told) {
					t.Fatalf("Fresh(%v, %v) is true, where the one at %d is behind", last, told, place)
				}
				for _, x := range untold() {
					told[place] = x
					if !Fresh(last, told) {
						t.Fatalf("Fresh(%v, %v) is false, where the one at %d is not told", last, told, place)
					}
				}
			}
		}
	}
}

func TestWhatIsNotToldNeverCountsAsBehind(t *testing.T) {
	for _, last := range lasts() {
		for _, x := range untold() {
			if !Fresh([3]int64{last, last, last}, [3]int64{x, x, x}) {
				t.Fatalf("of three at %d, and %d: false", last, x)
			}
		}
	}
}

func TestFreshAgainstTheModel(t *testing.T) {
	at := lasts()
	r := rand.New(rand.NewSource(173))
	for i := range at {
		last := [3]int64{at[i], at[(i+3)%len(at)], at[(i+17)%len(at)]}
		var each [3][]int64
		for k := range each {
			each[k] = append(tolds(last[k]), untold()...)
		}
		for range 200 {
			told := [3]int64{each[0][r.Intn(len(each[0]))], each[1][r.Intn(len(each[1]))], each[2][r.Intn(len(each[2]))]}
			if got, want := Fresh(last, told), modelFresh(last, told); got != want {
				t.Fatalf("Fresh(%v, %v): got %v", last, told, got)
			}
		}
	}
}

// whatever is a number of any size, as likely a short one as a long one, on both sides of 0.
func whatever(r *rand.Rand) int64 {
	return int64(r.Uint64()) >> r.Intn(64)
}

func TestOfWhateverComes(t *testing.T) {
	r := rand.New(rand.NewSource(1717))
	for range 200000 {
		last := [3]int64{whatever(r), whatever(r), whatever(r)}
		told := [3]int64{whatever(r), whatever(r), whatever(r)}
		if got, want := Step(last[0], told[0]), modelStep(last[0], told[0]); got != want {
			t.Fatalf("Step(%d, %d): got %d, want %d", last[0], told[0], got, want)
		}
		if got, want := Follow(last, told), modelFollow(last, told); got != want {
			t.Fatalf("Follow(%v, %v): got %v, want %v", last, told, got, want)
		}
		if got, want := Fresh(last, told), modelFresh(last, told); got != want {
			t.Fatalf("Fresh(%v, %v): got %v", last, told, got)
		}
	}
}

// P17.3

// follows fails if Follow does not tell all of what each counter rose by, or if what is told again tells more.
func follows(t *testing.T, last, more [3]int64) [3]int64 {
	t.Helper()
	var now, told [3]int64
	for i := range 3 {
		now[i] = last[i] + more[i]
		told[i] = rest(last[i], more[i])
	}
	if !Fresh(last, told) {
		t.Fatalf("%v, behind %v more of %v, is not fresh", told, more, last)
	}
	got := Follow(last, told)
	if got != now {
		t.Fatalf("behind %v more of %v: got %v, want %v", more, last, got, now)
	}
	if again := Follow(got, told); again != now || !Fresh(got, told) {
		t.Fatalf("behind %v more of %v, told again: got %v, want %v", more, last, again, now)
	}
	return got
}

func TestFollowTellsAll(t *testing.T) {
	mores := []int64{0, 1, 2, 1448, 65536, half / 2, half - 2, half - 1}
	at := lasts()
	for i := range at {
		last := [3]int64{at[i], at[(i+5)%len(at)], at[(i+11)%len(at)]}
		for k := range last {
			last[k] = min(last[k], greatest-half) // above that no more may be left to tell
		}
		for a := range mores {
			for b := range mores {
				follows(t, last, [3]int64{mores[a], mores[b], mores[(a+b)%len(mores)]})
			}
		}
	}
}

func TestFollowTellsAllUpToTheGreatestNumber(t *testing.T) {
	follows(t, [3]int64{greatest - half + 1, greatest - 1, greatest}, [3]int64{half - 1, 1, 0})
	follows(t, [3]int64{greatest - half + 2, greatest - 5, greatest - 1448}, [3]int64{half - 2, 4, 1448})
}

func TestFollowTellsNothingOfHalfARoundMore(t *testing.T) {
	for _, last := range []int64{0, 1, half, round - 1, round, 1 << 40, -1, -round, least} {
		three := [3]int64{last, last, last}
		told := [3]int64{rest(last, half), rest(last, half+1), rest(last, round-1)}
		if got := Follow(three, told); got != three {
			t.Errorf("of %v: got %v", three, got)
		}
	}
}

func TestFollowTellsAllTimeAndAgain(t *testing.T) {
	r := rand.New(rand.NewSource(3))
	for _, first := range [][3]int64{{1, 0, 1}, {0, 0, 0}, {round - 1, round, round + 1}, {-round, -1, least}} {
		last := first
		for range 2000 {
			last = follows(t, last, [3]int64{r.Int63n(half), r.Int63n(half), r.Int63n(1 << r.Intn(24))})
		}
	}
}

func TestFollowOfWhatAReceiverTells(t *testing.T) {
	r := rand.New(rand.NewSource(4))
	c := count.Start(5)
	last := count.Bytes(c)
	for turn := range 3000 {
		for range r.Intn(100) { // at most 99 packets, which are fewer than half a round of bytes
			c = count.Take(c, []int{ecn.Not, ecn.Ect1, ecn.Ect0, ecn.Ce}[r.Intn(4)], r.Int63n(api.MaxSize+1))
		}
		told := option.Counters(count.Option(c, turn))
		if !Fresh(last, told) {
			t.Fatalf("at turn %d: %v is not fresh behind %v", turn, told, last)
		}
		if last = Follow(last, told); last != [3]int64{c.E0b, c.Ceb, c.E1b} {
			t.Fatalf("at turn %d: got %v, where the receiver is at %v", turn, last, c)
		}
	}
	if c.Ceb < 2*round {
		t.Fatalf("the counters did not go round: %v", c)
	}
}

func TestWhatWasOvertakenTellsNothing(t *testing.T) {
	was := [3]int64{1000, 2000, 3000}
	now := Follow(was, [3]int64{1100, 2200, 3300})
	if Fresh(now, was) {
		t.Error("it is fresh")
	}
	if got := Follow(now, was); got != now {
		t.Errorf("got %v", got)
	}
}
