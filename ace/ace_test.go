package ace

import (
	"math"
	"math/big"
	"math/rand"
	"testing"

	"leat/api"
	"leat/count"
	"leat/ecn"
)

const (
	greatest = math.MaxInt64
	least    = math.MinInt64
	cap40    = 1 << 40
)

// lasts are numbers that a last may be: about each multiple of 8 near 0, about where bits end, about both ends, and some that a fixed seed gives.
func lasts() []int64 {
	var l []int64
	for n := int64(-40); n <= 40; n++ {
		l = append(l, n)
	}
	for _, about := range []int64{1 << 8, 1 << 16, 1 << 24, 1 << 31, 1 << 32, 1 << 40, 1 << 53, 1 << 61, 1 << 62} {
		for by := int64(-9); by <= 9; by++ {
			l = append(l, about+by, -about+by)
		}
	}
	for by := int64(0); by <= 17; by++ {
		l = append(l, least+by, greatest-by)
	}
	r := rand.New(rand.NewSource(16))
	for range 50 {
		l = append(l, int64(r.Uint64()))
	}
	return l
}

// aces are all numbers that bits may come in as.
func aces() []uint8 {
	l := make([]uint8, 256)
	for i := range l {
		l[i] = uint8(i)
	}
	return l
}

// nothings are numbers that are not above 0.
func nothings() []int64 {
	return []int64{0, -1, -2, -7, -8, -9, -1000, -cap40 - 1, -cap40, -1<<32 + 5, -1 << 62, least, least + 1, least + 8}
}

// somethings are numbers above 0: small ones, about where fields and the bytes that count end, and the greatest ones.
func somethings() []int64 {
	l := []int64{1, 2, 3, 6, 7, 8, 9, 15, 16, 17, 999, 1000, 1001, 7000, 7001, 9000, 65536}
	for _, about := range []int64{1 << 24, 1 << 32, 1 << 39, cap40, 1 << 41, 1 << 50, 1 << 62} {
		l = append(l, about-8, about-1, about, about+1, about+8)
	}
	return append(l, greatest-8, greatest-1, greatest)
}

// leastStep is Step as the chapter says it, found by trying, by numbers without bounds.
func leastStep(last int64, ace uint8) int64 {
	for n := int64(0); n <= 7; n++ {
		sum := new(big.Int).Add(big.NewInt(last), big.NewInt(n))
		sum.Sub(sum, big.NewInt(int64(ace)))
		if sum.Mod(sum, big.NewInt(8)).Sign() == 0 {
			return n
		}
	}
	panic("there is none")
}

// upwards is bytes by mss, upwards, by numbers without bounds, of bytes and mss above 0.
func upwards(bytes, mss int64) int64 {
	q, rest := new(big.Int).DivMod(big.NewInt(bytes), big.NewInt(mss), new(big.Int))
	if rest.Sign() > 0 {
		q.Add(q, big.NewInt(1))
	}
	return q.Int64()
}

// leastGuess is Guess as the chapter says it: from the fewest packets on, the first number that is Step modulo 8.
func leastGuess(last int64, ace uint8, bytes, mss int64) int64 {
	step := leastStep(last, ace)
	if bytes <= 0 || mss <= 0 {
		return step
	}
	n := upwards(min(bytes, cap40), mss)
	for n%8 != step {
		n++
	}
	return n
}

func TestTheExamplesOfTheChapter(t *testing.T) {
	if got := Step(13, 2); got != 5 {
		t.Errorf("Step: got %d", got)
	}
	if got := Guess(13, 2, 9*1000, 1000); got != 13 {
		t.Errorf("Guess: got %d", got)
	}
}

func TestTheExampleOfTheWhole(t *testing.T) {
	if got := Step(5, 6); got != 1 {
		t.Errorf("of bits 6 where 5 were known: got %d", got)
	}
	if got := Guess(5, 5, 8000, 1000); got != 8 {
		t.Errorf("of 8000 bytes, and bits 5 where 5 were known: got %d", got)
	}
}

// P16.1

func TestStepOfSome(t *testing.T) {
	for _, c := range []struct {
		last int64
		ace  uint8
		want int64
	}{
		{0, 0, 0},
		{0, 1, 1},
		{0, 7, 7},
		{1, 0, 7},
		{5, 5, 0},
		{5, 6, 1},
		{5, 4, 7},
		{7, 0, 1},
		{8, 0, 0},
		{8, 7, 7},
		{9, 0, 7},
		{15, 0, 1},
		{1 << 40, 3, 3},
		{1<<40 + 7, 3, 4},
	} {
		if got := Step(c.last, c.ace); got != c.want {
			t.Errorf("Step(%d, %d): got %d, want %d", c.last, c.ace, got, c.want)
		}
	}
}

func TestStepOfLastsBelowZero(t *testing.T) {
	for _, c := range []struct {
		last int64
		ace  uint8
		want int64
	}{
		{-1, 0, 1},
		{-1, 7, 0},
		{-1, 6, 7},
		{-3, 0, 3},
		{-7, 0, 7},
		{-7, 1, 0},
		{-8, 0, 0},
		{-8, 7, 7},
		{-9, 0, 1},
		{-1 << 32, 5, 5},
	} {
		if got := Step(c.last, c.ace); got != c.want {
			t.Errorf("Step(%d, %d): got %d, want %d", c.last, c.ace, got, c.want)
		}
	}
}

func TestStepOfLastsAtTheEnds(t *testing.T) {
	for _, c := range []struct {
		last int64
		ace  uint8
		want int64
	}{
		{greatest, 7, 0},
		{greatest, 0, 1},
		{greatest, 6, 7},
		{greatest - 1, 5, 7},
		{greatest - 7, 7, 7},
		{least, 0, 0},
		{least, 1, 1},
		{least, 7, 7},
		{least + 1, 0, 7},
		{least + 7, 0, 1},
		{1<<62 + 3, 3, 0},
		{1<<62 + 5, 4, 7},
		{-1<<62 - 3, 5, 0},
	} {
		if got := Step(c.last, c.ace); got != c.want {
			t.Errorf("Step(%d, %d): got %d, want %d", c.last, c.ace, got, c.want)
		}
	}
}

func TestStepOfAnAceAboveSeven(t *testing.T) {
	for _, last := range lasts() {
		for _, ace := range aces() {
			if got, want := Step(last, ace), Step(last, ace%8); got != want {
				t.Fatalf("Step(%d, %d): got %d, and of its lowest bits %d", last, ace, got, want)
			}
		}
	}
	if got := Step(0, 12); got != 4 {
		t.Errorf("Step(0, 12): got %d", got)
	}
	if got := Step(-1, 255); got != 0 {
		t.Errorf("Step(-1, 255): got %d", got)
	}
}

func TestStepIsTheOneThatIsAdded(t *testing.T) {
	for _, last := range lasts() {
		for _, ace := range aces() {
			if got, want := Step(last, ace), leastStep(last, ace); got != want {
				t.Fatalf("Step(%d, %d): got %d, want %d", last, ace, got, want)
			}
		}
	}
}

// P16.2

func TestGuessOfSome(t *testing.T) {
	for _, c := range []struct {
		last       int64
		ace        uint8
		bytes, mss int64
		want       int64
	}{
		{0, 0, 1, 1000, 8}, // a byte takes a packet, and no packet at all is too few
		{0, 1, 1, 1000, 1},
		{0, 2, 1, 1000, 2},
		{0, 7, 1, 1000, 7},
		{5, 5, 1000, 1000, 8},
		{5, 5, 8000, 1000, 8},
		{5, 5, 8001, 1000, 16},
		{5, 4, 7000, 1000, 7},
		{5, 4, 7001, 1000, 15},
		{5, 4, 15000, 1000, 15},
		{5, 4, 15001, 1000, 23},
		{-3, 0, 11, 1, 11},
		{-3, 0, 12, 1, 19},
		{greatest, 0, 9, 1, 9},
		{greatest, 0, 10, 1, 17},
		{least, 255, 8, 1, 15},
		{0, 12, 5, 1, 12},
	} {
		if got := Guess(c.last, c.ace, c.bytes, c.mss); got != c.want {
			t.Errorf("Guess(%d, %d, %d, %d): got %d, want %d", c.last, c.ace, c.bytes, c.mss, got, c.want)
		}
	}
}

func TestGuessOfNoBytesIsStep(t *testing.T) {
	for _, last := range lasts() {
		for ace := range uint8(9) {
			want := leastStep(last, ace)
			for _, none := range nothings() {
				for _, mss := range append(somethings(), nothings()...) {
					if got := Guess(last, ace, none, mss); got != want {
						t.Fatalf("Guess(%d, %d, %d, %d): got %d, want %d", last, ace, none, mss, got, want)
					}
				}
			}
		}
	}
}

func TestGuessOfNoMssIsStep(t *testing.T) {
	for _, last := range lasts() {
		for ace := range uint8(9) {
			want := leastStep(last, ace)
			for _, none := range nothings() {
				for _, bytes := range somethings() {
					if got := Guess(last, ace, bytes, none); got != want {
						t.Fatalf("Guess(%d, %d, %d, %d): got %d, want %d", last, ace, bytes, none, got, want)
					}
				}
			}
		}
	}
}

func TestGuessAboutMultiplesOfMss(t *testing.T) {
	for _, mss := range []int64{2, 3, 7, 8, 1000, 1448, 65536, 1 << 20} {
		for n := int64(1); n <= 40; n++ {
			ace := uint8(n % 8)
			for _, c := range []struct{ bytes, want int64 }{
				{n*mss - 1, n},
				{n * mss, n},
				{n*mss + 1, n + 8}, // one packet more than n, which the bits do not mean
				{(n-1)*mss + 1, n},
			} {
				if got := Guess(0, ace, c.bytes, mss); got != c.want {
					t.Fatalf("Guess(0, %d, %d, %d): got %d, want %d", ace, c.bytes, mss, got, c.want)
				}
			}
		}
	}
}

func TestGuessOfAnMssOfOne(t *testing.T) {
	for _, c := range []struct {
		ace         uint8
		bytes, want int64
	}{
		{0, 1, 8},
		{1, 1, 1},
		{0, 8, 8},
		{0, 9, 16},
		{0, cap40, cap40},
		{1, cap40, cap40 + 1},
		{7, cap40, cap40 + 7},
		{7, cap40 - 1, cap40 - 1},
		{0, cap40 - 1, cap40},
		{0, cap40 - 7, cap40},
		{0, cap40 - 8, cap40 - 8},
		{7, cap40 - 8, cap40 - 1},
	} {
		if got := Guess(0, c.ace, c.bytes, 1); got != c.want {
			t.Errorf("Guess(0, %d, %d, 1): got %d, want %d", c.ace, c.bytes, got, c.want)
		}
	}
}

func TestGuessOfTheGreatestMss(t *testing.T) {
	for _, mss := range []int64{greatest, greatest - 1, 1 << 62, 1 << 50, cap40 + 1, cap40} {
		for _, bytes := range somethings() {
			for ace := range uint8(8) {
				want := int64(ace)
				if ace == 0 {
					want = 8
				}
				if got := Guess(0, ace, bytes, mss); got != want {
					t.Fatalf("Guess(0, %d, %d, %d): got %d, want %d", ace, bytes, mss, got, want)
				}
			}
		}
	}
}

func TestGuessOfBytesAboveTheMostThatCount(t *testing.T) {
	for _, mss := range []int64{1, 2, 3, 7, 1000, 1 << 20, cap40 - 1, cap40, cap40 + 1, greatest} {
		for _, above := range []int64{cap40 + 1, cap40 + 8, cap40 + 1000, 1 << 41, 1 << 50, 1 << 62, greatest - 1, greatest} {
			for ace := range uint8(8) {
				if got, want := Guess(3, ace, above, mss), leastGuess(3, ace, cap40, mss); got != want {
					t.Fatalf("Guess(3, %d, %d, %d): got %d, want %d", ace, above, mss, got, want)
				}
			}
		}
	}
	if got := Guess(0, 0, cap40+1, 1); got != cap40 {
		t.Errorf("of 2^40 + 1 bytes: got %d", got)
	}
	if got := Guess(0, 2, cap40, cap40-1); got != 2 {
		t.Errorf("of 2^40 bytes, of packets of one less: got %d", got)
	}
	if got := Guess(0, 1, greatest, cap40); got != 1 {
		t.Errorf("of the greatest number of bytes, of packets of 2^40: got %d", got)
	}
}

func TestGuessIsTheLeastOne(t *testing.T) {
	for _, last := range []int64{0, 1, 7, 8, 13, 1<<62 + 1, greatest, -1, -8, least} {
		for _, bytes := range somethings() {
			for _, mss := range somethings() {
				for _, ace := range []uint8{0, 3, 7, 8, 255} {
					if got, want := Guess(last, ace, bytes, mss), leastGuess(last, ace, bytes, mss); got != want {
						t.Fatalf("Guess(%d, %d, %d, %d): got %d, want %d", last, ace, bytes, mss, got, want)
					}
				}
			}
		}
	}
}

// whatever is a number of any size, as likely a short one as a long one.
func whatever(r *rand.Rand) int64 {
	return int64(r.Uint64()) >> r.Intn(64)
}

func TestGuessOfWhateverComes(t *testing.T) {
	r := rand.New(rand.NewSource(1616))
	for range 200000 {
		last, ace, bytes, mss := whatever(r), uint8(r.Intn(256)), whatever(r), whatever(r)
		if got, want := Guess(last, ace, bytes, mss), leastGuess(last, ace, bytes, mss); got != want {
			t.Fatalf("Guess(%d, %d, %d, %d): got %d, want %d", last, ace, bytes, mss, got, want)
		}
		if got, want := Step(last, ace), leastStep(last, ace); got != want {
			t.Fatalf("Step(%d, %d): got %d, want %d", last, ace, got, want)
		}
	}
}

// P16.3

// came is a count to which so many marked packets of so many bytes each came.
func came(c api.Count, many, bytes int64) api.Count {
	for range many {
		c = count.Take(c, ecn.Ce, bytes)
	}
	return c
}

func TestStepIsAllOfAtMostSevenPackets(t *testing.T) {
	for _, last := range lasts() {
		for n := int64(0); n <= min(7, greatest-max(last, 0)); n++ {
			if got := Step(last, count.Ace(api.Count{Cep: last + n})); got != n {
				t.Fatalf("from %d on, of %d: got %d", last, n, got)
			}
			if got := Step(last, count.Ace(came(api.Count{Cep: last}, n, 1500))); got != n {
				t.Fatalf("from a count at %d on, of %d: got %d", last, n, got)
			}
		}
	}
}

func TestStepIsNotAllOfEightPackets(t *testing.T) {
	for n := int64(8); n <= 30; n++ {
		if got := Step(13, count.Ace(api.Count{Cep: 13 + n})); got != n%8 {
			t.Errorf("of %d: got %d", n, got)
		}
	}
}

func TestGuessIsAllOfWhatAReceiverCounts(t *testing.T) {
	for _, last := range []int64{0, 5, 6, 7, 8, 1 << 40, greatest - 300, -5, least} {
		for _, mss := range []int64{1, 2, 1000, 1448, api.MaxSize} {
			was := count.Start(last)
			for n := range int64(300) {
				now := came(was, n, mss)
				if got := Guess(last, count.Ace(now), now.Ceb-was.Ceb, mss); got != n {
					t.Fatalf("from %d on, of %d of %d bytes: got %d", last, n, mss, got)
				}
			}
		}
	}
}

func TestGuessIsAllHoweverManyThereWere(t *testing.T) {
	r := rand.New(rand.NewSource(3))
	for range 100000 {
		mss := 1 + r.Int63n(1<<r.Intn(41))
		most := int64(cap40 / mss)
		for _, n := range []int64{0, 1, 7, 8, r.Int63n(most + 1), most - 1, most} {
			last := r.Int63() - 1<<62
			if n < 0 || n > most {
				continue
			}
			ace := uint8((last + n) & 7)
			if got := Guess(last, ace, n*mss, mss); got != n {
				t.Fatalf("from %d on, of %d of %d bytes: got %d", last, n, mss, got)
			}
		}
	}
}
