package serial

import (
	"math"
	"math/big"
	"math/rand"
	"slices"
	"testing"
)

const (
	full     = math.MaxUint64
	greatest = math.MaxInt64
	least    = math.MinInt64
	far      = 1 << 62
)

// allBits are all numbers of bits, and some below and above them.
func allBits() []int {
	l := []int{math.MinInt, math.MinInt + 1, math.MinInt32, -64, -62, -2, -1, 0, 63, 64, 65, 66, 126, 128, 256, 1 << 32, 1<<32 + 3, math.MaxInt - 1, math.MaxInt}
	for bits := 1; bits <= 62; bits++ {
		l = append(l, bits)
	}
	return l
}

// counted is the number of bits as which one counts.
func counted(bits int) uint {
	return uint(min(max(bits, 1), 62))
}

// words are numbers of 64 bits: around 0, half a round, a round, two of them and 2^64, and some that a fixed seed gives.
func words(bits int) []uint64 {
	whole := uint64(1) << counted(bits)
	r := rand.New(rand.NewSource(3))
	var l []uint64
	for _, x := range []uint64{0, whole / 2, whole, whole + whole/2, 2 * whole, 1 << 63, full / 3, r.Uint64(), r.Uint64()} {
		l = append(l, x-1, x, x+1, -x)
	}
	for range 8 {
		l = append(l, r.Uint64()>>r.Intn(64))
	}
	slices.Sort(l)
	return slices.Compact(l)
}

// lasts are the words as signed ones: around 0, around both ends that count and beyond them.
func lasts(bits int) []int64 {
	var l []int64
	for _, x := range words(bits) {
		l = append(l, int64(x))
	}
	return append(l, -far-1, -far, -far+1, far-1, far, far+1, least, greatest)
}

// kept is the last as which one counts.
func kept(last int64) int64 {
	return min(max(last, -far), far)
}

func number(x uint64) *big.Int { return new(big.Int).SetUint64(x) }

// round is 2^bits without bounds, of the bits that count.
func round(bits int) *big.Int {
	return new(big.Int).Lsh(big.NewInt(1), counted(bits))
}

// half is 2^(bits-1) without bounds, of the bits that count.
func half(bits int) *big.Int {
	return new(big.Int).Rsh(round(bits), 1)
}

// left is x modulo 2^bits, by numbers without bounds.
func left(x *big.Int, bits int) *big.Int {
	return new(big.Int).Mod(x, round(bits))
}

// P3.1

func TestMaskIsARoundLessOne(t *testing.T) {
	for _, bits := range allBits() {
		want := new(big.Int).Sub(round(bits), big.NewInt(1))
		if got := Mask(bits); number(got).Cmp(want) != 0 {
			t.Errorf("Mask of %d: got %d, want %v", bits, got, want)
		}
	}
}

func TestCutIsWhatIsLeft(t *testing.T) {
	for _, bits := range allBits() {
		for _, x := range words(bits) {
			if got, want := Cut(x, bits), left(number(x), bits); number(got).Cmp(want) != 0 {
				t.Fatalf("Cut of %d, %d: got %d, want %v", x, bits, got, want)
			}
		}
	}
}

func TestAddIsTheSumCut(t *testing.T) {
	for _, bits := range allBits() {
		l := words(bits)
		for _, a := range l {
			for _, b := range l {
				want := left(new(big.Int).Add(number(a), number(b)), bits)
				if got := Add(a, b, bits); number(got).Cmp(want) != 0 {
					t.Fatalf("Add of %d, %d, %d: got %d, want %v", a, b, bits, got, want)
				}
			}
		}
	}
}

func TestMaskAtEnds(t *testing.T) {
	for _, c := range []struct {
		bits int
		want uint64
	}{
		{1, 1}, {2, 3}, {3, 7}, {24, 1<<24 - 1}, {32, 1<<32 - 1}, {61, 1<<61 - 1}, {62, 1<<62 - 1},
		{0, 1}, {-1, 1}, {-62, 1}, {math.MinInt, 1},
		{63, 1<<62 - 1}, {64, 1<<62 - 1}, {65, 1<<62 - 1}, {math.MaxInt, 1<<62 - 1},
	} {
		if got := Mask(c.bits); got != c.want {
			t.Errorf("Mask of %d: got %d, want %d", c.bits, got, c.want)
		}
	}
}

func TestCutAtEnds(t *testing.T) {
	for _, c := range []struct {
		x    uint64
		bits int
		want uint64
	}{
		{300, 8, 44}, {255, 8, 255}, {256, 8, 0}, {257, 8, 1}, {0, 8, 0}, {full, 8, 255},
		{2, 1, 0}, {3, 1, 1}, {3, 0, 1}, {2, -7, 0}, {full, math.MinInt, 1},
		{1<<62 - 1, 62, 1<<62 - 1}, {1 << 62, 62, 0}, {1<<62 + 5, 62, 5}, {1 << 63, 62, 0}, {full, 62, 1<<62 - 1},
		{1 << 62, 63, 0}, {full, 64, 1<<62 - 1}, {full, math.MaxInt, 1<<62 - 1},
	} {
		if got := Cut(c.x, c.bits); got != c.want {
			t.Errorf("Cut of %d, %d: got %d, want %d", c.x, c.bits, got, c.want)
		}
	}
}

func TestAddAtEnds(t *testing.T) {
	for _, c := range []struct {
		a, b uint64
		bits int
		want uint64
	}{
		{250, 10, 8, 4}, {250, 5, 8, 255}, {250, 6, 8, 0}, {506, 266, 8, 4}, {0, 0, 8, 0},
		{1, 1, 1, 0}, {1, 0, 1, 1}, {1, 2, 0, 1}, {1, 1, -5, 0},
		{1<<62 - 1, 1, 62, 0}, {1 << 61, 1 << 61, 62, 0}, {1<<62 - 1, 1<<62 - 1, 62, 1<<62 - 2},
		{full, 1, 62, 0}, {full, full, 8, 254}, {full, full, 62, 1<<62 - 2}, {1 << 62, 1, 64, 1},
	} {
		if got := Add(c.a, c.b, c.bits); got != c.want {
			t.Errorf("Add of %d, %d, %d: got %d, want %d", c.a, c.b, c.bits, got, c.want)
		}
	}
}

// P3.2

// diffIs holds Diff to its bounds and to what it comes to when it is added to b, and Newer to Diff's sign.
func diffIs(t *testing.T, a, b uint64, bits int) {
	t.Helper()
	got := Diff(a, b, bits)
	d, end := big.NewInt(got), half(bits)
	if d.Cmp(new(big.Int).Neg(end)) < 0 || d.Cmp(end) >= 0 {
		t.Fatalf("Diff of %d, %d, %d: %d is out of bounds", a, b, bits, got)
	}
	if left(d.Add(d, number(b)), bits).Cmp(left(number(a), bits)) != 0 {
		t.Fatalf("Diff of %d, %d, %d: %d, added to the latter, is not the former", a, b, bits, got)
	}
	if newer := Newer(a, b, bits); newer != (got > 0) {
		t.Fatalf("Newer of %d, %d, %d: %v, where Diff is %d", a, b, bits, newer, got)
	}
}

func TestDiffAddedIsTheOtherOne(t *testing.T) {
	for _, bits := range allBits() {
		l := words(bits)
		for _, a := range l {
			for _, b := range l {
				diffIs(t, a, b, bits)
			}
			diffIs(t, a, a+half(bits).Uint64(), bits)
		}
	}
}

func TestDiffOfFewBitsIsFoundBySearch(t *testing.T) {
	for bits := 1; bits <= 5; bits++ {
		whole := int64(1) << bits
		for a := range 3 * whole {
			for b := range 3 * whole {
				want := -whole / 2
				for (b+want-a)%whole != 0 {
					want++
				}
				if got := Diff(uint64(a), uint64(b), bits); got != want {
					t.Fatalf("Diff of %d, %d, %d: got %d, want %d", a, b, bits, got, want)
				}
			}
		}
	}
}

func TestDiffAndNewerAtEnds(t *testing.T) {
	for _, c := range []struct {
		a, b uint64
		bits int
		want int64
	}{
		{1, 7, 3, 2}, {7, 1, 3, -2}, {5, 5, 3, 0}, {3, 0, 3, 3}, {0, 3, 3, -3}, {9, 15, 3, 2}, {7, 9, 3, -2},
		{4, 0, 3, -4}, {0, 4, 3, -4}, {6, 2, 3, -4}, {2, 6, 3, -4}, {5, 0, 3, -3},
		{0, 1<<32 - 1, 32, 1}, {1<<31 - 1, 0, 32, 1<<31 - 1}, {1 << 31, 0, 32, -1 << 31}, {1<<31 + 1, 0, 32, -1<<31 + 1},
		{1, 0, 1, -1}, {0, 1, 1, -1}, {0, 0, 1, 0}, {1, 1, 1, 0}, {3, 1, 1, 0},
		{1, 0, 0, -1}, {2, 0, 0, 0}, {1, 2, -9, -1}, {full, 0, math.MinInt, -1},
		{1<<61 - 1, 0, 62, 1<<61 - 1}, {1 << 61, 0, 62, -1 << 61}, {0, 1 << 61, 62, -1 << 61}, {1<<62 - 1, 0, 62, -1}, {0, 1<<62 - 1, 62, 1},
		{1 << 61, 0, 63, -1 << 61}, {1 << 62, 0, 64, 0}, {1 << 61, 0, 99, -1 << 61}, {full, 0, math.MaxInt, -1}, {0, full, math.MaxInt, 1},
		{1 << 40, 0, 24, 0}, {1 << 62, 0, 62, 0}, {0, 1 << 63, 62, 0}, {full, full - 1, 8, 1}, {0, full, 24, 1}, {full, 0, 24, -1},
	} {
		if got := Diff(c.a, c.b, c.bits); got != c.want {
			t.Errorf("Diff of %d, %d, %d: got %d, want %d", c.a, c.b, c.bits, got, c.want)
		}
		if got := Newer(c.a, c.b, c.bits); got != (c.want > 0) {
			t.Errorf("Newer of %d, %d, %d: %v", c.a, c.b, c.bits, got)
		}
	}
}

// P3.3

// unwrapIs holds Unwrap to x modulo 2^bits, and to half a round around last, of which the upper end is not taken.
func unwrapIs(t *testing.T, last int64, x uint64, bits int) {
	t.Helper()
	got := Unwrap(last, x, bits)
	if left(big.NewInt(got), bits).Cmp(left(number(x), bits)) != 0 {
		t.Fatalf("Unwrap of %d, %d, %d: %d is not x", last, x, bits, got)
	}
	away := new(big.Int).Sub(big.NewInt(got), big.NewInt(kept(last)))
	end := half(bits)
	if away.Cmp(end) >= 0 || away.Cmp(end.Neg(end)) < 0 {
		t.Fatalf("Unwrap of %d, %d, %d: %d is not the nearest", last, x, bits, got)
	}
}

func TestUnwrapIsTheNearest(t *testing.T) {
	for _, bits := range allBits() {
		for _, last := range lasts(bits) {
			for _, x := range words(bits) {
				unwrapIs(t, last, x, bits)
			}
			unwrapIs(t, last, uint64(last), bits)
			unwrapIs(t, last, uint64(last)+half(bits).Uint64(), bits)
		}
	}
}

func TestUnwrapOfFewBitsIsFoundBySearch(t *testing.T) {
	// From last on both ways: the lesser one is asked first.
	search := func(last, x, whole int64) int64 {
		for away := int64(0); ; away++ {
			if (last-away-x)%whole == 0 {
				return last - away
			}
			if (last+away-x)%whole == 0 {
				return last + away
			}
		}
	}
	for bits := 1; bits <= 5; bits++ {
		whole := int64(1) << bits
		for last := -3 * whole; last <= 3*whole; last++ {
			for x := range 2 * whole {
				if got, want := Unwrap(last, uint64(x), bits), search(last, x, whole); got != want {
					t.Fatalf("Unwrap of %d, %d, %d: got %d, want %d", last, x, bits, got, want)
				}
			}
		}
	}
}

func TestUnwrapAtEnds(t *testing.T) {
	for _, c := range []struct {
		last int64
		x    uint64
		bits int
		want int64
	}{
		{15, 1, 3, 17}, {15, 7, 3, 15}, {15, 6, 3, 14}, {15, 2, 3, 18}, {15, 4, 3, 12}, {15, 9, 3, 17},
		{15, 3, 3, 11}, {0, 4, 3, -4}, {-1, 3, 3, -5}, {4, 0, 3, 0}, // as near as another one
		{-1, 0, 3, 0}, {0, 7, 3, -1}, {-8, 1, 3, -7}, {5, full, 8, -1}, {-5, 1 << 63, 8, 0},
		{0, 0, 1, 0}, {0, 1, 1, -1}, {1, 0, 1, 0}, {7, 3, 0, 7}, {7, 2, -1, 6}, {-7, 4, math.MinInt, -8},
		{0, 1<<61 - 1, 62, 1<<61 - 1}, {0, 1 << 61, 62, -1 << 61}, {0, 1 << 61, 63, -1 << 61}, {0, full, math.MaxInt, -1}, {0, 1 << 62, 64, 0},
		{far, 0, 3, far}, {far, 3, 3, far + 3}, {far, 4, 3, far - 4}, {far, 7, 3, far - 1},
		{far - 1, 0, 3, far}, {far + 1, 4, 3, far - 4}, {far + 1, 3, 3, far + 3}, {greatest, 7, 3, far - 1}, {greatest, 4, 3, far - 4},
		{far, 1<<61 - 1, 62, far + 1<<61 - 1}, {far, 1 << 61, 62, far - 1<<61}, {greatest, 1<<61 - 1, 62, far + 1<<61 - 1}, {greatest, 0, 62, far},
		{-far, 0, 3, -far}, {-far, 3, 3, -far + 3}, {-far, 4, 3, -far - 4}, {-far, 7, 3, -far - 1},
		{-far + 1, 5, 3, -far - 3}, {-far - 1, 3, 3, -far + 3}, {-far - 1, 4, 3, -far - 4}, {least, 3, 3, -far + 3}, {least, 4, 3, -far - 4},
		{-far, 1<<61 - 1, 62, -far + 1<<61 - 1}, {-far, 1 << 61, 62, -far - 1<<61}, {least, 1 << 61, 62, -far - 1<<61}, {least, 0, 62, -far},
	} {
		if got := Unwrap(c.last, c.x, c.bits); got != c.want {
			t.Errorf("Unwrap of %d, %d, %d: got %d, want %d", c.last, c.x, c.bits, got, c.want)
		}
	}
}

// P3.4

func TestUnwrapOfTheLaterOnesCutIsTheLaterOne(t *testing.T) {
	r := rand.New(rand.NewSource(4))
	for _, bits := range allBits() {
		end := half(bits).Int64()
		for _, last := range lasts(bits) {
			last = kept(last)
			for _, step := range []int64{0, min(1, end-1), end / 2, end - 1, r.Int63n(end)} {
				for _, later := range []int64{last + step, last - step} {
					if got := Unwrap(last, Cut(uint64(later), bits), bits); got != later {
						t.Fatalf("of %d and, later, %d, of %d bits: %d", last, later, bits, got)
					}
				}
			}
		}
	}
}

func TestUnwrapFollowsACounterThatGoesRound(t *testing.T) {
	const bits, step = 3, 3 // the longest step that is told of 3 bits
	for _, first := range []int64{-1000, 0, far - 3000} {
		last := first
		for range 1000 {
			later := last + step
			if got := Unwrap(last, Cut(uint64(later), bits), bits); got != later {
				t.Fatalf("after %d: got %d, want %d", last, got, later)
			}
			last = later
		}
	}
}
