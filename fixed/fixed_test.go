package fixed

import (
	"math"
	"math/big"
	"math/rand"
	"slices"
	"testing"

	"leat/api"
)

const (
	one      = api.One
	greatest = math.MaxInt64
	least    = math.MinInt64
)

// numbers are some around 0, One, the squares and powers of 2 and both ends, and some that a fixed seed gives.
func numbers() []int64 {
	r := rand.New(rand.NewSource(4))
	l := []int64{least, least + 1, greatest - 1, greatest}
	for _, x := range []int64{0, 3, 10, 100, 1000, one / 4, one / 2, one, 3 * one / 2, 2 * one, 1 << 31, 1 << 32, 1 << 40, 1 << 42, 1 << 43, 1 << 44, 1 << 62, greatest / one, greatest / 2, greatest / 3} {
		l = append(l, x-1, x, x+1, -x-1, -x, -x+1)
	}
	for range 20 {
		x := int64(r.Uint64() >> r.Intn(64))
		l = append(l, x, -x)
	}
	slices.Sort(l)
	return slices.Compact(l)
}

// shares are shares, and numbers below and above them that count as the ends.
func shares() []int64 {
	r := rand.New(rand.NewSource(5))
	l := []int64{least, least + 1, -one - 1, -one, -2, -1, one + 1, one + 2, 2 * one, 1 << 32, 1<<32 + 1, greatest - 1, greatest}
	for _, x := range []int64{0, 1, 2, 3, 1 << 10, one / 4, one / 3, one / 2, 3 * one / 4, one - 1, one} {
		l = append(l, max(x-1, 0), x, min(x+1, one))
	}
	for range 20 {
		l = append(l, r.Int63n(one+1))
	}
	slices.Sort(l)
	return slices.Compact(l)
}

// counted is the share as which one counts.
func counted(f int64) int64 {
	return min(max(f, 0), one)
}

// floor is a times b by c downwards, by numbers without bounds, of c above 0.
func floor(a, b, c *big.Int) *big.Int {
	// Of a divisor above 0 big.Int's Div is downwards.
	return new(big.Int).Div(new(big.Int).Mul(a, b), c)
}

func number(x int64) *big.Int { return big.NewInt(x) }

// within is x, or the end of an int64 that it is beyond.
func within(x *big.Int) *big.Int {
	switch {
	case x.Cmp(number(least)) < 0:
		return number(least)
	case x.Cmp(number(greatest)) > 0:
		return number(greatest)
	}
	return x
}

func same(got int64, want *big.Int) bool { return number(got).Cmp(want) == 0 }

// P4.1

func TestRatioIsTheQuotientAsAShare(t *testing.T) {
	for _, a := range numbers() {
		for _, b := range numbers() {
			var want *big.Int
			switch {
			case a <= 0:
				want = number(0)
			case b <= 0:
				want = number(one)
			default:
				want = floor(number(a), number(one), number(b))
			}
			if want.Cmp(number(one)) > 0 {
				want = number(one)
			}
			if got := Ratio(a, b); !same(got, want) {
				t.Fatalf("Ratio of %d, %d: got %d, want %v", a, b, got, want)
			}
		}
	}
}

func TestRatioAtEnds(t *testing.T) {
	for _, c := range []struct{ a, b, want int64 }{
		{1, 4, 1 << 18}, {1, 3, 349525}, {2, 3, 699050}, {3, 4, 786432}, {1, one, 1}, {1, one + 1, 0}, {2, one + 1, 1}, {one, one + 1, one - 1},
		{1, 1, one}, {7, 7, one}, {greatest, greatest, one}, {greatest - 1, greatest - 1, one},
		{5, 4, one}, {one + 1, one, one}, {greatest, 1, one}, {greatest, 2, one}, {greatest, one, one}, {greatest, greatest - 1, one},
		{greatest - 1, greatest, one - 1}, {1, greatest, 0}, {1 << 43, greatest, 1}, {1<<43 - 1, greatest, 0},
		{0, 1, 0}, {0, greatest, 0}, {-1, 3, 0}, {least, 3, 0}, {least, greatest, 0}, {-5, 1, 0},
		{0, 0, 0}, {-1, 0, 0}, {0, -1, 0}, {-1, -1, 0}, {-4, -2, 0}, {least, least, 0}, {least, 0, 0}, {0, least, 0},
		{3, 0, one}, {1, 0, one}, {1, -1, one}, {1, -4, one}, {1, least, one}, {greatest, 0, one}, {greatest, least, one},
	} {
		if got := Ratio(c.a, c.b); got != c.want {
			t.Errorf("Ratio of %d, %d: got %d, want %d", c.a, c.b, got, c.want)
		}
	}
}

func TestPartIsTheProductByOne(t *testing.T) {
	for _, x := range numbers() {
		for _, f := range shares() {
			want := floor(number(x), number(counted(f)), number(one))
			if got := Part(x, f); !same(got, want) {
				t.Fatalf("Part of %d, %d: got %d, want %v", x, f, got, want)
			}
		}
	}
}

func TestPartAtEnds(t *testing.T) {
	for _, c := range []struct{ x, f, want int64 }{
		{10, one / 2, 5}, {11, one / 2, 5}, {10, one - 1, 9}, {10, 1, 0}, {one, 1, 1}, {one - 1, 1, 0}, {2*one - 1, 1, 1}, {one + 1, one - 1, one - 1},
		{0, 0, 0}, {0, one, 0}, {0, -1, 0}, {0, greatest, 0}, {7, 0, 0}, {7, -3, 0}, {7, least, 0}, {7, one, 7}, {7, one + 1, 7}, {7, 9 * one, 7}, {7, greatest, 7},
		{-1, one / 2, -1}, {-2, one / 2, -1}, {-3, one / 2, -2}, {-1, 1, -1}, {-one, 1, -1}, {-one - 1, 1, -2}, {-10, one - 1, -10}, {-2 * one, one - 1, -2*one + 2},
		{-1, 0, 0}, {-7, -1, 0}, {-7, least, 0}, {-7, one, -7}, {-7, one + 1, -7}, {-7, greatest, -7},
		{greatest, one, greatest}, {greatest, greatest, greatest}, {greatest, one - 1, greatest - 1<<43}, {greatest, one / 2, greatest / 2}, {greatest, 1, 1<<43 - 1}, {greatest, 0, 0}, {greatest, -1, 0},
		{least, one, least}, {least, greatest, least}, {least, one - 1, least + 1<<43}, {least, one / 2, least / 2}, {least, 1, -1 << 43}, {least, 0, 0}, {least, -1, 0},
		{least + 1, one, least + 1}, {least + 1, 1, -1 << 43}, {greatest - 1, one, greatest - 1},
	} {
		if got := Part(c.x, c.f); got != c.want {
			t.Errorf("Part of %d, %d: got %d, want %d", c.x, c.f, got, c.want)
		}
	}
}

// P4.2

func TestMulIsTheProductOfShares(t *testing.T) {
	for _, f := range shares() {
		for _, g := range shares() {
			want := floor(number(counted(f)), number(counted(g)), number(one))
			if got := Mul(f, g); !same(got, want) {
				t.Fatalf("Mul of %d, %d: got %d, want %v", f, g, got, want)
			}
		}
	}
}

func TestMulAtEnds(t *testing.T) {
	for _, c := range []struct{ f, g, want int64 }{
		{one / 2, one / 2, one / 4}, {one / 2, 3, 1}, {3, one / 2, 1}, {1, one - 1, 0}, {1, 1, 0}, {1 << 10, 1 << 10, 1}, {1<<10 - 1, 1 << 10, 0}, {one - 1, one - 1, one - 2},
		{0, 0, 0}, {0, one, 0}, {one, 0, 0}, {one, one, one}, {one, 5, 5}, {5, one, 5},
		{-1, one, 0}, {one, -1, 0}, {-1, -1, 0}, {-one, -one, 0}, {least, least, 0}, {least, greatest, 0}, {greatest, least, 0},
		{one + 1, 5, 5}, {5, one + 1, 5}, {2 * one, one / 2, one / 2}, {one / 2, 2 * one, one / 2}, {greatest, 5, 5}, {5, greatest, 5}, {greatest, greatest, one}, {one + 1, one + 1, one},
	} {
		if got := Mul(c.f, c.g); got != c.want {
			t.Errorf("Mul of %d, %d: got %d, want %d", c.f, c.g, got, c.want)
		}
	}
}

func TestRootIsTheGreatestWhoseSquareIsNotAbove(t *testing.T) {
	root := int64(0) // goes on with f: squares of shares fit in an int64
	for f := range int64(one + 1) {
		for root < one && (root+1)*(root+1) <= f*one {
			root++
		}
		if got := Root(f); got != root {
			t.Fatalf("Root of %d: got %d, want %d", f, got, root)
		}
	}
}

func TestRootOfSquaresAndTheirNeighbours(t *testing.T) {
	// f times One is a square where f is: its root is 2^10 times that of f.
	for side := int64(1); side <= 1<<10; side++ {
		square, root := side*side, side<<10
		if got := Root(square); got != root {
			t.Fatalf("Root of %d: got %d, want %d", square, got, root)
		}
		if got := Root(square - 1); got >= root {
			t.Fatalf("Root of %d: %d is not below %d", square-1, got, root)
		}
		if got := Root(square + 1); got < root || got > one {
			t.Fatalf("Root of %d: %d is below %d or no share", square+1, got, root)
		}
	}
}

func TestRootAtEnds(t *testing.T) {
	for _, c := range []struct{ f, want int64 }{
		{0, 0}, {1, 1 << 10}, {2, 1448}, {3, 1773}, {4, 1 << 11}, {one / 4, one / 2}, {one / 2, 741455}, {one - 1, one - 1}, {one, one},
		{-1, 0}, {-one, 0}, {least, 0}, {one + 1, one}, {4 * one, one}, {1 << 62, one}, {greatest, one},
	} {
		if got := Root(c.f); got != c.want {
			t.Errorf("Root of %d: got %d, want %d", c.f, got, c.want)
		}
	}
}

// P4.3

// shifts are all that count, and some that count as the nearer end.
func shifts() []int {
	l := []int{math.MinInt, math.MinInt + 1, -64, -63, -62, -2, -1, 63, 64, 65, 128, 1 << 32, math.MaxInt - 1, math.MaxInt}
	for shift := range 63 {
		l = append(l, shift)
	}
	return l
}

func TestTowardIsOnePartOfWhatLiesBetween(t *testing.T) {
	for _, shift := range shifts() {
		parts := new(big.Int).Lsh(number(1), uint(min(max(shift, 0), 62)))
		for _, x := range numbers() {
			for _, y := range numbers() {
				gap := within(new(big.Int).Sub(number(y), number(x)))
				want := within(new(big.Int).Add(number(x), floor(gap, number(1), parts)))
				if got := Toward(x, y, shift); !same(got, want) {
					t.Fatalf("Toward of %d, %d, %d: got %d, want %v", x, y, shift, got, want)
				}
			}
		}
	}
}

func TestTowardAtEnds(t *testing.T) {
	for _, c := range []struct {
		x, y  int64
		shift int
		want  int64
	}{
		{0, 16, 4, 1}, {16, 0, 4, 15}, {0, 15, 4, 0}, {10, 9, 4, 9}, {10, 11, 4, 10}, {100, 68, 4, 98}, {100, 67, 4, 97}, {-16, 16, 4, -14}, {-5, -6, 1, -6}, {5, 5, 3, 5},
		{3, 8, 0, 8}, {8, 3, 0, 3}, {3, 8, -1, 8}, {3, 8, -2, 8}, {8, 3, math.MinInt, 3}, {3, 8, 1, 5}, {8, 3, 1, 5},
		{0, 1 << 62, 62, 1}, {0, 1<<62 - 1, 62, 0}, {0, greatest, 62, 1}, {0, least, 62, -2}, {0, least + 1, 62, -2}, {0, -1 << 62, 62, -1}, {0, -1, 62, -1}, {0, 1, 62, 0},
		{0, greatest, 63, 1}, {0, least, 63, -2}, {0, greatest, 64, 1}, {0, least, 64, -2}, {0, greatest, math.MaxInt, 1}, {0, least, math.MaxInt, -2}, {7, 6, 99, 6}, {6, 7, 99, 6},
		{least, greatest, 0, -1}, {greatest, least, 0, -1}, {least, greatest, 1, least/2 - 1}, {greatest, least, 1, greatest / 2}, {least, greatest, 62, least + 1}, {greatest, least, 62, greatest - 2},
		{least, 0, 0, -1}, {0, least, 0, least}, {-1, least, 0, least}, {1, least, 0, least + 1}, {greatest, -1, 0, -1}, {-1, greatest, 0, greatest - 1}, {greatest, 0, 0, 0}, {0, greatest, 0, greatest},
		{least, least, 0, least}, {greatest, greatest, 62, greatest}, {least, least + 1, 0, least + 1}, {least + 1, least, 5, least}, {greatest, greatest - 1, 5, greatest - 1}, {greatest - 1, greatest, 5, greatest - 1},
	} {
		if got := Toward(c.x, c.y, c.shift); got != c.want {
			t.Errorf("Toward of %d, %d, %d: got %d, want %d", c.x, c.y, c.shift, got, c.want)
		}
	}
}

func TestHalveDividesSoOften(t *testing.T) {
	for _, x := range numbers() {
		want := number(x)
		for times := range 200 {
			if got := Halve(x, times); !same(got, want) {
				t.Fatalf("Halve of %d, %d times: got %d, want %v", x, times, got, want)
			}
			want.Div(want, number(2)) // big.Int's Div of a divisor above 0 is downwards
		}
	}
}

func TestHalveAtEnds(t *testing.T) {
	for _, c := range []struct {
		x     int64
		times int
		want  int64
	}{
		{40, 3, 5}, {40, 4, 2}, {41, 3, 5}, {40, 1, 20}, {1, 1, 0}, {3, 1, 1}, {-3, 1, -2}, {-4, 1, -2}, {-1, 1, -1}, {-40, 4, -3},
		{40, 0, 40}, {40, -1, 40}, {-3, -1, -3}, {40, -64, 40}, {greatest, -1, greatest}, {least, math.MinInt, least}, {greatest, 0, greatest}, {least, 0, least},
		{greatest, 1, greatest / 2}, {greatest, 61, 3}, {greatest, 62, 1}, {greatest, 63, 0}, {greatest, 64, 0},
		{least, 1, least / 2}, {least, 62, -2}, {least, 63, -1}, {least, 64, -1}, {least, 65, -1},
		{9, 99, 0}, {-9, 99, -1}, {0, math.MaxInt, 0}, {5, math.MaxInt, 0}, {-5, math.MaxInt, -1}, {greatest, math.MaxInt, 0}, {least, math.MaxInt, -1}, {1, math.MaxInt - 1, 0}, {1 << 40, 1 << 40, 0}, {-1 << 40, 1 << 40, -1},
	} {
		if got := Halve(c.x, c.times); got != c.want {
			t.Errorf("Halve of %d, %d times: got %d, want %d", c.x, c.times, got, c.want)
		}
	}
}

// P4.4

func TestPartIsNotAboveAndFallsWithTheShare(t *testing.T) {
	rising := shares() // in their order
	for _, x := range numbers() {
		if x < 0 {
			continue
		}
		last := int64(0)
		for _, f := range rising {
			got := Part(x, f)
			if got > x || got < last {
				t.Fatalf("Part of %d, %d: %d, above the whole or, of a greater share, below %d", x, f, got, last)
			}
			last = got
		}
	}
}

func TestPartFallsWithTheShareStepByStep(t *testing.T) {
	for _, x := range []int64{0, 1, 1000, one, 3*one + 7, greatest} {
		last := Part(x, one)
		for f := int64(one - 1); f >= 0; f-- {
			got := Part(x, f)
			if got > last {
				t.Fatalf("Part of %d, %d: %d, above %d of a greater share", x, f, got, last)
			}
			last = got
		}
		if last != 0 {
			t.Fatalf("Part of %d, 0: %d", x, last)
		}
	}
}

func TestTowardLiesBetween(t *testing.T) {
	for _, shift := range shifts() {
		for _, x := range numbers() {
			for _, y := range numbers() {
				if got := Toward(x, y, shift); got < min(x, y) || got > max(x, y) {
					t.Fatalf("Toward of %d, %d, %d: %d does not lie between", x, y, shift, got)
				}
			}
		}
	}
}
