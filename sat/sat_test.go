package sat

import (
	"math"
	"math/big"
	"math/rand"
	"slices"
	"testing"
)

const (
	least    = math.MinInt64
	greatest = math.MaxInt64
)

// numbers are those around which something turns: 0, the ends, their halves, thirds and roots, and some of every length.
func numbers() []int64 {
	l := []int64{0, least, greatest, least / 2, greatest / 2, least / 3, greatest / 3, 3037000499, 3037000500, 10, 1000000}
	for bits := 0; bits < 63; bits += 9 {
		l = append(l, 1<<bits, -1<<bits)
	}
	var near []int64
	for _, x := range l {
		near = append(near, x)
		if x > least {
			near = append(near, x-1)
		}
		if x < greatest {
			near = append(near, x+1)
		}
	}
	slices.Sort(near)
	return slices.Compact(near)
}

// pairs calls f with each two of numbers, and with some of all lengths that a fixed seed gives.
func pairs(f func(a, b int64)) {
	l := numbers()
	for _, a := range l {
		for _, b := range l {
			f(a, b)
		}
	}
	r := rand.New(rand.NewSource(1))
	draw := func() int64 { return int64(r.Uint64()) >> r.Intn(64) }
	for range 50000 {
		f(draw(), draw())
	}
}

// atEnd is a number without bounds, at its end.
func atEnd(x *big.Int) int64 {
	switch {
	case x.IsInt64():
		return x.Int64()
	case x.Sign() < 0:
		return least
	}
	return greatest
}

// floor is the greatest whole number that is not above a by b, without bounds.
func floor(a, b int64) *big.Int {
	q, rest := new(big.Int).QuoRem(big.NewInt(a), big.NewInt(b), new(big.Int))
	if rest.Sign()*big.NewInt(b).Sign() < 0 {
		q.Sub(q, big.NewInt(1))
	}
	return q
}

func same(t *testing.T, what string, got, want int64, args ...int64) {
	t.Helper()
	if got != want {
		t.Fatalf("%s of %d: got %d, want %d", what, args, got, want)
	}
}

// P1.1

func TestAddSubMulAreExactOrAtTheirEnds(t *testing.T) {
	pairs(func(a, b int64) {
		x, y := big.NewInt(a), big.NewInt(b)
		same(t, "Add", Add(a, b), atEnd(new(big.Int).Add(x, y)), a, b)
		same(t, "Sub", Sub(a, b), atEnd(new(big.Int).Sub(x, y)), a, b)
		same(t, "Mul", Mul(a, b), atEnd(new(big.Int).Mul(x, y)), a, b)
	})
}

func TestNegAbsAreExactOrAtTheirEnds(t *testing.T) {
	pairs(func(a, _ int64) {
		x := big.NewInt(a)
		same(t, "Neg", Neg(a), atEnd(new(big.Int).Neg(x)), a)
		same(t, "Abs", Abs(a), atEnd(new(big.Int).Abs(x)), a)
	})
}

func TestAddSubAtEnds(t *testing.T) {
	same(t, "Add", Add(3, -5), -2)
	same(t, "Add", Add(greatest, 1), greatest)
	same(t, "Add", Add(greatest, greatest), greatest)
	same(t, "Add", Add(greatest-1, 1), greatest)
	same(t, "Add", Add(greatest, least), -1)
	same(t, "Add", Add(least, -1), least)
	same(t, "Add", Add(least, least), least)
	same(t, "Add", Add(least+1, -1), least)
	same(t, "Sub", Sub(3, 5), -2)
	same(t, "Sub", Sub(least, 1), least)
	same(t, "Sub", Sub(least, greatest), least)
	same(t, "Sub", Sub(greatest, -1), greatest)
	same(t, "Sub", Sub(0, least), greatest)
	same(t, "Sub", Sub(-1, least), greatest)
	same(t, "Sub", Sub(-2, least), greatest-1)
	same(t, "Sub", Sub(least, least), 0)
}

func TestMulNegAbsAtEnds(t *testing.T) {
	same(t, "Mul", Mul(-3, 7), -21)
	same(t, "Mul", Mul(0, least), 0)
	same(t, "Mul", Mul(1<<32, 1<<31), greatest)
	same(t, "Mul", Mul(1<<32, -1<<31), least)
	same(t, "Mul", Mul(-1<<32, -1<<31), greatest)
	same(t, "Mul", Mul(1<<32, 1<<32), greatest)
	same(t, "Mul", Mul(-1<<32, 1<<32), least)
	same(t, "Mul", Mul(least, 1), least)
	same(t, "Mul", Mul(least, -1), greatest)
	same(t, "Mul", Mul(least, least), greatest)
	same(t, "Mul", Mul(least, greatest), least)
	same(t, "Mul", Mul(greatest, -1), least+1)
	same(t, "Neg", Neg(5), -5)
	same(t, "Neg", Neg(greatest), least+1)
	same(t, "Neg", Neg(least), greatest)
	same(t, "Abs", Abs(-4), 4)
	same(t, "Abs", Abs(greatest), greatest)
	same(t, "Abs", Abs(least), greatest)
}

// P1.2

func TestDivIsNotAboveTheQuotient(t *testing.T) {
	pairs(func(a, b int64) {
		if b == 0 {
			same(t, "Div", Div(a, b), 0, a, b)
			return
		}
		same(t, "Div", Div(a, b), atEnd(floor(a, b)), a, b)
	})
}

func TestModIsWhatDivLeaves(t *testing.T) {
	pairs(func(a, b int64) {
		if b <= 0 {
			same(t, "Mod", Mod(a, b), 0, a, b)
			return
		}
		times := new(big.Int).Mul(big.NewInt(b), floor(a, b))
		same(t, "Mod", Mod(a, b), times.Sub(big.NewInt(a), times).Int64(), a, b)
	})
}

func TestDivModAtEnds(t *testing.T) {
	same(t, "Div", Div(7, 2), 3)
	same(t, "Div", Div(-7, 2), -4)
	same(t, "Div", Div(7, -2), -4)
	same(t, "Div", Div(-7, -2), 3)
	same(t, "Div", Div(-8, 2), -4)
	same(t, "Div", Div(5, 0), 0)
	same(t, "Div", Div(least, 0), 0)
	same(t, "Div", Div(least, -1), greatest)
	same(t, "Div", Div(least, 1), least)
	same(t, "Div", Div(greatest, least), -1)
	same(t, "Div", Div(least, greatest), -2)
	same(t, "Mod", Mod(7, 2), 1)
	same(t, "Mod", Mod(-7, 2), 1)
	same(t, "Mod", Mod(7, -2), 0)
	same(t, "Mod", Mod(7, 0), 0)
	same(t, "Mod", Mod(7, least), 0)
	same(t, "Mod", Mod(least, 10), 2)
	same(t, "Mod", Mod(least, 3), 1)
	same(t, "Mod", Mod(least, greatest), greatest-1)
}

// P1.3

func TestClampKeepsWithinLoAndHi(t *testing.T) {
	few := []int64{least, least + 1, -2, -1, 0, 1, 2, greatest - 1, greatest}
	for _, x := range few {
		for _, lo := range few {
			for _, hi := range few {
				want := max(lo, min(x, hi))
				same(t, "Clamp", Clamp(x, lo, hi), want, x, lo, hi)
			}
		}
	}
}

func TestClampAtEnds(t *testing.T) {
	same(t, "Clamp", Clamp(2, 1, 3), 2)
	same(t, "Clamp", Clamp(0, 1, 3), 1)
	same(t, "Clamp", Clamp(1, 1, 3), 1)
	same(t, "Clamp", Clamp(3, 1, 3), 3)
	same(t, "Clamp", Clamp(5, 1, 3), 3)
	same(t, "Clamp", Clamp(2, 3, 1), 3)
	same(t, "Clamp", Clamp(9, 3, 1), 3)
	same(t, "Clamp", Clamp(0, 3, 1), 3)
	same(t, "Clamp", Clamp(5, greatest, least), greatest)
}

func TestSumAddsOneByOne(t *testing.T) {
	same(t, "Sum", Sum(), 0)
	same(t, "Sum", Sum([]int64{}...), 0)
	same(t, "Sum", Sum(nil...), 0)
	same(t, "Sum", Sum(7), 7)
	same(t, "Sum", Sum(least), least)
	same(t, "Sum", Sum(1, -2, 30), 29)
	same(t, "Sum", Sum(greatest, 1, -1), greatest-1)
	same(t, "Sum", Sum(-1, greatest, 1), greatest)
	same(t, "Sum", Sum(1, greatest, -1), greatest-1)
	same(t, "Sum", Sum(least, -1, 1), least+1)
	same(t, "Sum", Sum(greatest, 1, least, -1), -2)
}

func TestSumIsAddFromTheFirstOn(t *testing.T) {
	var l []int64
	var want int64
	pairs(func(a, _ int64) {
		if len(l) >= 200 {
			l, want = nil, 0
		}
		l, want = append(l, a), Add(want, a)
		same(t, "Sum", Sum(l...), want, l...)
	})
}

func TestSumLeavesItsListAsItIs(t *testing.T) {
	l := []int64{greatest, 1, -1, least}
	Sum(l[:3]...)
	if !slices.Equal(l, []int64{greatest, 1, -1, least}) {
		t.Fatal(l)
	}
}

// P1.4

func TestAddMulHangOnNoOrder(t *testing.T) {
	pairs(func(a, b int64) {
		same(t, "Add", Add(a, b), Add(b, a), a, b)
		same(t, "Mul", Mul(a, b), Mul(b, a), a, b)
	})
}

func TestDivTimesAndModIsTheWhole(t *testing.T) {
	pairs(func(a, b int64) {
		if b <= 0 {
			return
		}
		q, rest := Div(a, b), Mod(a, b)
		if rest < 0 || rest >= b {
			t.Fatalf("Mod of %d, %d: %d", a, b, rest)
		}
		whole := new(big.Int).Mul(big.NewInt(q), big.NewInt(b))
		whole.Add(whole, big.NewInt(rest))
		if whole.Cmp(big.NewInt(a)) != 0 {
			t.Fatalf("of %d, %d: Div %d times b and Mod %d is %v", a, b, q, rest, whole)
		}
	})
}
