package wide

import (
	"math"
	"math/big"
	"math/rand"
	"slices"
	"testing"

	"leat/api"
)

const (
	full     = math.MaxUint64
	greatest = math.MaxInt64
	least    = math.MinInt64
)

// words are numbers of 64 bits around which something turns: 0, the ends, halves, thirds and roots, and some of every length.
func words() []uint64 {
	l := []uint64{0, full, full / 3, greatest, 3037000499, 10, 1000000}
	for bits := 0; bits < 64; bits += 8 {
		l = append(l, 1<<bits)
	}
	var near []uint64
	for _, x := range l {
		near = append(near, x-1, x, x+1) // of 0 and full their neighbours are each other
	}
	slices.Sort(near)
	return slices.Compact(near)
}

// drawer gives numbers of all lengths by a fixed seed.
func drawer() func() uint64 {
	r := rand.New(rand.NewSource(2))
	return func() uint64 { return r.Uint64() >> r.Intn(64) }
}

// pairs calls f with each two of words, and with some that are drawn.
func pairs(f func(a, b uint64)) {
	l := words()
	for _, a := range l {
		for _, b := range l {
			f(a, b)
		}
	}
	draw := drawer()
	for range 50000 {
		f(draw(), draw())
	}
}

// wides are some of few words, and some that are drawn.
func wides() []Wide {
	var l []Wide
	few := []uint64{0, 1, 2, 3, 1<<32 - 1, 1 << 32, greatest, 1 << 63, full - 1, full}
	for _, hi := range few {
		for _, lo := range few {
			l = append(l, Wide{hi, lo})
		}
	}
	draw := drawer()
	for range 200 {
		l = append(l, Wide{draw(), draw()})
	}
	return l
}

func number(x uint64) *big.Int { return new(big.Int).SetUint64(x) }

// unbounded is the number that a Wide stands for.
func unbounded(x Wide) *big.Int {
	n := number(x.Hi)
	n.Lsh(n, 64)
	return n.Add(n, number(x.Lo))
}

// is holds a Wide against a number without bounds.
func is(x Wide, n *big.Int) bool { return unbounded(x).Cmp(n) == 0 }

// P2.1

func TestMulIsTheProduct(t *testing.T) {
	pairs(func(a, b uint64) {
		if got := Mul(a, b); !is(got, new(big.Int).Mul(number(a), number(b))) {
			t.Fatalf("Mul of %d, %d: %v", a, b, got)
		}
	})
}

func TestMulAtEnds(t *testing.T) {
	for _, c := range []struct {
		a, b uint64
		want Wide
	}{
		{7, 5, Wide{0, 35}},
		{0, full, Wide{0, 0}},
		{1, full, Wide{0, full}},
		{1 << 32, 1 << 32, Wide{1, 0}},
		{1 << 63, 2, Wide{1, 0}},
		{full, 2, Wide{1, full - 1}},
		{full, full, Wide{full - 1, 1}},
	} {
		if got := Mul(c.a, c.b); got != c.want {
			t.Errorf("Mul of %d, %d: got %v, want %v", c.a, c.b, got, c.want)
		}
	}
}

func TestAddIsTheSumModulo(t *testing.T) {
	round := new(big.Int).Lsh(big.NewInt(1), 128)
	l := wides()
	for _, x := range l {
		for _, y := range l {
			all := new(big.Int).Add(unbounded(x), unbounded(y))
			got, over := Add(x, y)
			if over != (all.Cmp(round) >= 0) || !is(got, all.Mod(all, round)) {
				t.Fatalf("Add of %v, %v: %v, %v", x, y, got, over)
			}
		}
	}
}

func TestAddAtEnds(t *testing.T) {
	for _, c := range []struct {
		x, y, want Wide
		over       bool
	}{
		{Wide{0, 0}, Wide{0, 0}, Wide{0, 0}, false},
		{Wide{1, 2}, Wide{3, 4}, Wide{4, 6}, false},
		{Wide{0, full}, Wide{0, 1}, Wide{1, 0}, false},
		{Wide{full, full - 1}, Wide{0, 1}, Wide{full, full}, false},
		{Wide{full - 1, full}, Wide{0, 1}, Wide{full, 0}, false},
		{Wide{full, full}, Wide{0, 0}, Wide{full, full}, false},
		{Wide{full, full}, Wide{0, 1}, Wide{0, 0}, true},
		{Wide{full, 0}, Wide{1, 0}, Wide{0, 0}, true},
		{Wide{1 << 63, 0}, Wide{1 << 63, 0}, Wide{0, 0}, true},
		{Wide{full, full}, Wide{full, full}, Wide{full, full - 1}, true},
	} {
		if got, over := Add(c.x, c.y); got != c.want || over != c.over {
			t.Errorf("Add of %v, %v: got %v, %v, want %v, %v", c.x, c.y, got, over, c.want, c.over)
		}
	}
}

func TestCmpIsTheOrder(t *testing.T) {
	l := wides()
	for _, x := range l {
		for _, y := range l {
			if got, want := Cmp(x, y), unbounded(x).Cmp(unbounded(y)); got != want {
				t.Fatalf("Cmp of %v, %v: got %d, want %d", x, y, got, want)
			}
		}
	}
}

func TestCmpAtEnds(t *testing.T) {
	for _, c := range []struct {
		x, y Wide
		want int
	}{
		{Wide{0, 0}, Wide{0, 0}, 0},
		{Wide{0, 8}, Wide{0, 9}, -1},
		{Wide{0, 9}, Wide{0, 8}, 1},
		{Wide{0, full}, Wide{1, 0}, -1},
		{Wide{1, 0}, Wide{0, full}, 1},
		{Wide{2, 1}, Wide{1, 2}, 1},
		{Wide{0, 1 << 63}, Wide{0, 1}, 1},
		{Wide{1 << 63, 0}, Wide{1, 0}, 1},
		{Wide{full, full}, Wide{full, full}, 0},
	} {
		if got := Cmp(c.x, c.y); got != c.want {
			t.Errorf("Cmp of %v, %v: got %d, want %d", c.x, c.y, got, c.want)
		}
	}
}

// P2.2

func TestDivIsTheQuotientAndWhatIsLeft(t *testing.T) {
	for _, x := range wides() {
		for _, d := range words() {
			got, rest := Div(x, d)
			if d == 0 {
				if got != (Wide{}) || rest != 0 {
					t.Fatalf("Div of %v, 0: %v, %d", x, got, rest)
				}
				continue
			}
			q, left := new(big.Int).QuoRem(unbounded(x), number(d), new(big.Int))
			if !is(got, q) || number(rest).Cmp(left) != 0 {
				t.Fatalf("Div of %v, %d: got %v, %d, want %v, %v", x, d, got, rest, q, left)
			}
		}
	}
}

func TestDivAtEnds(t *testing.T) {
	for _, c := range []struct {
		x    Wide
		d    uint64
		want Wide
		rest uint64
	}{
		{Wide{5, 7}, 2, Wide{2, 1<<63 + 3}, 1},
		{Wide{0, 6}, 7, Wide{0, 0}, 6},
		{Wide{0, 7}, 7, Wide{0, 1}, 0},
		{Wide{0, 0}, 7, Wide{0, 0}, 0},
		{Wide{0, 0}, 0, Wide{0, 0}, 0},
		{Wide{5, 7}, 0, Wide{0, 0}, 0},
		{Wide{full, full}, 0, Wide{0, 0}, 0},
		{Wide{full, full}, 1, Wide{full, full}, 0},
		{Wide{full, full}, full, Wide{1, 1}, 0},
		{Wide{full, full - 1}, full, Wide{1, 0}, full - 1},
		{Wide{full - 1, full}, full, Wide{0, full}, full - 1},
	} {
		if got, rest := Div(c.x, c.d); got != c.want || rest != c.rest {
			t.Errorf("Div of %v, %d: got %v, %d, want %v, %d", c.x, c.d, got, rest, c.want, c.rest)
		}
	}
}

func TestRootIsTheGreatestWithASquareNotAbove(t *testing.T) {
	one := big.NewInt(1)
	for _, x := range wides() {
		n, root := unbounded(x), number(Root(x))
		above := new(big.Int).Add(root, one)
		if root.Mul(root, root).Cmp(n) > 0 || above.Mul(above, above).Cmp(n) <= 0 {
			t.Fatalf("Root of %v: %d", x, Root(x))
		}
	}
}

func TestRootAroundSquares(t *testing.T) {
	for _, r := range words() {
		square := Mul(r, r)
		if got := Root(square); got != r {
			t.Errorf("Root of the square of %d: %d", r, got)
		}
		if more, _ := Add(square, Wide{0, 1}); r > 1 && Root(more) != r {
			t.Errorf("Root of one above the square of %d: %d", r, Root(more))
		}
		if less, _ := Add(square, Wide{full, full}); r > 0 && Root(less) != r-1 {
			t.Errorf("Root of one below the square of %d: %d", r, Root(less))
		}
	}
}

func TestRootAtEnds(t *testing.T) {
	for _, c := range []struct {
		x    Wide
		want uint64
	}{
		{Wide{0, 0}, 0},
		{Wide{0, 1}, 1},
		{Wide{0, 3}, 1},
		{Wide{0, 4}, 2},
		{Wide{0, 24}, 4},
		{Wide{0, 25}, 5},
		{Wide{0, full}, 1<<32 - 1},
		{Wide{1, 0}, 1 << 32},
		{Wide{full - 1, 0}, full - 1},
		{Wide{full - 1, 1}, full},
		{Wide{full, full}, full},
	} {
		if got := Root(c.x); got != c.want {
			t.Errorf("Root of %v: got %d, want %d", c.x, got, c.want)
		}
	}
}

// P2.3

// wanted is what MulDiv (downwards) or MulDivUp (upwards) must answer, by numbers without bounds.
func wanted(a, b, c int64, up bool) (int64, api.Errno) {
	if a < 0 || b < 0 || c <= 0 {
		return 0, api.ErrArg
	}
	all := new(big.Int).Mul(big.NewInt(a), big.NewInt(b))
	if up {
		all.Add(all, big.NewInt(c-1))
	}
	all.Quo(all, big.NewInt(c))
	if !all.IsInt64() {
		return 0, api.ErrOver
	}
	return all.Int64(), api.OK
}

// mulDivIs holds MulDiv and MulDivUp against what they must answer.
func mulDivIs(t *testing.T, a, b, c int64) {
	t.Helper()
	want, e := wanted(a, b, c, false)
	if got, f := MulDiv(a, b, c); got != want || f != e {
		t.Fatalf("MulDiv of %d, %d, %d: got %d, %d, want %d, %d", a, b, c, got, f, want, e)
	}
	want, e = wanted(a, b, c, true)
	if got, f := MulDivUp(a, b, c); got != want || f != e {
		t.Fatalf("MulDivUp of %d, %d, %d: got %d, %d, want %d, %d", a, b, c, got, f, want, e)
	}
}

func TestMulDivIsExactDownwardsAndUpwards(t *testing.T) {
	l := []int64{least, least + 1, -2, -1, 0, 1, 2, 3, 10, 1000000, 1 << 31, 1 << 32, 3037000499, 3037000500, greatest / 3, greatest / 2, 1 << 62, greatest - 1, greatest}
	for _, a := range l {
		for _, b := range l {
			for _, c := range l {
				mulDivIs(t, a, b, c)
			}
		}
	}
	draw := drawer()
	for range 50000 {
		mulDivIs(t, int64(draw()), int64(draw()), int64(draw()))
	}
}

func TestMulDivAtEnds(t *testing.T) {
	const third = full / 3 // 3 times it by 2 is the greatest int64 and a half
	for _, c := range []struct {
		a, b, c int64
		down    int64
		downErr api.Errno
		up      int64
		upErr   api.Errno
	}{
		{7, 5, 3, 11, api.OK, 12, api.OK},
		{6, 5, 3, 10, api.OK, 10, api.OK},
		{0, greatest, 1, 0, api.OK, 0, api.OK},
		{1, 1, greatest, 0, api.OK, 1, api.OK},
		{greatest, greatest, greatest, greatest, api.OK, greatest, api.OK},
		{greatest, 1, 1, greatest, api.OK, greatest, api.OK},
		{greatest, 4, 8, greatest / 2, api.OK, greatest/2 + 1, api.OK},
		{third, 3, 2, greatest, api.OK, 0, api.ErrOver},
		{1 << 62, 2, 1, 0, api.ErrOver, 0, api.ErrOver},
		{1 << 32, 1 << 32, 1, 0, api.ErrOver, 0, api.ErrOver},
		{greatest, 2, 1, 0, api.ErrOver, 0, api.ErrOver},
		{greatest, greatest, 1, 0, api.ErrOver, 0, api.ErrOver},
		{greatest, greatest, greatest - 1, 0, api.ErrOver, 0, api.ErrOver},
		{-1, 1, 1, 0, api.ErrArg, 0, api.ErrArg},
		{1, -1, 1, 0, api.ErrArg, 0, api.ErrArg},
		{-1, -1, 1, 0, api.ErrArg, 0, api.ErrArg},
		{1, 1, 0, 0, api.ErrArg, 0, api.ErrArg},
		{1, 1, -1, 0, api.ErrArg, 0, api.ErrArg},
		{-1, 1, -1, 0, api.ErrArg, 0, api.ErrArg},
		{greatest, greatest, 0, 0, api.ErrArg, 0, api.ErrArg},
		{greatest, greatest, least, 0, api.ErrArg, 0, api.ErrArg},
		{least, least, 1, 0, api.ErrArg, 0, api.ErrArg},
		{0, 0, 0, 0, api.ErrArg, 0, api.ErrArg},
	} {
		if got, e := MulDiv(c.a, c.b, c.c); got != c.down || e != c.downErr {
			t.Errorf("MulDiv of %d, %d, %d: %d, %d", c.a, c.b, c.c, got, e)
		}
		if got, e := MulDivUp(c.a, c.b, c.c); got != c.up || e != c.upErr {
			t.Errorf("MulDivUp of %d, %d, %d: %d, %d", c.a, c.b, c.c, got, e)
		}
	}
}

// P2.4

func TestProductByAFactorIsTheOtherOne(t *testing.T) {
	pairs(func(a, b uint64) {
		if b == 0 {
			return
		}
		for _, product := range []Wide{Mul(a, b), Mul(b, a)} {
			if q, rest := Div(product, b); q != (Wide{0, a}) || rest != 0 {
				t.Fatalf("the product of %d and %d by the latter: %v, %d", a, b, q, rest)
			}
		}
	})
}

func TestMulDivByAFactorIsTheOtherOne(t *testing.T) {
	pairs(func(x, y uint64) {
		a, b := int64(x>>1), int64(y>>1)
		if b == 0 {
			return
		}
		if got, e := MulDiv(a, b, b); got != a || e != api.OK {
			t.Fatalf("MulDiv of %d, %d by the latter: %d, %d", a, b, got, e)
		}
		if got, e := MulDivUp(b, a, b); got != a || e != api.OK {
			t.Fatalf("MulDivUp of %d, %d by the former: %d, %d", b, a, got, e)
		}
	})
}
