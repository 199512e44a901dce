package dice

import (
	"math"
	"math/big"
	"math/rand"
	"slices"
	"testing"

	"leat/api"
)

const (
	greatest = math.MaxUint32
	maxInt   = math.MaxInt64
	minInt   = math.MinInt64
)

// shares are those around 0, around the powers of 2 up to One, beyond it and at both ends, and some that a fixed seed gives.
func shares() []int64 {
	l := []int64{minInt, minInt + 1, -api.Whole, -api.One, -4096, -2, -1, 0, maxInt - 1, maxInt}
	for i := range 63 {
		l = append(l, 1<<i-1, 1<<i, 1<<i+1)
	}
	r := rand.New(rand.NewSource(8))
	for range 60 {
		l = append(l, r.Int63n(api.One), int64(r.Uint64()))
	}
	slices.Sort(l)
	return slices.Compact(l)
}

// draws are those at both ends and on both sides of many shares' edges, and some that a fixed seed gives.
func draws() []uint32 {
	l := []uint32{0, 1, 4094, 4095, 4096, 4097, 8191, 8192, 1<<31 - 1, 1 << 31, 1<<31 + 1, greatest - 4096, greatest - 4095, greatest - 1, greatest}
	for _, share := range shares() {
		if share > 0 && share < api.One {
			edge := uint32(share * 4096)
			l = append(l, edge-1, edge, edge+1)
		}
	}
	r := rand.New(rand.NewSource(88))
	for range 100 {
		l = append(l, r.Uint32())
	}
	slices.Sort(l)
	return slices.Compact(l)
}

// plainHit is what the chapter says of Hit, by numbers without bounds.
func plainHit(x uint32, share int64) bool {
	switch {
	case share <= 0:
		return false
	case share >= 1<<20:
		return true
	}
	edge := new(big.Int).Mul(big.NewInt(share), big.NewInt(1<<12))
	return new(big.Int).SetUint64(uint64(x)).Cmp(edge) < 0
}

// asked fails unless so often Next was asked, and telling it asks nothing.
func asked(t *testing.T, d *Dice, want int) {
	t.Helper()
	for range 2 {
		if got := d.Used(); got != want {
			t.Fatalf("Used: got %d, want %d", got, want)
		}
	}
}

// comes fails unless these are the next draws.
func comes(t *testing.T, d *Dice, want ...uint32) {
	t.Helper()
	for i, w := range want {
		used := d.Used()
		if x := d.Next(); x != w {
			t.Fatalf("draw %d of %v: got %d", i, want, x)
		}
		asked(t, d, used+1)
	}
}

// P8.1

func TestDrawsComeInOrderAndGoRound(t *testing.T) {
	d := New([]uint32{5, 6, 7})
	asked(t, d, 0)
	comes(t, d, 5, 6, 7, 5, 6, 7, 5, 6)
	asked(t, d, 8)
	comes(t, d, 7, 5)
}

func TestOneDraw(t *testing.T) {
	for _, x := range []uint32{0, 1, 4096, 1 << 31, greatest} {
		d := New([]uint32{x})
		comes(t, d, x, x, x, x)
		asked(t, d, 4)
	}
}

func TestDrawsGoRoundSeveralTimes(t *testing.T) {
	r := rand.New(rand.NewSource(81))
	for _, many := range []int{1, 2, 3, 7, 8, 100, api.MaxRing, api.MaxRing + 1} {
		list := make([]uint32, many)
		for i := range list {
			list[i] = r.Uint32()
		}
		d := New(list)
		for i := range 4*many + 1 {
			if x := d.Next(); x != list[i%many] {
				t.Fatalf("draw %d of %d: got %d, want %d", i, many, x, list[i%many])
			}
		}
		asked(t, d, 4*many+1)
	}
}

func TestSameDrawsAreDrawsEach(t *testing.T) {
	comes(t, New([]uint32{3, 3, 0, 3}), 3, 3, 0, 3, 3, 3, 0, 3)
	comes(t, New([]uint32{0, 0}), 0, 0, 0)
}

func TestNoDraws(t *testing.T) {
	for name, d := range map[string]*Dice{"nil": New(nil), "empty": New([]uint32{}), "cut to none": New([]uint32{1, 2}[:0]), "never made": {}} {
		asked(t, d, 0)
		comes(t, d, greatest, greatest, greatest)
		for i, c := range []struct {
			share int64
			want  bool
		}{{minInt, false}, {-1, false}, {0, false}, {1, false}, {api.One - 1, false}, {api.One, true}, {api.One + 1, true}, {maxInt, true}} {
			if got := d.Hit(c.share); got != c.want {
				t.Errorf("%s: Hit of %d: %v", name, c.share, got)
			}
			asked(t, d, 4+i)
		}
		comes(t, d, greatest)
	}
}

func TestDrawsStayAsTheyWereToldAhead(t *testing.T) {
	list := append(make([]uint32, 0, 8), 5, 6, 7)
	d := New(list)
	list[0], list[2] = 50, 70
	comes(t, d, 5, 6, 7, 5)
	list[1] = 60
	list = append(list, 80)
	comes(t, d, 6, 7, 5, 6)
	if !slices.Equal(list, []uint32{50, 60, 70, 80}) {
		t.Errorf("what was handed in: %v", list)
	}
}

func TestWhatIsHandedInStays(t *testing.T) {
	list := []uint32{9, 4095, 4096, greatest}
	kept := slices.Clone(list)
	d := New(list)
	for range 9 {
		d.Next()
		d.Hit(1)
	}
	Gaps(list, 1)
	Count(list, 1)
	if !slices.Equal(list, kept) {
		t.Errorf("%v", list)
	}
}

func TestDiceAreApart(t *testing.T) {
	list := []uint32{1, 2, 3}
	a, b := New(list), New(list)
	comes(t, a, 1, 2)
	comes(t, b, 1)
	asked(t, a, 2)
	asked(t, b, 1)
	comes(t, a, 3, 1)
	comes(t, b, 2, 3)
}

func TestACopyGoesItsOwnWay(t *testing.T) {
	a := New([]uint32{1, 2, 3})
	comes(t, a, 1)
	b := *a
	comes(t, a, 2, 3, 1)
	asked(t, &b, 1)
	comes(t, &b, 2, 3)
	asked(t, a, 4)
	comes(t, a, 2)
}

// P8.2

func TestTheExampleOfTheChapter(t *testing.T) {
	d := New([]uint32{0, 1 << 31})
	for i, want := range []bool{true, false, true} {
		if got := d.Hit(1); got != want {
			t.Errorf("%d: %v", i, got)
		}
	}
}

func TestHitAtTheEdges(t *testing.T) {
	for _, c := range []struct {
		x     uint32
		share int64
		want  bool
	}{
		{0, minInt, false}, {0, -1, false}, {0, 0, false}, {0, 1, true}, {0, api.One - 1, true}, {0, api.One, true},
		{4095, 0, false}, {4095, 1, true}, {4096, 1, false}, {4096, 2, true}, {8191, 2, true}, {8192, 2, false},
		{1<<31 - 1, 1 << 19, true}, {1 << 31, 1 << 19, false}, {1 << 31, 1<<19 + 1, true}, {1<<31 - 1, 1<<19 - 1, false},
		{greatest - 4096, api.One - 1, true}, {greatest - 4095, api.One - 1, false},
		{greatest, minInt, false}, {greatest, -1, false}, {greatest, 0, false}, {greatest, 1, false}, {greatest, api.One - 1, false},
		{greatest, api.One, true}, {greatest, api.One + 1, true}, {greatest, api.Whole, true}, {greatest, 1 << 52, true}, {greatest, maxInt, true},
	} {
		if got := New([]uint32{c.x}).Hit(c.share); got != c.want {
			t.Errorf("draw %d, share %d: got %v", c.x, c.share, got)
		}
	}
}

func TestBothSidesOfAShare(t *testing.T) {
	for _, share := range []int64{1, 2, 3, 5, 255, 1000, 4095, 4096, 1 << 19, 987136, api.One - 2, api.One - 1} {
		edge := uint32(share << 12)
		if !New([]uint32{edge - 1}).Hit(share) {
			t.Errorf("share %d: the draw below its edge misses", share)
		}
		if New([]uint32{edge}).Hit(share) {
			t.Errorf("share %d: the draw at its edge hits", share)
		}
	}
}

func TestHitByNumbersWithoutBounds(t *testing.T) {
	list := draws()
	for _, share := range shares() {
		d := New(list)
		for _, x := range list {
			if got := d.Hit(share); got != plainHit(x, share) {
				t.Fatalf("draw %d, share %d: got %v", x, share, got)
			}
		}
		asked(t, d, len(list))
	}
}

func TestHitAsksOnceWhateverTheShareIs(t *testing.T) {
	for _, share := range shares() {
		d := New([]uint32{10, 1 << 20, greatest})
		asked(t, d, 0)
		for i, x := range []uint32{10, 1 << 20, greatest, 10} {
			if got := d.Hit(share); got != plainHit(x, share) {
				t.Fatalf("draw %d, share %d: got %v", x, share, got)
			}
			asked(t, d, i+1)
		}
		comes(t, d, 1<<20) // Hit and Next go round together
		d.Hit(share)
		comes(t, d, 10)
		asked(t, d, 7)
	}
}

// P8.3

// plainSpread is what the chapter says of Spread, by numbers without bounds.
func plainSpread(seed uint32, many int) []uint32 {
	x, round := new(big.Int).SetUint64(uint64(seed)), big.NewInt(1<<32)
	var l []uint32
	for range many {
		x.Mul(x, big.NewInt(1664525)).Add(x, big.NewInt(1013904223)).Mod(x, round)
		l = append(l, uint32(x.Uint64()))
	}
	return l
}

func TestSpreadOfASeed(t *testing.T) {
	if l := Spread(0, 2); !slices.Equal(l, []uint32{1013904223, 1196435762}) {
		t.Errorf("of 0: %v", l)
	}
	if l := Spread(1, 1); !slices.Equal(l, []uint32{1015568748}) {
		t.Errorf("of 1: %v", l)
	}
	if l := Spread(greatest, 1); !slices.Equal(l, []uint32{1012239698}) {
		t.Errorf("of the greatest: %v", l)
	}
	for _, seed := range []uint32{0, 1, 2, 4096, 1013904223, 1 << 31, greatest - 1, greatest} {
		for _, many := range []int{1, 2, 3, 10, 1000} {
			if l := Spread(seed, many); !slices.Equal(l, plainSpread(seed, many)) {
				t.Fatalf("%d of %d: %v", many, seed, l)
			}
		}
	}
}

func TestHowManyAreSpread(t *testing.T) {
	for _, seed := range []uint32{0, 7, greatest} {
		for _, many := range []int{math.MinInt, -api.MaxRing, -2, -1, 0} {
			if l := Spread(seed, many); len(l) != 0 {
				t.Errorf("%d of %d: %v", many, seed, l)
			}
		}
		all := plainSpread(seed, api.MaxRing)
		for _, many := range []int{api.MaxRing - 1, api.MaxRing, api.MaxRing + 1, 1 << 32, math.MaxInt} {
			if l := Spread(seed, many); !slices.Equal(l, all[:min(many, api.MaxRing)]) {
				t.Errorf("%d of %d: %d draws, or wrong ones", many, seed, len(l))
			}
		}
	}
}

func TestSpreadIsANewList(t *testing.T) {
	l, again := Spread(3, 4), Spread(3, 4)
	l[0], l[3] = 1, 2
	if want := plainSpread(3, 4); !slices.Equal(again, want) || !slices.Equal(Spread(3, 4), want) {
		t.Errorf("%v", again)
	}
}

func TestSpreadDrawsAreDrawn(t *testing.T) {
	l := Spread(5, 3)
	d := New(l)
	l[1] = 0
	want := plainSpread(5, 3)
	comes(t, d, append(want, want...)...)
}

// P8.4

func TestADrawThatHitsHitsEachGreaterShare(t *testing.T) {
	rising := shares()
	for _, x := range draws() {
		hit := false
		for _, share := range rising {
			got := New([]uint32{x}).Hit(share)
			if hit && !got {
				t.Fatalf("draw %d hits a lesser share, but not %d", x, share)
			}
			hit = got
		}
		if !hit {
			t.Fatalf("draw %d hits no share", x)
		}
	}
}

func TestTheLeastShareThatADrawHits(t *testing.T) {
	for _, x := range draws() {
		down := int64(x) / 4096
		for _, share := range []int64{down + 1, down + 2, api.One} {
			if !New([]uint32{x}).Hit(share) {
				t.Fatalf("draw %d: share %d is missed", x, share)
			}
		}
		for _, share := range []int64{down, down - 1, 0} {
			if New([]uint32{x}).Hit(share) {
				t.Fatalf("draw %d: share %d is hit", x, share)
			}
		}
	}
}

// P8.5

func TestGapsAndCount(t *testing.T) {
	const no = 1 << 31 // misses a share of 1; 0 to 4095 hit it
	for _, c := range []struct {
		name  string
		draws []uint32
		want  []int
	}{
		{"of nil", nil, []int{0}},
		{"of none", []uint32{}, []int{0}},
		{"of one that misses", []uint32{no}, []int{1}},
		{"of one that hits", []uint32{0}, []int{0, 0}},
		{"of misses alone", []uint32{no, 4096, greatest, no}, []int{4}},
		{"of hits alone", []uint32{0, 1, 4095}, []int{0, 0, 0, 0}},
		{"of misses ahead", []uint32{no, no, no, 0}, []int{3, 0}},
		{"of misses behind", []uint32{0, no, no}, []int{0, 2}},
		{"of misses around", []uint32{no, 0, no, no}, []int{1, 2}},
		{"of misses between", []uint32{0, no, no, no, 0}, []int{0, 3, 0}},
		{"of both", []uint32{no, 5, no, no, 0, 1}, []int{1, 2, 0, 0}},
		{"of both, in turn", []uint32{0, no, 0, no, 0, no}, []int{0, 1, 1, 1}},
		{"at the share's edge", []uint32{4095, 4096, 4095, 4096, 4096}, []int{0, 1, 2}},
	} {
		if got := Gaps(c.draws, 1); !slices.Equal(got, c.want) {
			t.Errorf("Gaps %s: got %v, want %v", c.name, got, c.want)
		}
		if got := Count(c.draws, 1); got != len(c.want)-1 {
			t.Errorf("Count %s: got %d, want %d", c.name, got, len(c.want)-1)
		}
	}
}

func TestGapsAndCountOfSharesThatTellAlone(t *testing.T) {
	list := []uint32{0, 4095, 4096, greatest}
	for _, share := range []int64{minInt, -1, 0} {
		if g := Gaps(list, share); !slices.Equal(g, []int{4}) || Count(list, share) != 0 {
			t.Errorf("share %d: %v, %d", share, g, Count(list, share))
		}
	}
	for _, share := range []int64{api.One, api.One + 1, maxInt} {
		if g := Gaps(list, share); !slices.Equal(g, []int{0, 0, 0, 0, 0}) || Count(list, share) != 4 {
			t.Errorf("share %d: %v, %d", share, g, Count(list, share))
		}
	}
	for _, share := range shares() {
		if g := Gaps(nil, share); !slices.Equal(g, []int{0}) || Count(nil, share) != 0 {
			t.Errorf("share %d, no draws: %v, %d", share, g, Count(nil, share))
		}
	}
}

func TestGapsAndCountAreAsHitTells(t *testing.T) {
	r := rand.New(rand.NewSource(85))
	for _, share := range shares() {
		list := draws()
		r.Shuffle(len(list), func(i, j int) { list[i], list[j] = list[j], list[i] })
		list = list[:r.Intn(len(list)+1)]
		var want []int
		d, missed := New(list), 0
		for range list {
			if d.Hit(share) {
				want, missed = append(want, missed), 0
			} else {
				missed++
			}
		}
		hits := len(want)
		want = append(want, missed)
		g := Gaps(list, share)
		if !slices.Equal(g, want) || Count(list, share) != hits {
			t.Fatalf("share %d: got %v and %d, want %v and %d", share, g, Count(list, share), want, hits)
		}
		all := hits
		for _, gap := range g {
			all += gap
		}
		if all != len(list) {
			t.Fatalf("share %d: %d hit or missed, of %d", share, all, len(list))
		}
	}
}

func TestGapsAndCountOfMoreThanARing(t *testing.T) {
	list := make([]uint32, 2*api.MaxRing+3)
	if g := Gaps(list, 0); !slices.Equal(g, []int{len(list)}) || Count(list, 0) != 0 {
		t.Errorf("all miss: %v", g)
	}
	if g := Gaps(list, 1); len(g) != len(list)+1 || slices.Max(g) != 0 || Count(list, 1) != len(list) {
		t.Errorf("all hit: %d numbers", len(g))
	}
}

func TestGapsIsANewList(t *testing.T) {
	list := []uint32{1 << 31, 0}
	g, again := Gaps(list, 1), Gaps(list, 1)
	g[0], g[1] = 8, 9
	list[0] = 0
	if !slices.Equal(again, []int{1, 0}) {
		t.Errorf("%v", again)
	}
}

// wrong inputs

func TestNil(t *testing.T) {
	var d *Dice
	for range 3 {
		if x := d.Next(); x != greatest {
			t.Errorf("Next: %d", x)
		}
		for _, share := range shares() {
			if d.Hit(share) {
				t.Errorf("Hit of %d", share)
			}
		}
		asked(t, d, 0)
	}
}
