package count

import (
	"math"
	"math/big"
	"math/rand"
	"slices"
	"testing"

	"leat/api"
	"leat/ecn"
	"leat/option"
)

// codes are all there are.
var codes = []int{0, 1, 2, 3}

// nones are numbers that are no codes: those beside them, those whose lowest bits or byte are one's, and both ends.
func nones() []int {
	l := []int{math.MinInt, math.MinInt + 1, math.MaxInt - 1, math.MaxInt, -1, -2, -3, -4, 4, 5, 6, 7, 8, 9, 255}
	for i := 3; i < 63; i++ {
		for c := range 4 {
			l = append(l, 1<<i+c, -1<<i+c)
		}
	}
	r := rand.New(rand.NewSource(15))
	for range 50 {
		if n := int(r.Uint64()); n < 0 || n > 3 {
			l = append(l, n)
		}
	}
	slices.Sort(l)
	return slices.Compact(l)
}

// anyCodes are all codes, and numbers that are none.
func anyCodes() []int {
	return append(nones(), codes...)
}

// sizes are numbers of bytes, with what each counts as.
var sizes = []struct{ bytes, as int64 }{
	{0, 0},
	{1, 1},
	{100, 100},
	{1500, 1500},
	{65534, 65534},
	{65535, 65535},
	{65536, 65536},
	{65537, 65536},
	{65538, 65536},
	{1 << 20, 65536},
	{1<<32 + 5, 65536}, // its lowest half is 5
	{math.MaxInt64 - 1, 65536},
	{math.MaxInt64, 65536},
	{-1, 0},
	{-2, 0},
	{-100, 0},
	{-65536, 0},
	{-65537, 0},
	{-1<<32 + 5, 0},
	{math.MinInt64 + 1, 0},
	{math.MinInt64, 0},
}

// counters are numbers that a counter may be at: about 0, about where fields go round, and at both ends.
func counters() []int64 {
	l := []int64{math.MinInt64, math.MinInt64 + 1, math.MinInt64 + 65536, math.MaxInt64 - 65537, math.MaxInt64 - 65536, math.MaxInt64 - 65535, math.MaxInt64 - 1, math.MaxInt64}
	for _, about := range []int64{0, 8, 16, -8, 1 << 16, 1 << 23, 1 << 24, 1 << 25, -1 << 24, -1 << 25, 1 << 31, 1 << 32, -1 << 32, 1 << 53, -1 << 53} {
		l = append(l, about-1, about, about+1)
	}
	r := rand.New(rand.NewSource(1515))
	for range 20 {
		l = append(l, int64(r.Uint64()))
	}
	return l
}

// counts are counts whose counters are all different, each at each of the numbers once, and counts that came about by packets.
func counts() []api.Count {
	at := counters()
	var l []api.Count
	for i := range at {
		n := func(k int) int64 { return at[(i+k)%len(at)] }
		l = append(l, api.Count{Cep: n(0), Ceb: n(5), E0b: n(11), E1b: n(19)})
	}
	l = append(l, api.Count{}, Start(5), Start(6))
	return append(l, All(Start(5), []int{3, 2, 1, 0, 3}, 1500))
}

// raise is the sum, by numbers without bounds, at its end.
func raise(n, by int64) int64 {
	sum := new(big.Int).Add(big.NewInt(n), big.NewInt(by))
	if !sum.IsInt64() {
		return math.MaxInt64
	}
	return sum.Int64()
}

// model is Take as the chapter says it, of bytes that count as they are told.
func model(c api.Count, code int, as int64) api.Count {
	if code == 3 {
		return api.Count{Cep: raise(c.Cep, 1), Ceb: raise(c.Ceb, as), E0b: c.E0b, E1b: c.E1b}
	}
	if code == 2 {
		return api.Count{Cep: c.Cep, Ceb: c.Ceb, E0b: raise(c.E0b, as), E1b: c.E1b}
	}
	if code == 1 {
		return api.Count{Cep: c.Cep, Ceb: c.Ceb, E0b: c.E0b, E1b: raise(c.E1b, as)}
	}
	return c
}

// rest is a number modulo another one, by numbers without bounds.
func rest(n, round int64) int64 {
	return new(big.Int).Mod(big.NewInt(n), big.NewInt(round)).Int64()
}

// is fails if a count is another one.
func is(t *testing.T, got, want api.Count) {
	t.Helper()
	if got != want {
		t.Errorf("got %+v, want %+v", got, want)
	}
}

func TestTheExampleOfTheChapter(t *testing.T) {
	c := Take(Start(5), ecn.Ce, 100)
	is(t, c, api.Count{Cep: 6, Ceb: 100, E0b: 1, E1b: 1})
	if got := Ace(c); got != 6 {
		t.Errorf("Ace: got %d", got)
	}
}

// P15.1

func TestStart(t *testing.T) {
	for _, marked := range append(counters(), 0, 5, 6, -1, -5) {
		is(t, Start(marked), api.Count{Cep: marked, Ceb: 0, E0b: 1, E1b: 1})
	}
}

// P15.2

func TestTakeOfEachCode(t *testing.T) {
	c := api.Count{Cep: 5, Ceb: 10, E0b: 20, E1b: 30}
	is(t, Take(c, ecn.Not, 100), c)
	is(t, Take(c, ecn.Ect1, 100), api.Count{Cep: 5, Ceb: 10, E0b: 20, E1b: 130})
	is(t, Take(c, ecn.Ect0, 100), api.Count{Cep: 5, Ceb: 10, E0b: 120, E1b: 30})
	is(t, Take(c, ecn.Ce, 100), api.Count{Cep: 6, Ceb: 110, E0b: 20, E1b: 30})
}

func TestTakeOfNoCode(t *testing.T) {
	for _, none := range nones() {
		for _, c := range counts() {
			for _, bytes := range []int64{-1, 0, 1, 65536, math.MinInt64, math.MaxInt64} {
				is(t, Take(c, none, bytes), c)
			}
		}
	}
}

func TestTakeOfBytes(t *testing.T) {
	for _, s := range sizes {
		is(t, Take(Start(5), ecn.Ce, s.bytes), api.Count{Cep: 6, Ceb: s.as, E0b: 1, E1b: 1})
		is(t, Take(Start(5), ecn.Ect0, s.bytes), api.Count{Cep: 5, Ceb: 0, E0b: 1 + s.as, E1b: 1})
		is(t, Take(Start(5), ecn.Ect1, s.bytes), api.Count{Cep: 5, Ceb: 0, E0b: 1, E1b: 1 + s.as})
		is(t, Take(Start(5), ecn.Not, s.bytes), Start(5))
	}
}

func TestTakeOfCountersAtTheirEnds(t *testing.T) {
	const most = math.MaxInt64
	full := api.Count{Cep: most, Ceb: most, E0b: most, E1b: most}
	for _, code := range codes {
		is(t, Take(full, code, 1000), full)
	}
	near := api.Count{Cep: most - 1, Ceb: most - 999, E0b: most - 1000, E1b: most - 1001}
	is(t, Take(near, ecn.Ce, 1000), api.Count{Cep: most, Ceb: most, E0b: most - 1000, E1b: most - 1001})
	is(t, Take(near, ecn.Ect0, 1000), api.Count{Cep: most - 1, Ceb: most - 999, E0b: most, E1b: most - 1001})
	is(t, Take(near, ecn.Ect1, 1000), api.Count{Cep: most - 1, Ceb: most - 999, E0b: most - 1000, E1b: most - 1})
}

func TestTakeOfCountersBelowZero(t *testing.T) {
	const least = math.MinInt64
	c := api.Count{Cep: -1, Ceb: -5, E0b: least, E1b: -100}
	is(t, Take(c, ecn.Ce, 1<<20), api.Count{Cep: 0, Ceb: 65531, E0b: least, E1b: -100})
	is(t, Take(c, ecn.Ect0, 7), api.Count{Cep: -1, Ceb: -5, E0b: least + 7, E1b: -100})
	is(t, Take(c, ecn.Ect1, 100), api.Count{Cep: -1, Ceb: -5, E0b: least, E1b: 0})
}

func TestTakeAgainstTheModel(t *testing.T) {
	for _, c := range counts() {
		for _, code := range codes {
			for _, s := range sizes {
				is(t, Take(c, code, s.bytes), model(c, code, s.as))
			}
		}
	}
}

func TestAllOfNone(t *testing.T) {
	for _, c := range counts() {
		is(t, All(c, nil, 1000), c)
		is(t, All(c, []int{}, 1000), c)
	}
}

func TestAllOfOne(t *testing.T) {
	for _, c := range counts() {
		for _, code := range anyCodes() {
			for _, bytes := range []int64{-1, 0, 1000, 65537} {
				is(t, All(c, []int{code}, bytes), Take(c, code, bytes))
			}
		}
	}
}

func TestAllOfSome(t *testing.T) {
	is(t, All(Start(5), []int{3, 2, 1, 0, 9, 3, -1, 3}, 1000), api.Count{Cep: 8, Ceb: 3000, E0b: 1001, E1b: 1001})
	is(t, All(Start(5), []int{2, 2, 1}, 65537), api.Count{Cep: 5, Ceb: 0, E0b: 131073, E1b: 65537})
	is(t, All(Start(5), []int{3, 3}, -7), api.Count{Cep: 7, Ceb: 0, E0b: 1, E1b: 1})
	near := api.Count{Cep: math.MaxInt64 - 1, Ceb: math.MaxInt64 - 1500}
	is(t, All(near, []int{3, 3, 3}, 1000), api.Count{Cep: math.MaxInt64, Ceb: math.MaxInt64})
}

// drawn is so many codes by chance, one in eight of which is none.
func drawn(r *rand.Rand, many int) []int {
	none := nones()
	l := make([]int, many)
	for i := range l {
		l[i] = r.Intn(4)
		if r.Intn(8) == 0 {
			l[i] = none[r.Intn(len(none))]
		}
	}
	return l
}

func TestAllIsTakeOfEachInOrder(t *testing.T) {
	r := rand.New(rand.NewSource(2))
	for _, c := range counts() {
		for _, s := range sizes {
			l := drawn(r, r.Intn(40))
			want := c
			for _, code := range l {
				want = model(want, code, s.as)
			}
			is(t, All(c, l, s.bytes), want)
		}
	}
}

func TestAllOfVeryMany(t *testing.T) {
	l := make([]int, 1<<20)
	for i := range l {
		l[i] = i % 5
	}
	const each = (1<<20 - 1) / 5 // the one left over is Not, the first of the five
	is(t, All(Start(5), l, 1500), api.Count{Cep: 5 + each, Ceb: each * 1500, E0b: 1 + each*1500, E1b: 1 + each*1500})
}

func TestAllLeavesTheCodesAsTheyWere(t *testing.T) {
	l := []int{3, 2, 1, 0, -1, 9, math.MinInt, math.MaxInt, 3}
	was := slices.Clone(l)
	first := All(Start(5), l[:7:7], 1000)
	if !slices.Equal(l, was) {
		t.Errorf("the codes were changed: %v", l)
	}
	clear(l)
	is(t, first, api.Count{Cep: 6, Ceb: 1000, E0b: 1001, E1b: 1001})
}

// P15.3

func TestAceOfFewMarked(t *testing.T) {
	for marked := range 17 {
		if got := Ace(api.Count{Cep: int64(marked)}); got != uint8(marked%8) {
			t.Errorf("of %d: got %d", marked, got)
		}
	}
}

func TestAceOfOthers(t *testing.T) {
	for _, c := range []struct {
		cep  int64
		want uint8
	}{
		{-1, 7},
		{-2, 6},
		{-7, 1},
		{-8, 0},
		{-9, 7},
		{-16, 0},
		{255, 7},
		{256, 0},
		{1<<32 + 3, 3},
		{math.MaxInt64, 7},
		{math.MaxInt64 - 1, 6},
		{math.MinInt64, 0},
		{math.MinInt64 + 1, 1},
	} {
		if got := Ace(api.Count{Cep: c.cep}); got != c.want {
			t.Errorf("of %d: got %d, want %d", c.cep, got, c.want)
		}
	}
}

func TestAceHangsOnTheMarkedPacketsAlone(t *testing.T) {
	for _, c := range counts() {
		if got, want := Ace(c), uint8(rest(c.Cep, 8)); got != want {
			t.Errorf("of %+v: got %d, want %d", c, got, want)
		}
	}
}

func TestBytesInTheirOrder(t *testing.T) {
	c := api.Count{Cep: 4, Ceb: 2, E0b: 1, E1b: 3}
	if got := Bytes(c); got != [3]int64{1, 2, 3} {
		t.Errorf("got %v", got)
	}
	if got := Bytes(Start(5)); got != [3]int64{1, 0, 1} {
		t.Errorf("of a count that begins: got %v", got)
	}
}

func TestBytesGoRound(t *testing.T) {
	for _, c := range []struct{ counter, want int64 }{
		{0, 0},
		{1, 1},
		{1<<23 - 1, 1<<23 - 1},
		{1 << 23, 1 << 23},
		{1<<24 - 2, 1<<24 - 2},
		{1<<24 - 1, 1<<24 - 1},
		{1 << 24, 0},
		{1<<24 + 1, 1},
		{1<<25 - 1, 1<<24 - 1},
		{1 << 25, 0},
		{1<<32 + 7, 7},
		{-1, 1<<24 - 1},
		{-2, 1<<24 - 2},
		{-1<<24 + 1, 1},
		{-1 << 24, 0},
		{-1<<24 - 1, 1<<24 - 1},
		{math.MaxInt64, 1<<24 - 1},
		{math.MaxInt64 - 1, 1<<24 - 2},
		{math.MinInt64, 0},
		{math.MinInt64 + 1, 1},
	} {
		for place, count := range []api.Count{{E0b: c.counter}, {Ceb: c.counter}, {E1b: c.counter}} {
			var want [3]int64
			want[place] = c.want
			if got := Bytes(count); got != want {
				t.Errorf("of %+v: got %v, want %v", count, got, want)
			}
		}
	}
}

func TestBytesOfManyCounts(t *testing.T) {
	for _, c := range counts() {
		want := [3]int64{rest(c.E0b, 1<<24), rest(c.Ceb, 1<<24), rest(c.E1b, 1<<24)}
		if got := Bytes(c); got != want {
			t.Errorf("of %+v: got %v, want %v", c, got, want)
		}
	}
}

// turns are numbers of turns, with the Kind that each asks for.
var turns = []struct{ turn, kind int }{
	{0, 172},
	{1, 174},
	{2, 172},
	{3, 174},
	{4, 172},
	{172, 172},
	{173, 174},
	{174, 172},
	{-1, 174},
	{-2, 172},
	{-3, 174},
	{-4, 172},
	{1 << 32, 172},
	{1<<32 + 1, 174},
	{math.MaxInt, 174},
	{math.MaxInt - 1, 172},
	{math.MinInt, 172},
	{math.MinInt + 1, 174},
}

func TestOptionOfTurns(t *testing.T) {
	c := api.Count{Cep: 9, Ceb: 2, E0b: 1, E1b: 3}
	for _, n := range turns {
		o := Option(c, n.turn)
		nums := []uint32{1, 2, 3}
		if n.kind == 174 {
			nums = []uint32{3, 2, 1}
		}
		if o.Kind != n.kind || o.Raw != "" || !slices.Equal(o.Nums, nums) {
			t.Errorf("of turn %d: got %+v, want the Kind %d and %v", n.turn, o, n.kind, nums)
		}
	}
}

func TestOptionTellsTheFields(t *testing.T) {
	for _, c := range counts() {
		for _, n := range turns {
			o := Option(c, n.turn)
			if o.Kind != n.kind || o.Raw != "" || len(o.Nums) != 3 {
				t.Errorf("of %+v, turn %d: got %+v", c, n.turn, o)
			}
			if got, want := option.Counters(o), Bytes(c); got != want {
				t.Errorf("of %+v, turn %d: it tells %v, want %v", c, n.turn, got, want)
			}
		}
	}
}

func TestOptionCanBePrinted(t *testing.T) {
	for _, c := range counts() {
		b, e := option.Print([]api.Option{Option(c, 0), Option(c, 1)})
		if e != api.OK {
			t.Fatalf("of %+v: error %d", c, e)
		}
		l, e := option.Parse(b)
		if e != api.OK || len(l) != 2 || option.Counters(l[0]) != Bytes(c) || option.Counters(l[1]) != Bytes(c) {
			t.Errorf("of %+v: got back %+v, error %d", c, l, e)
		}
	}
}

func TestOptionsShareNoNumbers(t *testing.T) {
	first := Option(Start(5), 0)
	clear(first.Nums)
	if got := Option(Start(5), 0); !slices.Equal(got.Nums, []uint32{1, 0, 1}) {
		t.Errorf("got %v", got.Nums)
	}
}

// P15.4

func TestNoCounterFalls(t *testing.T) {
	for _, c := range counts() {
		for _, code := range anyCodes() {
			for _, s := range sizes {
				n := Take(c, code, s.bytes)
				if n.Cep < c.Cep || n.Ceb < c.Ceb || n.E0b < c.E0b || n.E1b < c.E1b {
					t.Fatalf("Take(%+v, %d, %d) fell: %+v", c, code, s.bytes, n)
				}
			}
		}
	}
}

func TestNoCounterFallsOverMany(t *testing.T) {
	r := rand.New(rand.NewSource(4))
	for _, c := range counts() {
		for range 20 {
			n := All(c, drawn(r, r.Intn(30)), int64(r.Uint64()))
			if n.Cep < c.Cep || n.Ceb < c.Ceb || n.E0b < c.E0b || n.E1b < c.E1b {
				t.Fatalf("from %+v it fell to %+v", c, n)
			}
			c = n
		}
	}
}

func TestBytesRiseByAllThatCameAble(t *testing.T) {
	r := rand.New(rand.NewSource(5))
	for range 200 {
		c := Start(r.Int63n(100))
		was := c
		var able, marked int64
		for _, code := range drawn(r, 100) {
			s := sizes[r.Intn(len(sizes))]
			c = Take(c, code, s.bytes)
			if ecn.Able(code) {
				able += s.as
			}
			if code == ecn.Ce {
				marked++
			}
		}
		if got := c.Ceb + c.E0b + c.E1b - was.Ceb - was.E0b - was.E1b; got != able {
			t.Fatalf("the bytes rose by %d, want %d", got, able)
		}
		if got := c.Cep - was.Cep; got != marked {
			t.Fatalf("the marked packets rose by %d, want %d", got, marked)
		}
	}
}
