package sum

import (
	"bytes"
	"math"
	"math/big"
	"math/rand"
	"slices"
	"testing"
)

// model is the Sum as the chapter says it, over numbers without bounds: the sum is 0 if all words are, and else the number from 1 to 2^16 less 1 that is the same modulo 2^16 less 1.
func model(b []byte) uint16 {
	row := slices.Clone(b)
	if len(row)%2 == 1 {
		row = append(row, 0)
	}
	all := new(big.Int)
	for i := 0; i < len(row); i += 2 {
		all.Add(all, big.NewInt(int64(row[i])*256+int64(row[i+1])))
	}
	if all.Sign() == 0 {
		return 65535
	}
	rest := all.Mod(all, big.NewInt(65535)).Int64()
	if rest == 0 {
		rest = 65535
	}
	return uint16(65535 - rest)
}

// some are n bytes by chance of a fixed seed.
func some(r *rand.Rand, n int) []byte {
	b := make([]byte, n)
	for i := range b {
		b[i] = byte(r.Intn(256))
	}
	return b
}

// filledWith are n bytes that are all the same.
func filledWith(x byte, n int) []byte {
	return bytes.Repeat([]byte{x}, n)
}

// P10.1

func TestSumOfPlainBytes(t *testing.T) {
	for _, c := range []struct {
		b    []byte
		want uint16
	}{
		{[]byte{0x00, 0x01, 0xF2, 0x03, 0xF4, 0xF5, 0xF6, 0xF7}, 0x220D}, // the chapter's example
		{[]byte{1}, 0xFEFF},    // an odd one is the higher byte
		{[]byte{0, 1}, 0xFFFE}, // the higher byte first
		{[]byte{1, 0}, 0xFEFF},
		{[]byte{1, 2, 3}, 0xFBFD}, // 0102 + 0300
		{[]byte{0xFF}, 0x00FF},
		{[]byte{0xFF, 0xFF}, 0},            // just 2^16 less 1
		{[]byte{0xFF, 0xFE, 0, 1}, 0},      // the same of two
		{[]byte{0xFF, 0xFF, 0, 1}, 0xFFFE}, // just 2^16: 1
		{[]byte{0x80, 0, 0x80, 0}, 0xFFFE}, // the same
		{[]byte{0xFF, 0xFF, 0, 2}, 0xFFFD}, // 2^16 and 1: 2
		{[]byte{0xFF, 0xFF, 0xFF, 0xFF}, 0},
		{[]byte{0xFF, 0xFF, 0xFF}, 0x00FF},
	} {
		if got := Sum(c.b); got != c.want {
			t.Errorf("Sum(% X): got %04X, want %04X", c.b, got, c.want)
		}
	}
}

func TestSumOfNothing(t *testing.T) {
	for i, parts := range [][][]byte{
		nil,
		{},
		{nil},
		{{}},
		{nil, {}, nil},
	} {
		if got := Sum(parts...); got != 65535 {
			t.Errorf("%d: got %d", i, got)
		}
	}
	if got := Sum(); got != 65535 {
		t.Errorf("of no parts: %d", got)
	}
}

func TestSumOfEveryByteAlone(t *testing.T) {
	for x := range 256 {
		if got, want := Sum([]byte{byte(x)}), uint16(65535-256*x); got != want {
			t.Errorf("Sum(%02X): got %04X, want %04X", x, got, want)
		}
	}
}

func TestSumOfEveryWordAlone(t *testing.T) {
	for x := range 65536 {
		if got, want := Sum([]byte{byte(x / 256), byte(x % 256)}), uint16(65535-x); got != want {
			t.Fatalf("Sum of the word %04X: got %04X, want %04X", x, got, want)
		}
	}
}

func TestSumOfZeros(t *testing.T) {
	for n := range 70 {
		if got := Sum(make([]byte, n)); got != 65535 {
			t.Errorf("of %d: got %04X", n, got)
		}
	}
}

func TestSumOfAllBits(t *testing.T) {
	for n := 1; n < 70; n++ {
		want := uint16(0)
		if n%2 == 1 {
			want = 0x00FF // FF00 is the last word
		}
		if got := Sum(filledWith(0xFF, n)); got != want {
			t.Errorf("of %d: got %04X, want %04X", n, got, want)
		}
	}
}

func TestSumThatGoesRoundManyTimes(t *testing.T) {
	for _, n := range []int{1<<17 - 2, 1<<17 - 1, 1 << 17, 1<<17 + 1, 1<<17 + 2, 1<<18 + 6, 1<<20 + 3} {
		for _, x := range []byte{0xFF, 0xFE, 0x80, 1} {
			b := filledWith(x, n)
			if got, want := Sum(b), model(b); got != want {
				t.Errorf("%d bytes %02X: got %04X, want %04X", n, x, got, want)
			}
		}
	}
}

func TestSumThatGoesRoundTwiceBehindItself(t *testing.T) {
	// FFFF times so many that what is above, added below, is above once more.
	b := append(filledWith(0xFF, 2*0xFFFF), 0, 1, 0xFF, 0xFF)
	if got, want := Sum(b), model(b); got != want || want != 0xFFFE {
		t.Errorf("got %04X, want %04X", got, want)
	}
}

func TestSumIsTheModel(t *testing.T) {
	r := rand.New(rand.NewSource(10))
	for n := range 300 {
		for range 5 {
			b := some(r, n)
			if got, want := Sum(b), model(b); got != want {
				t.Fatalf("Sum(% X): got %04X, want %04X", b, got, want)
			}
		}
	}
}

func TestSumOfOddPartsWithOthersBehind(t *testing.T) {
	for _, c := range []struct {
		parts [][]byte
		want  uint16
	}{
		{[][]byte{{1}, {2}}, 65535 - 0x0102},
		{[][]byte{{1}, nil, {2}}, 65535 - 0x0102},
		{[][]byte{{1}, {}, {}, {2}, {3}}, 65535 - 0x0402},
		{[][]byte{nil, {1, 2, 3}, {4}}, 65535 - 0x0406},
		{[][]byte{{1, 2, 3}, {4, 5}, {6}}, 65535 - 0x090C},
		{[][]byte{{1, 2, 3}, {4, 5}, nil}, 65535 - 0x0906},
		{[][]byte{{1}, {2}, {3}, {4}, {5}, {6}, {7}}, 65535 - 0x100C},
	} {
		if got := Sum(c.parts...); got != c.want {
			t.Errorf("%v: got %04X, want %04X", c.parts, got, c.want)
		}
	}
}

func TestSumHangsOnNoCapacity(t *testing.T) {
	wide := []byte{1, 2, 3, 0xFF, 0xFF}
	if got := Sum(wide[:3]); got != 0xFBFD {
		t.Errorf("got %04X: what stands behind the end counts", got)
	}
}

func TestSumLeavesItsParts(t *testing.T) {
	parts := [][]byte{{1, 2, 3}, nil, {4, 5}}
	Sum(parts...)
	Verify(parts...)
	if !slices.EqualFunc(parts, [][]byte{{1, 2, 3}, nil, {4, 5}}, bytes.Equal) {
		t.Errorf("%v", parts)
	}
}

// P10.2

func TestPseudo(t *testing.T) {
	got := Pseudo([4]byte{10, 20, 30, 40}, [4]byte{50, 60, 70, 80}, 6, 300)
	if want := []byte{10, 20, 30, 40, 50, 60, 70, 80, 0, 6, 1, 44}; !bytes.Equal(got, want) {
		t.Errorf("got %v, want %v", got, want)
	}
}

func TestPseudoOfLengths(t *testing.T) {
	for _, c := range []struct {
		length    int
		high, low byte
	}{
		{0, 0, 0},
		{1, 0, 1},
		{255, 0, 255},
		{256, 1, 0},
		{0x1234, 0x12, 0x34},
		{1<<16 - 1, 255, 255},
		{1 << 16, 0, 0},
		{1<<16 + 1, 0, 1},
		{1<<16 + 0x0203, 2, 3},
		{1<<32 + 5, 0, 5},
		{-1, 255, 255},
		{-2, 255, 254},
		{-256, 255, 0},
		{-(1<<16 - 1), 0, 1},
		{-(1 << 16), 0, 0},
		{-(1<<16 + 1), 255, 255},
		{math.MinInt, 0, 0},
		{math.MinInt + 1, 0, 1},
		{math.MaxInt, 255, 255},
		{math.MaxInt - 1, 255, 254},
	} {
		want := []byte{0, 0, 0, 0, 0, 0, 0, 0, 0, 0, c.high, c.low}
		if got := Pseudo([4]byte{}, [4]byte{}, 0, c.length); !bytes.Equal(got, want) {
			t.Errorf("%d: got %v, want %v", c.length, got, want)
		}
	}
}

func TestPseudoOfLengthsIsTheModel(t *testing.T) {
	r := rand.New(rand.NewSource(11))
	round := big.NewInt(1 << 16)
	for range 2000 {
		length := int(r.Uint64()) >> r.Intn(64)
		rest := new(big.Int).Mod(big.NewInt(int64(length)), round).Int64() // never below 0
		got := Pseudo([4]byte{}, [4]byte{}, 17, length)
		if int64(got[10])*256+int64(got[11]) != rest {
			t.Fatalf("%d: got %v, want %d", length, got, rest)
		}
	}
}

func TestPseudoHasEachByteInItsPlace(t *testing.T) {
	for x := range 256 {
		for i := range 4 {
			var one [4]byte
			one[i] = byte(x)
			want := make([]byte, 12)
			want[i] = byte(x)
			if got := Pseudo(one, [4]byte{}, 0, 0); !bytes.Equal(got, want) {
				t.Errorf("src[%d] = %d: got %v", i, x, got)
			}
			want[i], want[4+i] = 0, byte(x)
			if got := Pseudo([4]byte{}, one, 0, 0); !bytes.Equal(got, want) {
				t.Errorf("dst[%d] = %d: got %v", i, x, got)
			}
		}
		want := make([]byte, 12)
		want[9] = byte(x)
		if got := Pseudo([4]byte{}, [4]byte{}, byte(x), 0); !bytes.Equal(got, want) {
			t.Errorf("proto %d: got %v", x, got)
		}
	}
}

func TestPseudoIsNewEachTime(t *testing.T) {
	src, dst := [4]byte{1, 2, 3, 4}, [4]byte{5, 6, 7, 8}
	first := Pseudo(src, dst, 6, 9)
	second := Pseudo(src, dst, 6, 9)
	for i := range first {
		first[i] = 99
	}
	src[0], dst[0] = 77, 77
	if want := []byte{1, 2, 3, 4, 5, 6, 7, 8, 0, 6, 0, 9}; !bytes.Equal(second, want) {
		t.Errorf("%v", second)
	}
}

// P10.3

func TestVerify(t *testing.T) {
	for _, c := range []struct {
		parts [][]byte
		want  bool
	}{
		{nil, false},
		{[][]byte{nil}, false},
		{[][]byte{{}, nil}, false},
		{[][]byte{{0}}, false},
		{[][]byte{{0, 0, 0, 0}}, false}, // a sum of 0 is not one of all bits
		{[][]byte{{0xFF}}, false},
		{[][]byte{{0xFF, 0xFF}}, true},
		{[][]byte{{0xFF}, {0xFF}}, true},
		{[][]byte{{0xFF, 0xFF, 0xFF, 0xFF}}, true},
		{[][]byte{{0xFF, 0xFF, 0, 1}}, false},
		{[][]byte{{0xFF, 0xFE}}, false},
		{[][]byte{{0xFE, 0xFF}}, false},
		{[][]byte{{0xFE, 0xFF, 1}}, true},
		{[][]byte{{0xFE, 0xFF}, {1}}, true},
		{[][]byte{{0xFE, 0xFF, 0, 1}}, false},
	} {
		if got := Verify(c.parts...); got != c.want {
			t.Errorf("%v: got %v", c.parts, got)
		}
	}
}

func TestVerifyIsWhetherSumIsZero(t *testing.T) {
	for x := range 65536 {
		for _, b := range [][]byte{{byte(x / 256), byte(x % 256)}, {byte(x / 256), byte(x % 256), 0x12, 0x34}} {
			if got, want := Verify(b), model(b) == 0; got != want {
				t.Fatalf("% X: got %v", b, got)
			}
		}
	}
}

func TestFill(t *testing.T) {
	for _, c := range []struct {
		b    []byte
		at   int
		want []byte
	}{
		{[]byte{1, 2, 9, 9, 3}, 2, []byte{1, 2, 0xFB, 0xFD, 3}},
		{[]byte{1, 2, 0, 0, 3}, 2, []byte{1, 2, 0xFB, 0xFD, 3}},
		{[]byte{0xFF, 0xFF, 1, 2}, 0, []byte{0xFE, 0xFD, 1, 2}},
		{[]byte{1, 2, 7, 7}, 2, []byte{1, 2, 0xFE, 0xFD}}, // the last place
		{[]byte{1, 2, 7, 7, 0}, 2, []byte{1, 2, 0xFE, 0xFD, 0}},
		{[]byte{7, 7}, 0, []byte{0xFF, 0xFF}}, // there is nothing else
		{[]byte{0, 0}, 0, []byte{0xFF, 0xFF}},
		{[]byte{7, 7, 0}, 0, []byte{0xFF, 0xFF, 0}},
		{[]byte{7, 7, 1}, 0, []byte{0xFE, 0xFF, 1}},
		{[]byte{7, 7, 0xFF, 0xFF}, 0, []byte{0, 0, 0xFF, 0xFF}},
		{[]byte{0xFF, 0xFF, 7, 7, 0, 1}, 2, []byte{0xFF, 0xFF, 0xFF, 0xFE, 0, 1}},
	} {
		got, is := Fill(c.b, c.at)
		if !is || !bytes.Equal(got, c.want) {
			t.Errorf("Fill(% X, %d): got % X, %v, want % X", c.b, c.at, got, is, c.want)
		}
	}
}

// places are many that may be told: those about a row's ends, and those far off, odd ones and even ones.
func places(n int) []int {
	l := []int{math.MinInt, math.MinInt + 1, math.MinInt + 2, math.MaxInt - 2, math.MaxInt - 1, math.MaxInt, -1 << 32, 1 << 32, 1<<16 + 2, -1 << 16}
	for at := -9; at < n+9; at++ {
		l = append(l, at)
	}
	return l
}

func TestFillTakesEvenPlacesTwoBytesAheadOfTheEnd(t *testing.T) {
	r := rand.New(rand.NewSource(12))
	for n := range 40 {
		b := some(r, n)
		taken := map[int]bool{}
		for at := 0; at+1 < n; at += 2 {
			taken[at] = true
		}
		for _, at := range places(n) {
			got, is := Fill(b, at)
			if is != taken[at] {
				t.Errorf("Fill of %d bytes at %d: %v", n, at, is)
			}
			if !is && len(got) != 0 {
				t.Errorf("Fill of %d bytes at %d: % X", n, at, got)
			}
			if is && len(got) != n {
				t.Errorf("Fill of %d bytes at %d: %d bytes", n, at, len(got))
			}
		}
	}
}

func TestFillOfTooFew(t *testing.T) {
	for _, b := range [][]byte{nil, {}, {1}, make([]byte, 0, 8), make([]byte, 1, 8)} {
		for _, at := range places(len(b)) {
			if got, is := Fill(b, at); is || len(got) != 0 {
				t.Errorf("Fill(% X, %d): got % X, %v", b, at, got, is)
			}
		}
	}
}

func TestFillIsTheModel(t *testing.T) {
	r := rand.New(rand.NewSource(13))
	for n := 2; n < 60; n++ {
		for at := 0; at <= n-2; at += 2 {
			b := some(r, n)
			want := slices.Clone(b)
			want[at], want[at+1] = 0, 0
			sum := model(want)
			want[at], want[at+1] = byte(sum/256), byte(sum%256)
			if got, is := Fill(b, at); !is || !bytes.Equal(got, want) {
				t.Fatalf("Fill(% X, %d): got % X, want % X", b, at, got, want)
			}
		}
	}
}

func TestFillLeavesWhatCameIn(t *testing.T) {
	room := []byte{1, 2, 9, 9, 3, 8, 8}
	b := room[:5]
	got, _ := Fill(b, 2)
	if !bytes.Equal(room, []byte{1, 2, 9, 9, 3, 8, 8}) {
		t.Fatalf("% X", room)
	}
	for i := range b {
		b[i] = 0x55
	}
	if !bytes.Equal(got, []byte{1, 2, 0xFB, 0xFD, 3}) {
		t.Errorf("what was told changed with what came in: % X", got)
	}
	for i := range got {
		got[i] = 0x66
	}
	got = append(got, 0x66)
	if !bytes.Equal(room, []byte{0x55, 0x55, 0x55, 0x55, 0x55, 8, 8}) || len(got) != 6 {
		t.Errorf("what came in changed with what was told: % X", room)
	}
}

func TestFillRefusingLeavesWhatCameIn(t *testing.T) {
	b := []byte{1, 2, 3}
	for _, at := range places(3) {
		if at != 0 {
			Fill(b, at)
		}
	}
	if !bytes.Equal(b, []byte{1, 2, 3}) {
		t.Errorf("% X", b)
	}
}

// P10.4

func TestWhatIsFilledIsVerified(t *testing.T) {
	r := rand.New(rand.NewSource(14))
	for n := 2; n < 60; n++ {
		for at := 0; at <= n-2; at += 2 {
			for _, b := range [][]byte{some(r, n), make([]byte, n), filledWith(0xFF, n)} {
				got, is := Fill(b, at)
				if !is || !Verify(got) {
					t.Fatalf("Fill(% X, %d): % X, %v is not verified", b, at, got, is)
				}
				again, _ := Fill(got, at)
				if !bytes.Equal(again, got) {
					t.Fatalf("filled again: % X, then % X", got, again)
				}
			}
		}
	}
}

func TestOneBitTurnedIsNotVerified(t *testing.T) {
	r := rand.New(rand.NewSource(15))
	for n := 2; n < 40; n++ {
		b := some(r, n)
		got, _ := Fill(b, n/4*2)
		for bit := range 8 * n {
			got[bit/8] ^= 1 << (bit % 8)
			if Verify(got) {
				t.Fatalf("% X with bit %d turned is verified", got, bit)
			}
			got[bit/8] ^= 1 << (bit % 8)
		}
	}
}

func TestSumHangsOnNoParting(t *testing.T) {
	r := rand.New(rand.NewSource(16))
	for n := range 24 {
		b := some(r, n)
		want := model(b)
		for i := 0; i <= n; i++ {
			for j := i; j <= n; j++ {
				if got := Sum(b[:i], b[i:j], b[j:]); got != want {
					t.Fatalf("% X parted at %d and %d: got %04X, want %04X", b, i, j, got, want)
				}
			}
		}
		var each [][]byte
		for i := range b {
			each = append(each, b[i:i+1], nil)
		}
		if got := Sum(each...); got != want {
			t.Errorf("% X, each byte a part: got %04X, want %04X", b, got, want)
		}
	}
}

func TestVerifyHangsOnNoParting(t *testing.T) {
	r := rand.New(rand.NewSource(17))
	for n := 2; n < 30; n++ {
		b, _ := Fill(some(r, n), 0)
		for i := 0; i <= n; i++ {
			if !Verify(b[:i], b[i:]) {
				t.Fatalf("% X parted at %d is not verified", b, i)
			}
			spoilt := slices.Clone(b)
			spoilt[n-1] ^= 4
			if Verify(spoilt[:i], spoilt[i:]) {
				t.Fatalf("% X parted at %d is verified", spoilt, i)
			}
		}
	}
}

func TestSumHangsOnNoOrderOfWords(t *testing.T) {
	r := rand.New(rand.NewSource(18))
	for words := range 40 {
		b := some(r, 2*words)
		want := Sum(b)
		for range 20 {
			r.Shuffle(words, func(i, j int) {
				b[2*i], b[2*j] = b[2*j], b[2*i]
				b[2*i+1], b[2*j+1] = b[2*j+1], b[2*i+1]
			})
			if got := Sum(b); got != want {
				t.Fatalf("% X: got %04X, want %04X", b, got, want)
			}
		}
	}
}

func TestSumHangsOnTheOrderWithinAWord(t *testing.T) {
	if Sum([]byte{1, 2}) == Sum([]byte{2, 1}) {
		t.Error("both bytes of a word count the same")
	}
}

func TestASegmentBehindItsPseudo(t *testing.T) {
	r := rand.New(rand.NewSource(19))
	for n := 2; n < 50; n++ {
		body := some(r, n)
		body[0], body[1] = 0, 0
		ahead := Pseudo([4]byte{192, 0, 2, 1}, [4]byte{198, 51, 100, 7}, 6, n)
		sum := Sum(ahead, body)
		body[0], body[1] = byte(sum>>8), byte(sum)
		if !Verify(ahead, body) {
			t.Errorf("% X % X", ahead, body)
		}
		if Verify(Pseudo([4]byte{192, 0, 2, 1}, [4]byte{198, 51, 100, 7}, 6, n+1), body) {
			t.Errorf("% X with another length", body)
		}
	}
}
