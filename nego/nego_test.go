package nego

import (
	"math"
	"math/rand"
	"slices"
	"testing"

	"leat/ecn"
)

// codes are all there are.
var codes = []int{0, 1, 2, 3}

// told are the three bits that tell each code, as the chapter says it.
var told = []uint8{2, 3, 4, 6}

// beyond are numbers below 0 and above most: those beside them, those whose lowest bits or bytes are of one that is not, and both ends.
func beyond(most int) []int {
	l := []int{math.MinInt, math.MinInt + 1, math.MaxInt - 1, math.MaxInt, -1, -2, -3, -4, -7, most + 1, most + 2, 7, 8, 9, 255}
	for i := 3; i < 63; i++ {
		for c := range 4 {
			l = append(l, 1<<i+c, -1<<i+c)
		}
	}
	r := rand.New(rand.NewSource(14))
	for range 50 {
		l = append(l, int(r.Uint64()))
	}
	slices.Sort(l)
	l = slices.Compact(l)
	return slices.DeleteFunc(l, func(n int) bool { return 0 <= n && n <= most })
}

// asModes are the numbers that count as a mode.
func asModes(m int) []int {
	l := []int{m}
	for _, n := range beyond(2) {
		if n < 0 && m == None || n > 2 && m == Accurate {
			l = append(l, n)
		}
	}
	return l
}

// modes are all there are.
var modes = []int{None, Classic, Accurate}

// anyCodes are all codes, and numbers that are none.
func anyCodes() []int {
	return append(beyond(3), codes...)
}

func TestTheModes(t *testing.T) {
	if None != 0 || Classic != 1 || Accurate != 2 {
		t.Error(None, Classic, Accurate)
	}
}

func TestTheExampleOfTheChapter(t *testing.T) {
	reply, mode := Reply(7, ecn.Ce, Accurate)
	if reply != 6 || mode != Accurate {
		t.Errorf("Reply: %d, %d", reply, mode)
	}
	if mode, code := Settle(Accurate, reply); mode != Accurate || code != ecn.Ce {
		t.Errorf("Settle: %d, %d", mode, code)
	}
}

// P14.1

func TestAskOfEachMode(t *testing.T) {
	for _, c := range []struct {
		want int
		ask  uint8
	}{
		{None, 0},
		{Classic, 3},
		{Accurate, 7},
		{-1, 0},
		{3, 7},
		{-2, 0},
		{4, 7},
		{math.MinInt, 0},
		{math.MinInt + 1, 0},
		{math.MaxInt, 7},
		{math.MaxInt - 1, 7},
		{-255, 0}, // its lowest byte is 1
		{257, 7},
		{1 << 32, 7}, // its lowest half is 0
		{-1<<32 + 2, 0},
	} {
		if got := Ask(c.want); got != c.ask {
			t.Errorf("Ask(%d): got %d, want %d", c.want, got, c.ask)
		}
	}
}

func TestAskOfNumbersThatAreNoModes(t *testing.T) {
	for _, n := range beyond(2) {
		want := uint8(0)
		if n > 2 {
			want = 7
		}
		if got := Ask(n); got != want {
			t.Errorf("Ask(%d): got %d, want %d", n, got, want)
		}
	}
}

// P14.2

func TestShakeOfEachCode(t *testing.T) {
	for _, c := range []struct {
		code int
		want uint8
	}{{ecn.Not, 2}, {ecn.Ect1, 3}, {ecn.Ect0, 4}, {ecn.Ce, 6}} {
		if got := Shake(c.code); got != c.want {
			t.Errorf("Shake(%d): got %d, want %d", c.code, got, c.want)
		}
	}
}

func TestShakeOfNoCode(t *testing.T) {
	for _, none := range beyond(3) {
		if got := Shake(none); got != 0 {
			t.Errorf("Shake(%d): got %d", none, got)
		}
	}
}

func TestShakenOfThreeBits(t *testing.T) {
	for _, c := range []struct {
		ace  uint8
		code int
		is   bool
	}{
		{0, 0, false},
		{1, 0, false},
		{2, ecn.Not, true},
		{3, ecn.Ect1, true},
		{4, ecn.Ect0, true},
		{5, 0, false},
		{6, ecn.Ce, true},
		{7, 0, false},
		{8, 0, false},
		{255, 0, false},
	} {
		if code, is := Shaken(c.ace); code != c.code || is != c.is {
			t.Errorf("Shaken(%d): got %d, %v", c.ace, code, is)
		}
	}
}

func TestShakenOfMoreThanThreeBits(t *testing.T) {
	for ace := 8; ace < 256; ace++ {
		if code, is := Shaken(uint8(ace)); code != 0 || is {
			t.Errorf("Shaken(%d): got %d, %v", ace, code, is)
		}
	}
}

func TestWhatShakeTellsIsToldBack(t *testing.T) {
	for _, code := range codes {
		if got, is := Shaken(Shake(code)); got != code || !is {
			t.Errorf("of %d: got %d, %v", code, got, is)
		}
	}
	for _, none := range beyond(3) {
		if got, is := Shaken(Shake(none)); got != 0 || is {
			t.Errorf("of %d: got %d, %v", none, got, is)
		}
	}
	for ace := range 256 {
		if code, is := Shaken(uint8(ace)); is && Shake(code) != uint8(ace) {
			t.Errorf("of %d: code %d, which is told as %d", ace, code, Shake(code))
		}
	}
}

// P14.3

// replies fails if a reply is another one.
func replies(t *testing.T, ask uint8, code, able int, want uint8, mode int) {
	t.Helper()
	if got, m := Reply(ask, code, able); got != want || m != mode {
		t.Errorf("Reply(%d, %d, %d): got %d, %d, want %d, %d", ask, code, able, got, m, want, mode)
	}
}

func TestReplyToTheAccurateQuestion(t *testing.T) {
	for _, able := range asModes(Accurate) {
		for code, shake := range told {
			replies(t, 7, code, able, shake, Accurate)
		}
		for _, none := range beyond(3) {
			replies(t, 7, none, able, 2, Accurate) // as of Not
		}
	}
	for _, code := range anyCodes() {
		replies(t, 7, code, Classic, 1, Classic)
	}
}

func TestReplyToTheClassicQuestion(t *testing.T) {
	for _, code := range anyCodes() {
		replies(t, 3, code, Classic, 1, Classic)
		for _, able := range asModes(Accurate) {
			replies(t, 3, code, able, 1, Classic)
		}
	}
}

func TestReplyOfOneThatIsAbleOfNone(t *testing.T) {
	for _, able := range asModes(None) {
		for ask := range 256 {
			for _, code := range append([]int{-1, 4, math.MinInt, math.MaxInt}, codes...) {
				replies(t, uint8(ask), code, able, 0, None)
			}
		}
	}
}

func TestReplyToOtherQuestions(t *testing.T) {
	for ask := range 256 {
		if ask == 3 || ask == 7 {
			continue
		}
		for _, code := range anyCodes() {
			for _, able := range append([]int{-1, 3, math.MinInt, math.MaxInt}, modes...) {
				replies(t, uint8(ask), code, able, 0, None)
			}
		}
	}
}

func TestReplyTellsTheCodeOnlyOfAccurate(t *testing.T) {
	for _, able := range append(beyond(2), modes...) {
		for ask := range 256 {
			for _, code := range codes {
				bits, mode := Reply(uint8(ask), code, able)
				if got, is := Shaken(bits); is != (mode == Accurate) || is && got != code {
					t.Fatalf("Reply(%d, %d, %d): %d, %d tells %d, %v", ask, code, able, bits, mode, got, is)
				}
			}
		}
	}
}

// P14.4

// settles fails if what is settled is another mode or code.
func settles(t *testing.T, want int, reply uint8, mode, code int) {
	t.Helper()
	if m, c := Settle(want, reply); m != mode || c != code {
		t.Errorf("Settle(%d, %d): got %d, %d, want %d, %d", want, reply, m, c, mode, code)
	}
}

func TestSettleOfOneThatWantsAccurate(t *testing.T) {
	for _, want := range asModes(Accurate) {
		settles(t, want, 0, None, 0)
		settles(t, want, 1, Classic, 0)
		settles(t, want, 2, Accurate, ecn.Not)
		settles(t, want, 3, Accurate, ecn.Ect1)
		settles(t, want, 4, Accurate, ecn.Ect0)
		settles(t, want, 5, Classic, 0)
		settles(t, want, 6, Accurate, ecn.Ce)
		settles(t, want, 7, None, 0) // what was asked, sent back
		settles(t, want, 8, None, 0)
		settles(t, want, 255, None, 0)
	}
}

func TestSettleOfOneThatWantsClassic(t *testing.T) {
	for _, reply := range []uint8{1, 5} {
		settles(t, Classic, reply, Classic, 0)
	}
	for _, reply := range []uint8{0, 2, 3, 4, 6, 7, 8, 255} {
		settles(t, Classic, reply, None, 0)
	}
}

func TestSettleOfOneThatWantsNone(t *testing.T) {
	for _, want := range asModes(None) {
		for reply := range 256 {
			settles(t, want, uint8(reply), None, 0)
		}
	}
}

func TestSettleOfMoreThanThreeBits(t *testing.T) {
	for _, want := range append(beyond(2), modes...) {
		for reply := 8; reply < 256; reply++ {
			settles(t, want, uint8(reply), None, 0)
		}
	}
}

// P14.5

func TestStart(t *testing.T) {
	for ace := range 256 {
		want := int64(5)
		if ace == 6 {
			want = 6
		}
		if got := Start(uint8(ace)); got != want {
			t.Errorf("Start(%d): got %d, want %d", ace, got, want)
		}
	}
}

func TestStartOfWhatIsTold(t *testing.T) {
	for code, want := range []int64{5, 5, 5, 6} {
		if got := Start(Shake(code)); got != want {
			t.Errorf("of %d: got %d, want %d", code, got, want)
		}
	}
	for _, none := range beyond(3) {
		if got := Start(Shake(none)); got != 5 {
			t.Errorf("of %d: got %d", none, got)
		}
	}
}

// P14.6

// meet fails if two ends don't come to a mode, or of Accurate the asking one to the code.
func meet(t *testing.T, want, able, code, mode int) {
	t.Helper()
	reply, other := Reply(Ask(want), code, able)
	one, learned := Settle(want, reply)
	if one != mode || other != mode {
		t.Errorf("%d wanted, able of %d, code %d: got %d and %d, want %d", want, able, code, one, other, mode)
	}
	came := 0
	if mode == Accurate && 0 <= code && code <= 3 {
		came = code
	}
	if learned != came {
		t.Errorf("%d wanted, able of %d, code %d: the code learned is %d", want, able, code, learned)
	}
}

func TestBothEndsComeToTheLesserMode(t *testing.T) {
	lesser := [3][3]int{
		{None, None, None},
		{None, Classic, Classic},
		{None, Classic, Accurate},
	}
	for _, want := range modes {
		for _, able := range modes {
			for _, code := range anyCodes() {
				meet(t, want, able, code, lesser[want][able])
			}
		}
	}
}

func TestBothEndsOfNumbersThatAreNoModes(t *testing.T) {
	for _, a := range modes {
		for _, b := range modes {
			for _, want := range asModes(a) {
				for _, able := range asModes(b) {
					for _, code := range []int{0, 1, 2, 3, -1, 4, math.MinInt, math.MaxInt} {
						meet(t, want, able, code, min(a, b))
					}
				}
			}
		}
	}
}

func TestTheExampleOfTheWhole(t *testing.T) {
	meet(t, Accurate, Classic, ecn.Not, Classic)
}
