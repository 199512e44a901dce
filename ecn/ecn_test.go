package ecn

import (
	"math"
	"math/rand"
	"slices"
	"strings"
	"testing"
)

// codes are all there are.
var codes = []int{0, 1, 2, 3}

// nones are numbers that are no codes: those beside them, those whose lowest bits or byte are one's, and both ends.
func nones() []int {
	l := []int{math.MinInt, math.MinInt + 1, math.MaxInt - 1, math.MaxInt, -1, -2, -3, -4, 4, 5, 6, 7, 8}
	for i := 3; i < 63; i++ {
		for c := range 4 {
			l = append(l, 1<<i+c, -1<<i+c)
		}
	}
	r := rand.New(rand.NewSource(9))
	for range 50 {
		if n := int(r.Uint64()); n < 0 || n > 3 {
			l = append(l, n)
		}
	}
	slices.Sort(l)
	return slices.Compact(l)
}

// numbers are all codes and many that are none.
func numbers() []int {
	return append(nones(), codes...)
}

func TestTheCodes(t *testing.T) {
	if Not != 0 || Ect1 != 1 || Ect0 != 2 || Ce != 3 {
		t.Errorf("%d %d %d %d", Not, Ect1, Ect0, Ce)
	}
}

// P9.1

func TestOfEveryByte(t *testing.T) {
	for b := range 256 {
		if got := Of(byte(b)); got != b%4 {
			t.Errorf("Of(%#x): got %d, want %d", b, got, b%4)
		}
	}
}

func TestPutEveryCodeIntoEveryByte(t *testing.T) {
	for b := range 256 {
		for _, code := range codes {
			want := byte(b/4*4 + code)
			if got := Put(byte(b), code); got != want {
				t.Errorf("Put(%#x, %d): got %#x, want %#x", b, code, got, want)
			}
			if got := Of(Put(byte(b), code)); got != code {
				t.Errorf("Of(Put(%#x, %d)): got %d", b, code, got)
			}
		}
		if got := Put(byte(b), Of(byte(b))); got != byte(b) {
			t.Errorf("%#x with its own code: %#x", b, got)
		}
	}
}

func TestPutOfNoCodeLeavesEveryByte(t *testing.T) {
	for b := range 256 {
		for _, none := range nones() {
			if got := Put(byte(b), none); got != byte(b) {
				t.Fatalf("Put(%#x, %d): got %#x", b, none, got)
			}
		}
	}
}

func TestTheExamplesOfTheChapter(t *testing.T) {
	if got := Put(0xFE, Ce); got != 0xFF {
		t.Errorf("Put: %#x", got)
	}
	if code, is := Mark(Not); code != Not || is {
		t.Errorf("Mark: %d, %v", code, is)
	}
}

// P9.2

func TestEachCode(t *testing.T) {
	for _, c := range []struct {
		code, marked int
		able, low    bool
	}{
		{Not, Not, false, false},
		{Ect1, Ce, true, true},
		{Ect0, Ce, true, false},
		{Ce, Ce, true, true},
	} {
		if code, is := Mark(c.code); code != c.marked || is != c.able {
			t.Errorf("Mark(%d): got %d, %v", c.code, code, is)
		}
		if got := Able(c.code); got != c.able {
			t.Errorf("Able(%d): got %v", c.code, got)
		}
		if got := Low(c.code); got != c.low {
			t.Errorf("Low(%d): got %v", c.code, got)
		}
	}
}

func TestNumbersThatAreNoCodes(t *testing.T) {
	for _, none := range nones() {
		if code, is := Mark(none); code != none || is {
			t.Errorf("Mark(%d): got %d, %v", none, code, is)
		}
		if Able(none) {
			t.Errorf("Able(%d)", none)
		}
		if Low(none) {
			t.Errorf("Low(%d)", none)
		}
	}
}

func TestLegalOfEveryTwoCodes(t *testing.T) {
	want := [4][4]bool{
		Not:  {Not: true},
		Ect1: {Ect1: true, Ce: true},
		Ect0: {Ect0: true, Ce: true},
		Ce:   {Ce: true},
	}
	for _, from := range codes {
		for _, to := range codes {
			if got := Legal(from, to); got != want[from][to] {
				t.Errorf("Legal(%d, %d): got %v", from, to, got)
			}
		}
	}
}

func TestLegalWhereEitherIsNoCode(t *testing.T) {
	for _, none := range nones() {
		for _, n := range numbers() {
			if Legal(none, n) {
				t.Fatalf("Legal(%d, %d)", none, n)
			}
			if Legal(n, none) {
				t.Fatalf("Legal(%d, %d)", n, none)
			}
		}
		if Legal(none, none) {
			t.Errorf("Legal(%d, %d)", none, none)
		}
	}
}

// P9.3

func TestNameAndParseOfEachCode(t *testing.T) {
	for code, name := range []string{"not", "ect1", "ect0", "ce"} {
		if got := Name(code); got != name {
			t.Errorf("Name(%d): got %q, want %q", code, got, name)
		}
		if got, is := Parse(name); got != code || !is {
			t.Errorf("Parse(%q): got %d, %v", name, got, is)
		}
	}
}

func TestNameOfNoCode(t *testing.T) {
	for _, none := range nones() {
		if got := Name(none); got != "" {
			t.Errorf("Name(%d): got %q", none, got)
		}
	}
}

// noName fails if a text is one.
func noName(t *testing.T, s string) {
	t.Helper()
	if code, is := Parse(s); code != 0 || is {
		t.Errorf("Parse(%q): got %d, %v", s, code, is)
	}
}

func TestParseOfNoName(t *testing.T) {
	for _, s := range []string{"", " ", "?", "-", "0", "1", "2", "3", "-1", "ect", "ect2", "ect3", "ect10", "ect01", "not1", "mot", "net", "cr", "cee", "ec", "ecn", "none", "not-ect", "ect(0)", "ect1-ce", "ece", "et1", "tno", "\x00", "\xff", "c\u00E9", "\uFF43\uFF45", "n\u043Et"} {
		noName(t, s)
	}
}

func TestParseOfWhatIsNearlyAName(t *testing.T) {
	for _, code := range codes {
		name := Name(code)
		noName(t, strings.ToUpper(name))
		noName(t, strings.ToUpper(name[:1])+name[1:])
		for i := range name {
			noName(t, name[:i])
			if i > 0 {
				noName(t, name[i:])
			}
			noName(t, name[:i]+"x"+name[i+1:])
			noName(t, name[:i]+" "+name[i:])
			if up := strings.ToUpper(name[i : i+1]); up != name[i:i+1] {
				noName(t, name[:i]+up+name[i+1:])
			}
		}
		for _, more := range []string{" ", "\n", "\t", "\x00", "x", "-", "?", "0", name} {
			noName(t, more+name)
			noName(t, name+more)
		}
	}
}

func TestParseOfEveryShortText(t *testing.T) {
	const letters = "notec01 NT"
	texts := []string{""}
	for range 4 {
		var longer []string
		for _, s := range texts {
			for i := range letters {
				longer = append(longer, s+letters[i:i+1])
			}
		}
		found := 0
		for _, s := range longer {
			code, is := Parse(s)
			if is {
				found++
			}
			if is != (s != "" && s == Name(code)) || !is && code != 0 {
				t.Fatalf("Parse(%q): got %d, %v", s, code, is)
			}
		}
		if want := [5]int{2: 1, 3: 1, 4: 2}[len(longer[0])]; found != want {
			t.Errorf("names of %d letters: %d", len(longer[0]), found)
		}
		texts = longer
	}
}

// P9.4

func TestAMarkedOneStaysMarked(t *testing.T) {
	if code, is := Mark(Ce); code != Ce || !is {
		t.Errorf("Mark(Ce): got %d, %v", code, is)
	}
	for _, n := range numbers() {
		if Legal(Ce, n) != (n == Ce) {
			t.Errorf("Legal(Ce, %d): got %v", n, Legal(Ce, n))
		}
	}
	for _, code := range Path(Ce, []bool{false, true, true, false, false}) {
		if code != Ce {
			t.Errorf("behind a place: %d", code)
		}
	}
}

func TestWhatIsNotAbleIsNeverMarked(t *testing.T) {
	for _, n := range numbers() {
		code, is := Mark(n)
		if is != Able(n) {
			t.Errorf("Mark(%d) tells %v, Able %v", n, is, Able(n))
		}
		if Able(n) {
			continue
		}
		if code != n || Legal(n, Ce) {
			t.Errorf("%d: marked it is %d, legally so: %v", n, code, Legal(n, Ce))
		}
		if got := Path(n, []bool{true, true}); !slices.Equal(got, []int{n, n}) {
			t.Errorf("Path of %d: %v", n, got)
		}
	}
}

func TestMarkingTwiceIsMarkingOnce(t *testing.T) {
	for _, n := range numbers() {
		once, is := Mark(n)
		twice, again := Mark(once)
		if twice != once || again != is {
			t.Errorf("%d: once %d, %v; twice %d, %v", n, once, is, twice, again)
		}
	}
}

func TestMarkingIsLegal(t *testing.T) {
	for _, code := range codes {
		if marked, _ := Mark(code); !Legal(code, marked) {
			t.Errorf("%d becomes %d", code, marked)
		}
	}
}

// P9.5

func TestPathOfNoPlaces(t *testing.T) {
	for _, n := range numbers() {
		for _, marks := range [][]bool{nil, {}, places(2, 1)[:0]} {
			if got := Path(n, marks); len(got) != 0 {
				t.Errorf("Path(%d, %v): got %v", n, marks, got)
			}
		}
	}
}

func TestPathOfEachCode(t *testing.T) {
	for _, c := range []struct {
		code  int
		marks []bool
		want  []int
	}{
		{Not, []bool{true}, []int{Not}},
		{Not, []bool{false}, []int{Not}},
		{Not, []bool{true, true, true}, []int{Not, Not, Not}},
		{Not, []bool{false, true, false}, []int{Not, Not, Not}},
		{Ect1, []bool{true}, []int{Ce}},
		{Ect1, []bool{false}, []int{Ect1}},
		{Ect1, []bool{false, false, false}, []int{Ect1, Ect1, Ect1}},
		{Ect1, []bool{true, true}, []int{Ce, Ce}},
		{Ect1, []bool{false, true, false}, []int{Ect1, Ce, Ce}},
		{Ect1, []bool{false, false, true}, []int{Ect1, Ect1, Ce}},
		{Ect0, []bool{true}, []int{Ce}},
		{Ect0, []bool{false}, []int{Ect0}},
		{Ect0, []bool{false, false}, []int{Ect0, Ect0}},
		{Ect0, []bool{true, false, true, false}, []int{Ce, Ce, Ce, Ce}},
		{Ect0, []bool{false, true, true}, []int{Ect0, Ce, Ce}},
		{Ce, []bool{true}, []int{Ce}},
		{Ce, []bool{false}, []int{Ce}},
		{Ce, []bool{false, true, false}, []int{Ce, Ce, Ce}},
	} {
		if got := Path(c.code, c.marks); !slices.Equal(got, c.want) {
			t.Errorf("Path(%d, %v): got %v, want %v", c.code, c.marks, got, c.want)
		}
	}
}

func TestPathOfNoCodeStaysAsItWas(t *testing.T) {
	for _, none := range nones() {
		for _, marks := range [][]bool{{true}, {false}, {true, true}, {false, false}, {false, true, false}} {
			want := slices.Repeat([]int{none}, len(marks))
			if got := Path(none, marks); !slices.Equal(got, want) {
				t.Errorf("Path(%d, %v): got %v", none, marks, got)
			}
		}
	}
}

// places is a way of so many places, each bit of a number telling whether one is true.
func places(many, bits int) []bool {
	marks := make([]bool, many)
	for i := range marks {
		marks[i] = bits>>i&1 == 1
	}
	return marks
}

func TestPathOfEveryShortWay(t *testing.T) {
	for many := range 9 {
		for bits := range 1 << many {
			marks := places(many, bits)
			for _, n := range []int{Not, Ect1, Ect0, Ce, -1, 4, math.MinInt, math.MaxInt} {
				got := Path(n, marks)
				if len(got) != many {
					t.Fatalf("Path(%d, %v): got %v", n, marks, got)
				}
				for i, code := range got {
					want := n
					if n >= Ect1 && n <= Ce && slices.Contains(marks[:i+1], true) {
						want = Ce
					}
					if code != want {
						t.Fatalf("Path(%d, %v): got %v", n, marks, got)
					}
				}
			}
		}
	}
}

func TestPathOfALongWay(t *testing.T) {
	marks := make([]bool, 1<<17)
	marks[1<<16] = true
	for i, code := range Path(Ect0, marks) {
		if want := [2]int{Ect0, Ce}[i>>16]; code != want {
			t.Fatalf("behind place %d: got %d, want %d", i, code, want)
		}
	}
}

func TestPathLeavesWhatIsHandedIn(t *testing.T) {
	marks := []bool{false, true, false}
	got, again := Path(Ect1, marks), Path(Ect1, marks)
	if !slices.Equal(marks, []bool{false, true, false}) {
		t.Errorf("what was handed in: %v", marks)
	}
	marks[0] = true
	got[1] = Not
	if !slices.Equal(again, []int{Ect1, Ce, Ce}) || !slices.Equal(got, []int{Ect1, Not, Ce}) {
		t.Errorf("%v, %v", got, again)
	}
}

func TestNames(t *testing.T) {
	for _, c := range []struct {
		codes []int
		want  string
	}{
		{nil, ""},
		{[]int{}, ""},
		{[]int{1, 2}[:0], ""},
		{[]int{Not}, "not"},
		{[]int{Ect1}, "ect1"},
		{[]int{Ect0}, "ect0"},
		{[]int{Ce}, "ce"},
		{[]int{4}, "?"},
		{[]int{-1}, "?"},
		{[]int{Not, Ect1, Ect0, Ce}, "not-ect1-ect0-ce"},
		{[]int{Ce, Ect0, Ect1, Not}, "ce-ect0-ect1-not"},
		{[]int{Ce, Ce, Ce}, "ce-ce-ce"},
		{[]int{-1, 4}, "?-?"},
		{[]int{4, Ce}, "?-ce"},
		{[]int{Ce, 4}, "ce-?"},
		{[]int{Ect1, math.MinInt, Ce, math.MaxInt, 5, Not}, "ect1-?-ce-?-?-not"},
	} {
		if got := Names(c.codes); got != c.want {
			t.Errorf("Names(%v): got %q, want %q", c.codes, got, c.want)
		}
	}
}

func TestNamesOfEveryNoCode(t *testing.T) {
	for _, none := range nones() {
		if got := Names([]int{none}); got != "?" {
			t.Errorf("Names of %d: %q", none, got)
		}
		if got := Names([]int{Ect0, none, Ce}); got != "ect0-?-ce" {
			t.Errorf("Names around %d: %q", none, got)
		}
	}
}

func TestNamesOfManyCodes(t *testing.T) {
	r := rand.New(rand.NewSource(95))
	l := make([]int, 1<<16)
	for i := range l {
		l[i] = r.Intn(6) - 1
	}
	parts := strings.Split(Names(l), "-")
	if len(parts) != len(l) {
		t.Fatalf("%d names of %d", len(parts), len(l))
	}
	for i, part := range parts {
		if want := [6]string{"?", "not", "ect1", "ect0", "ce", "?"}[l[i]+1]; part != want {
			t.Fatalf("place %d: got %q, want %q", i, part, want)
		}
	}
}

func TestNamesLeavesWhatIsHandedIn(t *testing.T) {
	l := []int{Ce, 9, Not}
	got := Names(l)
	if !slices.Equal(l, []int{Ce, 9, Not}) {
		t.Errorf("what was handed in: %v", l)
	}
	l[0] = Ect0
	if got != "ce-?-not" {
		t.Errorf("%q", got)
	}
}
