package code

import (
	"bytes"
	"math"
	"math/big"
	"math/rand"
	"strings"
	"testing"

	"leat/api"
)

const (
	greatest = math.MaxUint64
	maxInt   = math.MaxInt64
	minInt   = math.MinInt64
)

// numbers are those around the powers of 2, both ends among them, and some that a fixed seed gives.
func numbers() []uint64 {
	l := []uint64{0, 1, 127, 128, 300, 1 << 63, greatest}
	for i := range 64 {
		l = append(l, 1<<i-1, 1<<i, 1<<i+1)
	}
	dice := rand.New(rand.NewSource(7))
	for range 200 {
		l = append(l, dice.Uint64()>>dice.Intn(64))
	}
	return l
}

// ints are signed numbers likewise.
func ints() []int64 {
	l := []int64{0, -1, 1, 63, 64, -64, -65, minInt, minInt + 1, maxInt - 1, maxInt}
	for _, x := range numbers() {
		l = append(l, int64(x), -int64(x))
	}
	return l
}

// texts are of lengths around the edges of their own bytes, and of bytes that are no UTF-8.
func texts() []string {
	l := []string{"", "a", "abc", "\x00", "\x80", "\xff\xfe\xc0", "a\xe4\xb8b", "ünïcode", "\r\n"}
	for _, n := range []int{126, 127, 128, 129, 16383, 16384, 16385} {
		l = append(l, strings.Repeat("x", n), strings.Repeat("\xff", n))
	}
	return l
}

// plain is a number's bytes, by division of numbers without bounds.
func plain(x *big.Int) []byte {
	x, group := new(big.Int).Set(x), new(big.Int)
	var b []byte
	for {
		x.DivMod(x, big.NewInt(128), group)
		if x.Sign() == 0 {
			return append(b, byte(group.Int64()))
		}
		b = append(b, byte(group.Int64()+128))
	}
}

func plainNumber(x uint64) []byte { return plain(new(big.Int).SetUint64(x)) }

// plainInt is a signed number's bytes: of twice it, of one below 0 of twice its size less 1.
func plainInt(x int64) []byte {
	twice := new(big.Int).Mul(big.NewInt(x), big.NewInt(2))
	if twice.Sign() < 0 {
		twice.Neg(twice).Sub(twice, big.NewInt(1))
	}
	return plain(twice)
}

func plainText(s string) []byte { return append(plainNumber(uint64(len(s))), s...) }

// row is so many times 128, and then the last byte.
func row(many int, last ...byte) []byte {
	return append(bytes.Repeat([]byte{128}, many), last...)
}

// full is nine times 255, and then the last bytes.
func full(last ...byte) []byte {
	return append(bytes.Repeat([]byte{255}, 9), last...)
}

// stands fails unless the reader is there, with so many bytes left and without an error.
func stands(t *testing.T, r *Reader, at, left int) {
	t.Helper()
	if r.At() != at || r.Left() != left || r.Err() != api.OK {
		t.Fatalf("got At %d, Left %d, Err %d; want At %d, Left %d", r.At(), r.Left(), r.Err(), at, left)
	}
}

// failed fails unless the reader has this error, there, and nothing comes any more, whatever it is asked.
func failed(t *testing.T, r *Reader, want api.Errno, at int) {
	t.Helper()
	check := func(what string) {
		t.Helper()
		if r.Err() != want || r.At() != at || r.Left() != 0 {
			t.Fatalf("%s: got Err %d, At %d, Left %d; want Err %d, At %d, Left 0", what, r.Err(), r.At(), r.Left(), want, at)
		}
	}
	check("with the first error")
	for range 2 {
		if x := r.Take(); x != 0 {
			t.Fatalf("Take: %d", x)
		}
		check("Take")
		if x := r.Int(); x != 0 {
			t.Fatalf("Int: %d", x)
		}
		check("Int")
		for _, most := range []uint64{0, 1, greatest} {
			if x := r.Upto(most); x != 0 {
				t.Fatalf("Upto: %d", x)
			}
			check("Upto")
		}
		for _, most := range []int{math.MinInt, -1, 0, 1, math.MaxInt} {
			if s := r.Text(most); s != "" {
				t.Fatalf("Text: %q", s)
			}
			check("Text")
		}
	}
}

// fronts are what may stand ahead of what is put: nil, empty, and some bytes, each without and with spare room.
func fronts() [][]byte {
	return [][]byte{nil, {}, make([]byte, 0, 64), {7}, append(make([]byte, 0, 64), 1, 2, 200), row(40)}
}

// puts fails unless put tells each front, and behind it the wanted bytes, in a list of its own, and leaves the front and its spare room as they were.
func puts(t *testing.T, what any, want []byte, put func(b []byte) []byte) {
	t.Helper()
	for _, b := range fronts() {
		room := b[:cap(b)]
		for i := len(b); i < len(room); i++ {
			room[i] = 0xA5
		}
		was := bytes.Clone(room)
		got, again := put(b), put(b)
		if !bytes.Equal(got, append(was[:len(b):len(b)], want...)) || !bytes.Equal(got, again) {
			t.Fatalf("%v behind % x: got % x, want % x", what, b, got, want)
		}
		told := bytes.Clone(got)
		if !bytes.Equal(room, was) {
			t.Fatalf("%v behind % x: the front or its spare room changed", what, b)
		}
		for i := range room {
			room[i] ^= 0xFF
		}
		for i := range again {
			again[i] ^= 0xFF
		}
		if !bytes.Equal(got, told) {
			t.Fatalf("%v behind % x: what was told changed", what, b)
		}
		for i := range got {
			got[i] = 0x5A
		}
		for i := range room {
			if room[i] != was[i]^0xFF {
				t.Fatalf("%v behind % x: shares room with what was told", what, b)
			}
		}
	}
}

// P7.1

func TestBytesOfNumbers(t *testing.T) {
	for _, c := range []struct {
		x uint64
		b []byte
	}{
		{0, []byte{0}}, {1, []byte{1}}, {127, []byte{127}}, {128, []byte{0x80, 1}}, {255, []byte{0xFF, 1}}, {300, []byte{0xAC, 2}},
		{16383, []byte{0xFF, 0x7F}}, {16384, []byte{0x80, 0x80, 1}}, {1<<63 - 1, append(full()[:8], 0x7F)}, {1 << 63, row(9, 1)}, {greatest, full(1)},
	} {
		puts(t, c.x, c.b, func(b []byte) []byte { return Put(b, c.x) })
	}
	for _, x := range numbers() {
		puts(t, x, plainNumber(x), func(b []byte) []byte { return Put(b, x) })
	}
}

func TestPutOfNoNumber(t *testing.T) {
	puts(t, "none", nil, func(b []byte) []byte { return Put(b) })
	if b := Put(nil); len(b) != 0 {
		t.Errorf("Put: % x", b)
	}
}

func TestPutOfSeveralNumbers(t *testing.T) {
	puts(t, "two", []byte{0xAC, 2, 0}, func(b []byte) []byte { return Put(b, 300, 0) })
	var want []byte
	all := numbers()
	for _, x := range all {
		want = append(want, plainNumber(x)...)
	}
	kept := append([]uint64(nil), all...)
	puts(t, "many", want, func(b []byte) []byte { return Put(b, all...) })
	for i := range all {
		if all[i] != kept[i] {
			t.Fatalf("the number at %d changed", i)
		}
	}
}

func TestBytesOfSignedNumbers(t *testing.T) {
	for _, c := range []struct {
		x int64
		b []byte
	}{
		{0, []byte{0}}, {-1, []byte{1}}, {1, []byte{2}}, {-2, []byte{3}}, {63, []byte{126}}, {-64, []byte{127}}, {64, []byte{0x80, 1}}, {-65, []byte{0x81, 1}},
		{minInt, full(1)}, {maxInt, append([]byte{0xFE}, full(1)[1:]...)},
	} {
		puts(t, c.x, c.b, func(b []byte) []byte { return PutInt(b, c.x) })
	}
	for _, x := range ints() {
		puts(t, x, plainInt(x), func(b []byte) []byte { return PutInt(b, x) })
	}
}

func TestBytesOfTexts(t *testing.T) {
	puts(t, "no byte", []byte{0}, func(b []byte) []byte { return PutText(b, "") })
	puts(t, "abc", []byte{3, 'a', 'b', 'c'}, func(b []byte) []byte { return PutText(b, "abc") })
	puts(t, "no UTF-8", []byte{2, 0xFF, 0x80}, func(b []byte) []byte { return PutText(b, "\xff\x80") })
	for _, s := range texts() {
		puts(t, len(s), plainText(s), func(b []byte) []byte { return PutText(b, s) })
	}
	if b := PutText(nil, strings.Repeat("y", 127)); len(b) != 128 || b[0] != 127 {
		t.Errorf("of 127 bytes: %d, % x", len(b), b[:2])
	}
	if b := PutText(nil, strings.Repeat("y", 128)); len(b) != 130 || b[0] != 128 || b[1] != 1 {
		t.Errorf("of 128 bytes: %d, % x", len(b), b[:2])
	}
}

func TestOneFrontBehindWhichDifferentThingsArePut(t *testing.T) {
	front := append(make([]byte, 0, 32), 9)
	a, b, c := Put(front, 1), PutInt(front, 1), PutText(front, "z")
	if !bytes.Equal(a, []byte{9, 1}) || !bytes.Equal(b, []byte{9, 2}) || !bytes.Equal(c, []byte{9, 1, 'z'}) {
		t.Errorf("% x, % x, % x", a, b, c)
	}
}

// P7.2

func TestTakeOneByOne(t *testing.T) {
	b := []byte{0xAC, 2, 0, 127, 0x80, 1}
	r := New(b)
	stands(t, r, 0, 6)
	for i, c := range []struct {
		x        uint64
		at, left int
	}{{300, 2, 4}, {0, 3, 3}, {127, 4, 2}, {128, 6, 0}} {
		if x := r.Take(); x != c.x {
			t.Fatalf("%d: got %d, want %d", i, x, c.x)
		}
		stands(t, r, c.at, c.left)
	}
	if x := r.Take(); x != 0 {
		t.Fatalf("Take behind the last one: %d", x)
	}
	failed(t, r, api.ErrShort, 6)
}

func TestEachNumberIsTaken(t *testing.T) {
	for _, x := range numbers() {
		b := append(plainNumber(x), 0x80) // what comes behind it is not looked at
		size := len(b) - 1
		r := New(b)
		if got := r.Take(); got != x {
			t.Fatalf("Take: got %d, want %d", got, x)
		}
		stands(t, r, size, 1)
		r = New(b)
		if got := r.Upto(x); got != x {
			t.Fatalf("Upto of just it: got %d, want %d", got, x)
		}
		stands(t, r, size, 1)
		r = New(b)
		if got := r.Upto(greatest); got != x {
			t.Fatalf("Upto of the greatest: got %d, want %d", got, x)
		}
		stands(t, r, size, 1)
		if x > 0 {
			r = New(b)
			if got := r.Upto(x - 1); got != 0 {
				t.Fatalf("Upto of one less than %d: %d", x, got)
			}
			failed(t, r, api.ErrRange, 0)
		}
	}
}

func TestEachSignedNumberIsTaken(t *testing.T) {
	for _, x := range ints() {
		b := append(plainInt(x), 0x80)
		r := New(b)
		if got := r.Int(); got != x {
			t.Fatalf("Int: got %d, want %d", got, x)
		}
		stands(t, r, len(b)-1, 1)
	}
}

func TestEachTextIsTaken(t *testing.T) {
	for _, s := range texts() {
		b := append(plainText(s), 'z')
		for _, most := range []int{len(s), len(s) + 1, math.MaxInt} {
			r := New(b)
			if got := r.Text(most); got != s {
				t.Fatalf("Text of %d bytes, at most %d: got %d bytes", len(s), most, len(got))
			}
			stands(t, r, len(b)-1, 1)
		}
		for _, most := range []int{len(s) - 1, 0, -1, math.MinInt} {
			if max(most, 0) >= len(s) {
				continue
			}
			r := New(b)
			if got := r.Text(most); got != "" {
				t.Fatalf("Text of %d bytes, at most %d: got %d bytes", len(s), most, len(got))
			}
			failed(t, r, api.ErrRange, 0)
		}
	}
}

func TestATextOfNoByteIsAtMostNothing(t *testing.T) {
	for _, most := range []int{math.MinInt, -1, 0, 1} {
		r := New([]byte{0, 5})
		if s := r.Text(most); s != "" {
			t.Fatalf("Text: %q", s)
		}
		stands(t, r, 1, 1)
	}
}

func TestUptoOfNothing(t *testing.T) {
	r := New([]byte{0, 1})
	if x := r.Upto(0); x != 0 {
		t.Fatalf("Upto: %d", x)
	}
	stands(t, r, 1, 1)
	if x := r.Upto(0); x != 0 {
		t.Fatalf("Upto: %d", x)
	}
	failed(t, r, api.ErrRange, 1)
}

// wrong is bytes of which no number is read, and the error.
type wrong struct {
	b   []byte
	err api.Errno
}

// wrongNumbers are such bytes. Behind those that are of a wrong form others may come.
func wrongNumbers() map[string]wrong {
	return map[string]wrong{
		"no byte":                                   {nil, api.ErrShort},
		"an end within two bytes":                   {[]byte{0xAC}, api.ErrShort},
		"an end within three bytes":                 {[]byte{0xFF, 0x80}, api.ErrShort},
		"an end within ten bytes":                   {full(), api.ErrShort},
		"an end behind ten bytes":                   {row(10), api.ErrShort},
		"an end behind many bytes":                  {full(row(1000)...), api.ErrShort},
		"0 of two bytes":                            {row(1, 0), api.ErrForm},
		"0 of three bytes":                          {row(2, 0), api.ErrForm},
		"0 of ten bytes":                            {row(9, 0), api.ErrForm},
		"0 of eleven bytes":                         {row(10, 0), api.ErrForm},
		"1 of two bytes":                            {[]byte{0x81, 0}, api.ErrForm},
		"127 of two bytes":                          {[]byte{0xFF, 0}, api.ErrForm},
		"2^63 less 1 of ten bytes":                  {full(0), api.ErrForm},
		"the greatest of eleven bytes":              {full(0x81, 0), api.ErrForm},
		"one above the greatest":                    {row(9, 2), api.ErrForm},
		"above the greatest, all bits of it set":    {full(2), api.ErrForm},
		"as great as ten bytes can be":              {full(127), api.ErrForm},
		"of eleven bytes":                           {row(10, 1), api.ErrForm},
		"of eleven bytes, the tenth one 1 and more": {full(0x81, 1), api.ErrForm},
		"of twelve bytes":                           {full(0xFF, 0xFF, 127), api.ErrForm},
		"of a thousand bytes":                       {row(999, 1), api.ErrForm},
	}
}

func TestWrongNumbers(t *testing.T) {
	reads := map[string]func(r *Reader) bool{
		"Take": func(r *Reader) bool { return r.Take() == 0 },
		"Int":  func(r *Reader) bool { return r.Int() == 0 },
		"Upto": func(r *Reader) bool { return r.Upto(greatest) == 0 },
		"Text": func(r *Reader) bool { return r.Text(math.MaxInt) == "" },
		// Both of these errors come ahead of ErrRange.
		"Upto of nothing": func(r *Reader) bool { return r.Upto(0) == 0 },
		"Text of nothing": func(r *Reader) bool { return r.Text(-1) == "" },
	}
	for name, c := range wrongNumbers() {
		for way, read := range reads {
			for _, behind := range []string{"", "\x01", "\x05abcdefg"} {
				if c.err == api.ErrShort && behind != "" {
					continue
				}
				b := append(append([]byte{0xAC, 2, 1, 'a'}, c.b...), behind...)
				r := New(b)
				if r.Take() != 300 || r.Text(1) != "a" {
					t.Fatalf("%s: what stands ahead", name)
				}
				stands(t, r, 4, len(b)-4)
				if !read(r) {
					t.Fatalf("%s of %s: more than nothing is told", way, name)
				}
				failed(t, r, c.err, 4)
			}
		}
	}
}

func TestWrongTexts(t *testing.T) {
	for _, c := range []struct {
		name string
		b    []byte
		most int
		err  api.Errno
	}{
		{"its bytes end", []byte{5, 'a'}, 8, api.ErrShort},
		{"its bytes end at once", []byte{1}, 1, api.ErrShort},
		{"one byte is missing", append([]byte{128, 1}, make([]byte, 127)...), 128, api.ErrShort},
		{"its length's bytes would fill it", []byte{2, 'a'}, 2, api.ErrShort},
		{"as long as an int can tell, and not there", append(full()[:8:8], 127, 'a'), math.MaxInt, api.ErrShort},
		{"longer than an int can tell", row(9, 1, 'a'), math.MaxInt, api.ErrRange},
		{"of the greatest length", full(1, 'a'), math.MaxInt, api.ErrRange},
		{"one byte too long", []byte{2, 'a', 'b'}, 1, api.ErrRange},
		{"too long, and not there", []byte{9}, 8, api.ErrRange},
		{"of one byte, at most none", []byte{1, 'a'}, 0, api.ErrRange},
		{"of one byte, at most less than none", []byte{1, 'a'}, -1, api.ErrRange},
		{"of one byte, at most the least", []byte{1, 'a'}, math.MinInt, api.ErrRange},
		{"of the greatest length, at most less than none", full(1, 'a'), -1, api.ErrRange},
	} {
		for _, ahead := range []int{0, 1, 6} {
			r := New(append(make([]byte, ahead), c.b...))
			for range ahead {
				r.Take()
			}
			stands(t, r, ahead, len(c.b))
			if s := r.Text(c.most); s != "" {
				t.Fatalf("%s: got %q", c.name, s)
			}
			failed(t, r, c.err, ahead)
		}
	}
}

func TestNoErrorButTheFirstOneStays(t *testing.T) {
	r := New([]byte{9, 0x80, 0, 7})
	r.Upto(8)
	failed(t, r, api.ErrRange, 0)
	r = New([]byte{0x80, 0, 9, 7})
	r.Take()
	failed(t, r, api.ErrForm, 0)
	r = New([]byte{7, 5, 'a', 3})
	r.Take()
	r.Text(9)
	failed(t, r, api.ErrShort, 1)
}

// P7.3

func TestAtAndLeftAskNothing(t *testing.T) {
	r := New([]byte{1, 2, 3})
	for range 3 {
		stands(t, r, 0, 3)
	}
	r.Take()
	for range 3 {
		stands(t, r, 1, 2)
	}
	if x := r.Take(); x != 2 {
		t.Errorf("Take: %d", x)
	}
}

func TestTheExamplesOfTheChapter(t *testing.T) {
	if b := Put(nil, 300); !bytes.Equal(b, []byte{0xAC, 0x02}) {
		t.Errorf("Put of 300: % x", b)
	}
	r := New([]byte{0xAC})
	r.Take()
	failed(t, r, api.ErrShort, 0)
	r = New([]byte{0x80, 0x00})
	r.Take()
	failed(t, r, api.ErrForm, 0)
}

func TestNoBytes(t *testing.T) {
	for _, r := range []*Reader{New(nil), New([]byte{}), New(make([]byte, 0, 9)), {}} {
		stands(t, r, 0, 0)
		r.Int()
		failed(t, r, api.ErrShort, 0)
	}
}

// TestAnyBytes reads any short bytes by any calls, beside a plain model of them.
func TestAnyBytes(t *testing.T) {
	dice := rand.New(rand.NewSource(17))
	some := []byte{0, 1, 2, 3, 127, 128, 129, 255}
	for range 20000 {
		b := make([]byte, dice.Intn(14))
		for i := range b {
			b[i] = some[dice.Intn(len(some))]
		}
		r, at := New(b), 0
		for range 6 {
			most := uint64(some[dice.Intn(len(some))])
			text := dice.Intn(2) == 1
			x, s, size, err := plainRead(b[at:], most, text)
			if text {
				if got := r.Text(int(most)); got != s {
					t.Fatalf("Text of % x at %d, at most %d: got %q, want %q", b, at, most, got, s)
				}
			} else if got := r.Upto(most); got != x {
				t.Fatalf("Upto of % x at %d, at most %d: got %d, want %d", b, at, most, got, x)
			}
			if err != api.OK {
				failed(t, r, err, at)
				break
			}
			at += size
			stands(t, r, at, len(b)-at)
		}
	}
}

// plainRead is what is read of b, a number or a text, by numbers without bounds: the number, or the text; of how many bytes it is; the error.
func plainRead(b []byte, most uint64, text bool) (uint64, string, int, api.Errno) {
	x, size := new(big.Int), 0
	for {
		if size == len(b) {
			return 0, "", 0, api.ErrShort
		}
		group := big.NewInt(int64(b[size] & 127))
		x.Add(x, group.Lsh(group, uint(7*size)))
		size++
		if b[size-1] < 128 {
			break
		}
	}
	switch {
	case !x.IsUint64() || !bytes.Equal(plain(x), b[:size]):
		return 0, "", 0, api.ErrForm
	case x.Uint64() > most:
		return 0, "", 0, api.ErrRange
	case !text:
		return x.Uint64(), "", size, api.OK
	case x.Uint64() > uint64(len(b)-size):
		return 0, "", 0, api.ErrShort
	}
	end := size + int(x.Uint64())
	return 0, string(b[size:end]), end, api.OK
}

func TestAReaderKeepsItsBytes(t *testing.T) {
	b := PutText(Put(nil, 300), "abc")
	r := New(b)
	for i := range b {
		b[i] = 0xFF
	}
	if x := r.Take(); x != 300 {
		t.Errorf("Take: %d", x)
	}
	s := r.Text(3)
	if s != "abc" {
		t.Errorf("Text: %q", s)
	}
	stands(t, r, 6, 0)
	b = PutText(Put(nil, 300), "abc")
	was := bytes.Clone(b)
	r = New(b)
	r.Take()
	r.Text(1)
	failed(t, r, api.ErrRange, 2)
	if !bytes.Equal(b, was) {
		t.Errorf("the bytes changed: % x", b)
	}
}

func TestSpareRoomIsNotRead(t *testing.T) {
	b := []byte{3, 'a', 'b', 'c'}
	r := New(b[:2])
	r.Text(3)
	failed(t, r, api.ErrShort, 0)
	r = New([]byte{0x80, 1}[:1])
	r.Take()
	failed(t, r, api.ErrShort, 0)
}

func TestReadersAreApart(t *testing.T) {
	b := Put(nil, 1, 2)
	r, o := New(b), New(b)
	r.Take()
	o.Upto(0)
	failed(t, o, api.ErrRange, 0)
	stands(t, r, 1, 1)
	if x := r.Take(); x != 2 {
		t.Errorf("Take: %d", x)
	}
}

func TestNil(t *testing.T) {
	failed(t, nil, api.ErrArg, 0) // every function of it
}

// P7.4

// piece is something that is put and taken.
type piece struct {
	kind int
	x    uint64
	s    string
}

func (p piece) put(b []byte) []byte {
	switch p.kind {
	case 0, 1:
		return Put(b, p.x)
	case 2:
		return PutInt(b, int64(p.x))
	}
	return PutText(b, p.s)
}

func (p piece) taken(r *Reader) bool {
	switch p.kind {
	case 0:
		return r.Take() == p.x
	case 1:
		return r.Upto(p.x) == p.x
	case 2:
		return r.Int() == int64(p.x)
	}
	return r.Text(len(p.s)) == p.s
}

func TestWhatWasPutIsTakenAsItWas(t *testing.T) {
	var pieces []piece
	for _, x := range numbers() {
		pieces = append(pieces, piece{kind: 0, x: x}, piece{kind: 1, x: x})
	}
	for _, x := range ints() {
		pieces = append(pieces, piece{kind: 2, x: uint64(x)})
	}
	for _, s := range texts() {
		pieces = append(pieces, piece{kind: 3, s: s})
	}
	dice := rand.New(rand.NewSource(27))
	for range 20 {
		dice.Shuffle(len(pieces), func(i, j int) { pieces[i], pieces[j] = pieces[j], pieces[i] })
		var b []byte
		ends := make([]int, len(pieces))
		for i, p := range pieces {
			b = p.put(b)
			ends[i] = len(b)
		}
		r := New(b)
		for i, p := range pieces {
			if !p.taken(r) {
				t.Fatalf("the piece at %d, %v: not taken as it was: Err %d", i, p, r.Err())
			}
			stands(t, r, ends[i], len(b)-ends[i])
		}
	}
}

func TestAllNumbersPutAtOnceAreTaken(t *testing.T) {
	all := numbers()
	r := New(Put(nil, all...))
	for _, x := range all {
		if got := r.Take(); got != x {
			t.Fatalf("got %d, want %d", got, x)
		}
	}
	stands(t, r, len(Put(nil, all...)), 0)
}

func TestWhatIsTakenIsPutAsItWas(t *testing.T) {
	for a := range 256 {
		for b := range 256 {
			l := []byte{byte(a), byte(b)}
			r := New(l)
			x := r.Take()
			if r.Err() == api.OK && !bytes.Equal(Put(nil, x), l[:r.At()]) {
				t.Fatalf("% x: %d, which is put otherwise", l, x)
			}
		}
	}
}

func FuzzReader(f *testing.F) {
	f.Add([]byte{0xAC, 2}, uint64(300), false)
	f.Add([]byte{3, 'a', 'b', 'c'}, uint64(3), true)
	f.Add(full(2), uint64(greatest), false)
	f.Fuzz(func(t *testing.T, b []byte, most uint64, text bool) {
		if text {
			most = min(most, math.MaxInt)
		}
		x, s, size, err := plainRead(b, most, text)
		r := New(b)
		if text {
			if got := r.Text(int(most)); got != s {
				t.Fatalf("Text: got %q, want %q", got, s)
			}
		} else if got := r.Upto(most); got != x {
			t.Fatalf("Upto: got %d, want %d", got, x)
		}
		if err != api.OK {
			failed(t, r, err, 0)
			return
		}
		stands(t, r, size, len(b)-size)
	})
}
