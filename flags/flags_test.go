package flags

import (
	"bytes"
	"math/rand"
	"slices"
	"strings"
	"testing"
	"unicode/utf8"

	"leat/api"
)

// within tells whether a header is in range, as the chapter says it.
func within(h api.Header) bool {
	return 5 <= h.Off && h.Off <= 15 && h.Ace <= 7 && h.Flags <= 63
}

// model is the bytes of a header, number by number, reckoned as the chapter says it.
func model(h api.Header) []byte {
	var b []byte
	put := func(n uint64, many int) {
		low := make([]byte, many)
		for i := range low {
			low[many-1-i] = byte(n % 256)
			n /= 256
		}
		b = append(b, low...)
	}
	ace := int(h.Ace)
	put(uint64(h.Src), 2)
	put(uint64(h.Dst), 2)
	put(uint64(h.Seq), 4)
	put(uint64(h.Ack), 4)
	put(uint64(16*int(h.Off)+ace/4), 1)
	put(uint64(128*(ace/2%2)+64*(ace%2)+int(h.Flags)), 1)
	put(uint64(h.Win), 2)
	put(uint64(h.Sum), 2)
	put(uint64(h.Urg), 2)
	return b
}

// header is one by chance that is in range.
func header(r *rand.Rand) api.Header {
	return api.Header{
		Src: uint16(r.Uint32()), Dst: uint16(r.Uint32()),
		Seq: r.Uint32(), Ack: r.Uint32(),
		Off: uint8(5 + r.Intn(11)), Ace: uint8(r.Intn(8)), Flags: uint8(r.Intn(64)),
		Win: uint16(r.Uint32()), Sum: uint16(r.Uint32()), Urg: uint16(r.Uint32()),
	}
}

// plain is twenty bytes by chance, with byte 12 as told.
func plain(r *rand.Rand, twelfth byte) []byte {
	b := make([]byte, 20)
	for i := range b {
		b[i] = byte(r.Intn(256))
	}
	b[12] = twelfth
	return b
}

// small is a header with three numbers as told and all others 0.
func small(off, ace, flag uint8) api.Header {
	return api.Header{Off: off, Ace: ace, Flags: flag}
}

func TestTheFlags(t *testing.T) {
	if Fin != 1 || Syn != 2 || Rst != 4 || Psh != 8 || Ackd != 16 || Urgd != 32 {
		t.Error(Fin, Syn, Rst, Psh, Ackd, Urgd)
	}
}

// P11.1

func TestTheExampleOfTheChapter(t *testing.T) {
	b, e := Encode(small(5, 5, Syn))
	if e != api.OK || len(b) != 20 || b[12] != 0x51 || b[13] != 0x42 {
		t.Errorf("% X, %d", b, e)
	}
}

func TestEncodeOfPlainHeaders(t *testing.T) {
	const top2, top4 = 1<<16 - 1, 1<<32 - 1
	for _, c := range []struct {
		h    api.Header
		want []byte
	}{
		{
			api.Header{Src: 0x0102, Dst: 0x0304, Seq: 0x05060708, Ack: 0x090A0B0C, Off: 13, Ace: 4, Flags: 0x0E, Win: 0x0F10, Sum: 0x1112, Urg: 0x1314},
			[]byte{1, 2, 3, 4, 5, 6, 7, 8, 9, 10, 11, 12, 0xD1, 14, 15, 16, 17, 18, 19, 20},
		},
		{
			small(5, 0, 0), // all else is 0
			[]byte{0, 0, 0, 0, 0, 0, 0, 0, 0, 0, 0, 0, 0x50, 0, 0, 0, 0, 0, 0, 0},
		},
		{
			api.Header{Src: top2, Dst: top2, Seq: top4, Ack: top4, Off: 15, Ace: 7, Flags: 63, Win: top2, Sum: top2, Urg: top2},
			[]byte{255, 255, 255, 255, 255, 255, 255, 255, 255, 255, 255, 255, 0xF1, 255, 255, 255, 255, 255, 255, 255},
		},
		{
			api.Header{Src: 1, Dst: 1 << 15, Seq: 1, Ack: 1 << 31, Off: 8, Ace: 2, Flags: Urgd | Fin, Win: 1 << 8, Sum: 1 << 7, Urg: top2},
			[]byte{0, 1, 128, 0, 0, 0, 0, 1, 128, 0, 0, 0, 0x80, 0xA1, 1, 0, 0, 128, 255, 255},
		},
	} {
		if got, e := Encode(c.h); e != api.OK || !bytes.Equal(got, c.want) {
			t.Errorf("%+v: got % X, %d, want % X", c.h, got, e, c.want)
		}
	}
}

func TestEncodeAtTheEdges(t *testing.T) {
	for _, c := range []struct {
		off, ace, flag uint8
		want           api.Errno
	}{
		{4, 0, 0, api.ErrRange},
		{5, 0, 0, api.OK},
		{6, 0, 0, api.OK},
		{14, 0, 0, api.OK},
		{15, 0, 0, api.OK},
		{16, 0, 0, api.ErrRange},
		{0, 0, 0, api.ErrRange},
		{255, 0, 0, api.ErrRange},
		{5 + 16, 0, 0, api.ErrRange}, // its lowest four bits alone would do
		{5 + 128, 0, 0, api.ErrRange},
		{5, 7, 0, api.OK},
		{5, 8, 0, api.ErrRange},
		{5, 9, 0, api.ErrRange},
		{5, 128, 0, api.ErrRange},
		{5, 255, 0, api.ErrRange},
		{5, 0, 63, api.OK},
		{5, 0, 64, api.ErrRange},
		{5, 0, 65, api.ErrRange},
		{5, 0, 128, api.ErrRange},
		{5, 0, 255, api.ErrRange},
		{15, 7, 63, api.OK},
		{16, 8, 64, api.ErrRange},
		{4, 8, 0, api.ErrRange},
		{4, 0, 64, api.ErrRange},
		{9, 8, 64, api.ErrRange},
		{0, 255, 255, api.ErrRange},
		{255, 255, 255, api.ErrRange},
	} {
		h := small(c.off, c.ace, c.flag)
		got, e := Encode(h)
		if e != c.want {
			t.Errorf("%+v: got %d, want %d", h, e, c.want)
		}
		if e == api.OK && !bytes.Equal(got, model(h)) {
			t.Errorf("%+v: got % X", h, got)
		}
		if e != api.OK && len(got) != 0 {
			t.Errorf("%+v: beside an error % X", h, got)
		}
	}
}

func TestEncodeOfAllThatHaveNoWholeByte(t *testing.T) {
	for off := range 256 {
		for ace := range 256 {
			for _, flag := range []uint8{0, 1, 42, 63, 64, 127, 128, 255} {
				h := small(uint8(off), uint8(ace), flag)
				got, e := Encode(h)
				if within(h) != (e == api.OK) || !within(h) && (e != api.ErrRange || len(got) != 0) {
					t.Fatalf("%+v: got % X, %d", h, got, e)
				}
			}
		}
	}
	for flag := range 256 {
		h := small(5, 7, uint8(flag))
		if got, e := Encode(h); within(h) != (e == api.OK) || !within(h) && (e != api.ErrRange || len(got) != 0) {
			t.Errorf("%+v: got % X, %d", h, got, e)
		}
	}
}

func TestEncodeRefusesWhateverElseIsTold(t *testing.T) {
	r := rand.New(rand.NewSource(1))
	for range 500 {
		for _, spoil := range []func(h *api.Header){
			func(h *api.Header) { h.Off = uint8(r.Intn(5)) },
			func(h *api.Header) { h.Off = uint8(16 + r.Intn(240)) },
			func(h *api.Header) { h.Ace = uint8(8 + r.Intn(248)) },
			func(h *api.Header) { h.Flags = uint8(64 + r.Intn(192)) },
		} {
			h := header(r)
			spoil(&h)
			if got, e := Encode(h); e != api.ErrRange || len(got) != 0 {
				t.Fatalf("%+v: got % X, %d", h, got, e)
			}
		}
	}
}

func TestEncodeIsTheModel(t *testing.T) {
	r := rand.New(rand.NewSource(2))
	for range 5000 {
		h := header(r)
		if got, e := Encode(h); e != api.OK || !bytes.Equal(got, model(h)) {
			t.Fatalf("%+v: got % X, %d, want % X", h, got, e, model(h))
		}
	}
}

// TestEachBitHasItsPlace turns each bit of each number alone.
func TestEachBitHasItsPlace(t *testing.T) {
	base, _ := Encode(small(5, 0, 0))
	for _, c := range []struct {
		name    string
		at, top int // the place of the number's highest byte, and of its highest bit
		turn    func(h *api.Header, bit int)
	}{
		{"Src", 0, 15, func(h *api.Header, bit int) { h.Src ^= 1 << bit }},
		{"Dst", 2, 15, func(h *api.Header, bit int) { h.Dst ^= 1 << bit }},
		{"Seq", 4, 31, func(h *api.Header, bit int) { h.Seq ^= 1 << bit }},
		{"Ack", 8, 31, func(h *api.Header, bit int) { h.Ack ^= 1 << bit }},
		{"Flags", 13, 5, func(h *api.Header, bit int) { h.Flags ^= 1 << bit }},
		{"Win", 14, 15, func(h *api.Header, bit int) { h.Win ^= 1 << bit }},
		{"Sum", 16, 15, func(h *api.Header, bit int) { h.Sum ^= 1 << bit }},
		{"Urg", 18, 15, func(h *api.Header, bit int) { h.Urg ^= 1 << bit }},
	} {
		for bit := 0; bit <= c.top; bit++ {
			h := small(5, 0, 0)
			c.turn(&h, bit)
			want := slices.Clone(base)
			want[c.at+c.top/8-bit/8] ^= 1 << (bit % 8)
			got, e := Encode(h)
			if e != api.OK || !bytes.Equal(got, want) {
				t.Errorf("%s, bit %d: got % X, want % X", c.name, bit, got, want)
			}
			if back, e := Decode(want); back != h || e != api.OK {
				t.Errorf("%s, bit %d: decoded %+v, %d", c.name, bit, back, e)
			}
		}
	}
}

func TestEachAceHasItsPlace(t *testing.T) {
	for ace, want := range [][2]byte{{0x50, 0}, {0x50, 0x40}, {0x50, 0x80}, {0x50, 0xC0}, {0x51, 0}, {0x51, 0x40}, {0x51, 0x80}, {0x51, 0xC0}} {
		for flag := range 64 {
			h := small(5, uint8(ace), uint8(flag))
			b, e := Encode(h)
			if e != api.OK || b[12] != want[0] || b[13] != want[1]+byte(flag) {
				t.Errorf("%+v: got % X, %d", h, b, e)
			}
			if back, e := Decode(b); back != h || e != api.OK {
				t.Errorf("%+v: decoded %+v, %d", h, back, e)
			}
		}
	}
}

func TestEncodeIsNewEachTime(t *testing.T) {
	h := small(7, 3, Psh)
	first, _ := Encode(h)
	second, _ := Encode(h)
	want := slices.Clone(second)
	for i := range first {
		first[i] = 99
	}
	_ = append(first, 99)
	h.Src = 99
	if !bytes.Equal(second, want) {
		t.Errorf("% X", second)
	}
	if third, _ := Encode(small(7, 3, Psh)); !bytes.Equal(third, want) {
		t.Errorf("% X", third)
	}
}

// P11.2

func TestDecodeOfPlainBytes(t *testing.T) {
	b := []byte{1, 2, 3, 4, 5, 6, 7, 8, 9, 10, 11, 12, 0xD1, 0x8E, 15, 16, 17, 18, 19, 20}
	want := api.Header{Src: 0x0102, Dst: 0x0304, Seq: 0x05060708, Ack: 0x090A0B0C, Off: 13, Ace: 6, Flags: 0x0E, Win: 0x0F10, Sum: 0x1112, Urg: 0x1314}
	if got, e := Decode(b); got != want || e != api.OK {
		t.Errorf("%+v, %d", got, e)
	}
}

func TestDecodeOfFew(t *testing.T) {
	r := rand.New(rand.NewSource(3))
	for _, twelfth := range []byte{0x50, 0xF1, 0, 0x40, 0x5E, 0xFF} { // ones that are wrong as well
		b := plain(r, twelfth)
		for n := range 20 {
			if got, e := Decode(b[:n]); got != (api.Header{}) || e != api.ErrShort {
				t.Errorf("%d bytes with %#x: got %+v, %d", n, twelfth, got, e)
			}
		}
	}
	for _, b := range [][]byte{nil, {}, make([]byte, 0, 40), make([]byte, 19, 40), make([]byte, 19)} {
		if got, e := Decode(b); got != (api.Header{}) || e != api.ErrShort {
			t.Errorf("% X: got %+v, %d", b, got, e)
		}
	}
}

func TestDecodeOfEveryTwelfthByte(t *testing.T) {
	r := rand.New(rand.NewSource(4))
	for x := range 256 {
		b := plain(r, byte(x))
		got, e := Decode(b)
		off, between, ae := x/16, x/2%8, x%2
		if off < 5 || between != 0 {
			if got != (api.Header{}) || e != api.ErrForm {
				t.Errorf("%#x: got %+v, %d", x, got, e)
			}
			continue
		}
		ace := 4*ae + int(b[13])/64
		if e != api.OK || int(got.Off) != off || int(got.Ace) != ace || got.Flags != b[13]%64 {
			t.Errorf("%#x, %#x: got %+v, %d", x, b[13], got, e)
		}
	}
}

func TestDecodeAtTheEdges(t *testing.T) {
	for _, c := range []struct {
		twelfth byte
		want    api.Errno
	}{
		{0x00, api.ErrForm},
		{0x40, api.ErrForm},
		{0x41, api.ErrForm},
		{0x4F, api.ErrForm},
		{0x50, api.OK},
		{0x51, api.OK},
		{0x52, api.ErrForm}, // each one of the three bits alone
		{0x54, api.ErrForm},
		{0x58, api.ErrForm},
		{0x53, api.ErrForm},
		{0x5E, api.ErrForm},
		{0xF0, api.OK},
		{0xF1, api.OK},
		{0xF2, api.ErrForm},
		{0xF4, api.ErrForm},
		{0xF8, api.ErrForm},
		{0xFF, api.ErrForm},
	} {
		b := make([]byte, 20)
		b[12] = c.twelfth
		want := api.Header{}
		if c.want == api.OK {
			want = small(c.twelfth/16, c.twelfth%2*4, 0)
		}
		if got, e := Decode(b); got != want || e != c.want {
			t.Errorf("%#x: got %+v, %d", c.twelfth, got, e)
		}
	}
}

func TestDecodeOfEveryThirteenthByte(t *testing.T) {
	for _, twelfth := range []byte{0x50, 0x51} {
		for x := range 256 {
			b := make([]byte, 20)
			b[12], b[13] = twelfth, byte(x)
			want := small(5, uint8(4*int(twelfth%2)+x/64), uint8(x%64))
			if got, e := Decode(b); got != want || e != api.OK {
				t.Errorf("%#x, %#x: got %+v, %d", twelfth, x, got, e)
			}
		}
	}
}

func TestDecodeIsOfTheFirstTwentyAlone(t *testing.T) {
	r := rand.New(rand.NewSource(5))
	for _, twelfth := range []byte{0x50, 0xF1, 0x40, 0x52} {
		b := plain(r, twelfth)
		want, wantErr := Decode(b)
		for _, behind := range [][]byte{{0}, {255}, {1, 2}, plain(r, 0xFF), bytes.Repeat([]byte{0xEE}, 70000)} {
			long := append(slices.Clone(b), behind...)
			if got, e := Decode(long); got != want || e != wantErr {
				t.Errorf("%d bytes behind: got %+v, %d, want %+v, %d", len(behind), got, e, want, wantErr)
			}
		}
	}
}

func TestDecodeLeavesWhatCameIn(t *testing.T) {
	r := rand.New(rand.NewSource(6))
	for _, twelfth := range []byte{0x50, 0xF1, 0x40, 0x52} {
		room := append(plain(r, twelfth), 8, 8)
		was := slices.Clone(room)
		got, _ := Decode(room[:20])
		if !bytes.Equal(room, was) {
			t.Errorf("% X", room)
		}
		for i := range room {
			room[i] = 0x55
		}
		if again, _ := Decode(was); again != got {
			t.Errorf("what was told changed with what came in: %+v", got)
		}
	}
}

// P11.3

func TestHasOfEveryTwo(t *testing.T) {
	for of := range 256 {
		for flag := range 256 {
			want := true
			for bit := 1; bit < 256; bit *= 2 {
				if flag/bit%2 == 1 && of/bit%2 == 0 {
					want = false
				}
			}
			if got := Has(api.Header{Flags: uint8(of)}, uint8(flag)); got != want {
				t.Fatalf("Has of %#x, %#x: got %v", of, flag, got)
			}
		}
	}
}

func TestHas(t *testing.T) {
	each := []uint8{Fin, Syn, Rst, Psh, Ackd, Urgd}
	for i, flag := range each {
		for k, other := range each {
			if got := Has(small(5, 0, flag), other); got != (i == k) {
				t.Errorf("Has of %d, %d: got %v", flag, other, got)
			}
		}
		if Has(small(5, 0, 63&^flag), 63) || !Has(small(5, 0, 63), flag) {
			t.Errorf("all but %d, or all", flag)
		}
	}
	for _, c := range []struct {
		of, flag uint8
		want     bool
	}{
		{0, 0, true},
		{63, 0, true},
		{0, Syn, false},
		{Syn | Ackd, Syn | Ackd, true},
		{Syn | Ackd | Psh, Syn | Ackd, true},
		{Syn | Psh, Syn | Ackd, false}, // one is missing
		{63, 64, false},                // bits that are no flags
		{63, 128, false},
		{63, 255, false},
		{63, Syn | 64, false},
	} {
		if got := Has(small(5, 0, c.of), c.flag); got != c.want {
			t.Errorf("Has of %d, %d: got %v", c.of, c.flag, got)
		}
	}
}

func TestHasAsksNothingButFlags(t *testing.T) {
	r := rand.New(rand.NewSource(7))
	for range 1000 {
		h := header(r)
		bare := api.Header{Flags: h.Flags}
		for flag := range 64 {
			if Has(h, uint8(flag)) != Has(bare, uint8(flag)) {
				t.Fatalf("%+v, %d", h, flag)
			}
		}
	}
}

func TestAceOfEveryThree(t *testing.T) {
	for _, c := range []struct {
		ae, cwr, ece bool
		want         uint8
	}{
		{false, false, false, 0},
		{false, false, true, 1},
		{false, true, false, 2},
		{false, true, true, 3},
		{true, false, false, 4},
		{true, false, true, 5},
		{true, true, false, 6},
		{true, true, true, 7},
	} {
		if got := Ace(c.ae, c.cwr, c.ece); got != c.want {
			t.Errorf("Ace(%v, %v, %v): got %d, want %d", c.ae, c.cwr, c.ece, got, c.want)
		}
		if ae, cwr, ece := Bits(c.want); ae != c.ae || cwr != c.cwr || ece != c.ece {
			t.Errorf("Bits(%d): got %v, %v, %v", c.want, ae, cwr, ece)
		}
	}
}

func TestBitsOfEveryByte(t *testing.T) {
	for x := range 256 {
		ae, cwr, ece := Bits(uint8(x))
		if ae != (x/4%2 == 1) || cwr != (x/2%2 == 1) || ece != (x%2 == 1) {
			t.Errorf("Bits(%d): got %v, %v, %v", x, ae, cwr, ece)
		}
		if got := Ace(ae, cwr, ece); int(got) != x%8 {
			t.Errorf("Ace of Bits(%d): got %d", x, got)
		}
	}
}

// P11.4

func TestWhatWasEncodedIsDecodedAsItWas(t *testing.T) {
	r := rand.New(rand.NewSource(8))
	for range 5000 {
		h := header(r)
		b, _ := Encode(h)
		if got, e := Decode(b); got != h || e != api.OK {
			t.Fatalf("%+v: got %+v, %d", h, got, e)
		}
	}
	for off := 5; off <= 15; off++ {
		for ace := range 8 {
			for flag := range 64 {
				h := small(uint8(off), uint8(ace), uint8(flag))
				b, _ := Encode(h)
				if got, e := Decode(b); got != h || e != api.OK {
					t.Fatalf("%+v: got %+v, %d", h, got, e)
				}
			}
		}
	}
}

func TestWhatWasDecodedIsEncodedToTheSameBytes(t *testing.T) {
	r := rand.New(rand.NewSource(9))
	for range 40 {
		for x := range 256 {
			b := append(plain(r, byte(x)), plain(r, 0)[:r.Intn(20)]...)
			h, e := Decode(b)
			if e != api.OK {
				continue
			}
			if got, e := Encode(h); e != api.OK || !bytes.Equal(got, b[:20]) {
				t.Fatalf("% X: got % X, %d", b, got, e)
			}
		}
	}
}

// P11.5

func TestTextOfEveryByte(t *testing.T) {
	for x := range 256 {
		want := ""
		for i, letter := range []string{"F", "S", "R", "P", "A", "U"} {
			if x>>i&1 == 1 {
				want += letter
			}
		}
		if x%64 == 0 {
			want = "-"
		}
		if got := Text(uint8(x)); got != want {
			t.Errorf("Text(%d): got %q, want %q", x, got, want)
		}
	}
}

func TestTextOfPlainFlags(t *testing.T) {
	for _, c := range []struct {
		flag uint8
		want string
	}{
		{0, "-"},
		{Fin, "F"},
		{Syn, "S"},
		{Rst, "R"},
		{Psh, "P"},
		{Ackd, "A"},
		{Urgd, "U"},
		{Ackd | Syn, "SA"},
		{Fin | Ackd, "FA"},
		{63, "FSRPAU"},
		{64, "-"},
		{128 | Urgd, "U"},
		{255, "FSRPAU"},
	} {
		if got := Text(c.flag); got != c.want {
			t.Errorf("Text(%d): got %q, want %q", c.flag, got, c.want)
		}
	}
}

func TestWhatTextToldIsParsed(t *testing.T) {
	for x := range 256 {
		if got, is := Parse(Text(uint8(x))); !is || int(got) != x%64 {
			t.Errorf("Parse(%q): got %d, %v", Text(uint8(x)), got, is)
		}
	}
}

func TestParseOfPlainTexts(t *testing.T) {
	for _, c := range []struct {
		s    string
		want uint8
	}{
		{"", 0},
		{"-", 0},
		{"F", Fin},
		{"S", Syn},
		{"R", Rst},
		{"P", Psh},
		{"A", Ackd},
		{"U", Urgd},
		{"SA", Syn | Ackd},
		{"AS", Syn | Ackd},
		{"FSRPAU", 63},
		{"UAPRSF", 63},
	} {
		if got, is := Parse(c.s); !is || got != c.want {
			t.Errorf("Parse(%q): got %d, %v, want %d", c.s, got, is, c.want)
		}
	}
}

func TestParseRefuses(t *testing.T) {
	for _, s := range []string{
		"--", "---", "-F", "F-", "S-", "-S", "F-S", "-FSRPAU", "FSRPAU-", // - is alone, or wrong
		"FF", "SS", "RR", "PP", "AA", "UU", "FSF", "SAS", "FSRPAUF", "UFSRPAU", // one twice
		"f", "s", "r", "p", "a", "u", "sA", "Sa", "fsrpau", // small letters
		"B", "X", "E", "C", "FX", "XF", "0", "1", " ", " F", "F ", "F S", "F,S", "\t", "\n", "F\n", "\x00", "F\x00", "\x7f", "?",
		"ä", "Fä", "äF", "–", "−", "F–", "Ｆ", "Ѕ", "А", "\U0001F600", "S\U0001F600", "\u0301", "F\u0301", "\ufeffF", // more than a byte
		"\u0146", "\u0153", "\u1F46", // their lowest byte is a letter's
		"\x80", "\xff", "F\xff", "\xffF", "\xc3", "S\xc3", "\xed\xa0\x80", "\xf4\x90\x80\x80", "\xc1\x86", // no rune
		"\ufffd", "F\ufffd",
	} {
		if got, is := Parse(s); is || got != 0 {
			t.Errorf("Parse(%q): got %d, %v", s, got, is)
		}
	}
}

func TestParseOfEveryOrder(t *testing.T) {
	var each func(said string, left []rune)
	each = func(said string, left []rune) {
		want := uint8(0)
		for i, letter := range "FSRPAU" {
			if strings.ContainsRune(said, letter) {
				want |= 1 << i
			}
		}
		if got, is := Parse(said); !is || got != want {
			t.Errorf("Parse(%q): got %d, %v", said, got, is)
		}
		for _, letter := range said {
			if got, is := Parse(said + string(letter)); is || got != 0 {
				t.Errorf("Parse(%q): got %d, %v", said+string(letter), got, is)
			}
		}
		for i, letter := range left {
			each(said+string(letter), slices.Delete(slices.Clone(left), i, i+1))
		}
	}
	each("", []rune("FSRPAU"))
}

func TestParseOfEveryRune(t *testing.T) {
	for r := rune(0); r <= utf8.MaxRune; r++ {
		if strings.ContainsRune("FSRPAU-", r) {
			continue
		}
		if got, is := Parse(string(r)); is || got != 0 {
			t.Fatalf("Parse(%q): got %d, %v", string(r), got, is)
		}
	}
}

func TestParseOfEveryByte(t *testing.T) {
	for x := range 256 {
		s := string([]byte{byte(x)})
		at := strings.Index("FSRPAU", s)
		want, wantIs := uint8(0), s == "-"
		if at >= 0 {
			want, wantIs = 1<<at, true
		}
		if got, is := Parse(s); got != want || is != wantIs {
			t.Errorf("Parse(%q): got %d, %v", s, got, is)
		}
	}
}

func TestParseOfLongTexts(t *testing.T) {
	for _, s := range []string{strings.Repeat("F", api.MaxText), strings.Repeat("-", api.MaxText+1), strings.Repeat("FSRPAU", 300), strings.Repeat("\xff", 1000)} {
		if got, is := Parse(s); is || got != 0 {
			t.Errorf("%d bytes: got %d, %v", len(s), got, is)
		}
	}
}
