package segment

import (
	"bytes"
	"encoding/binary"
	"fmt"
	"math"
	"math/rand"
	"slices"
	"strings"
	"testing"

	"leat/api"
	"leat/flags"
	"leat/option"
	"leat/sum"
)

var (
	src = [4]byte{10, 0, 0, 1}
	dst = [4]byte{192, 168, 7, 9}
)

// mebi is the number of bytes that is cut, gathered and looked back and ahead at most, as the chapter says it.
const mebi = 1048576

// sameOpts tells whether options are alike, where a list without an element may be nil or empty.
func sameOpts(l, m []api.Option) bool {
	return slices.EqualFunc(l, m, func(o, p api.Option) bool {
		return o.Kind == p.Kind && slices.Equal(o.Nums, p.Nums) && o.Raw == p.Raw
	})
}

// same tells whether segments are alike.
func same(l, m []api.Segment) bool {
	return slices.EqualFunc(l, m, func(s, o api.Segment) bool {
		return s.Head == o.Head && sameOpts(s.Opts, o.Opts) && s.Data == o.Data
	})
}

// clone is segments that share nothing with those handed in.
func clone(l []api.Segment) []api.Segment {
	out := slices.Clone(l)
	for i := range out {
		out[i].Opts = slices.Clone(out[i].Opts)
		for k := range out[i].Opts {
			out[i].Opts[k].Nums = slices.Clone(out[i].Opts[k].Nums)
		}
	}
	return out
}

// list is as many segments as one likes.
func list(l ...api.Segment) []api.Segment {
	return l
}

// at is a segment of data at a number.
func at(seq uint32, data string) api.Segment {
	return api.Segment{Head: api.Header{Seq: seq}, Data: data}
}

// with is a segment with flags.
func with(flag uint8, s api.Segment) api.Segment {
	s.Head.Flags = flag
	return s
}

// letters is so many bytes, of which near ones differ.
func letters(n int) string {
	b := make([]byte, n)
	for i := range b {
		b[i] = byte(i + i/256*7 + i/65536*3)
	}
	return string(b)
}

// modelSum is the checksum of a segment's bytes as the chapters say it: what its words' sum, modulo 65535, lacks of 65535 (a sum that is not 0 goes round to 65535, not to 0).
func modelSum(src, dst [4]byte, b []byte) uint16 {
	whole := slices.Concat(src[:], dst[:], []byte{0, 6, byte(len(b) / 256), byte(len(b))}, b)
	if len(whole)%2 == 1 {
		whole = append(whole, 0)
	}
	total := 0
	for i := 0; i < len(whole); i += 2 {
		total += 256*int(whole[i]) + int(whole[i+1])
	}
	return uint16(65534 - (total-1)%65535)
}

// summed is bytes whose checksum, at 16, is right.
func summed(src, dst [4]byte, b []byte) []byte {
	b = slices.Clone(b)
	b[16], b[17] = 0, 0
	binary.BigEndian.PutUint16(b[16:], modelSum(src, dst, b))
	return b
}

// modelBytes is a segment's bytes as the chapters say it, with options that are bytes already.
func modelBytes(src, dst [4]byte, h api.Header, opts, data string) []byte {
	b := binary.BigEndian.AppendUint16(nil, h.Src)
	b = binary.BigEndian.AppendUint16(b, h.Dst)
	b = binary.BigEndian.AppendUint32(b, h.Seq)
	b = binary.BigEndian.AppendUint32(b, h.Ack)
	b = append(b, byte(5+len(opts)/4)*16+h.Ace/4, h.Ace%4*64+h.Flags)
	b = binary.BigEndian.AppendUint16(b, h.Win)
	b = binary.BigEndian.AppendUint16(b, 0)
	b = binary.BigEndian.AppendUint16(b, h.Urg)
	return summed(src, dst, []byte(string(b)+opts+data))
}

// full is a header each of whose numbers is told by its bytes.
func full() api.Header {
	return api.Header{Src: 0x1234, Dst: 0x5678, Seq: 0x9ABCDEF0, Ack: 0x0FEDCBA9, Ace: 5, Flags: flags.Ackd | flags.Psh, Win: 0x8765, Urg: 0x4321}
}

// brief is the beginning of what a value's text is: some are long.
func brief(x any) string {
	s := fmt.Sprintf("%#v", x)
	return s[:min(len(s), 300)]
}

// encodes holds Encode against what is wanted.
func encodes(t *testing.T, s api.Segment, want []byte, wantErr api.Errno) {
	t.Helper()
	if got, e := Encode(src, dst, s); !bytes.Equal(got, want) || e != wantErr {
		t.Fatalf("Encode of %s: got % .100X, %d, want % .100X, %d", brief(s), got, e, want, wantErr)
	}
}

// decodes holds Decode against what is wanted.
func decodes(t *testing.T, b []byte, want api.Segment, wantErr api.Errno) {
	t.Helper()
	if got, e := Decode(src, dst, b); !same(list(got), list(want)) || e != wantErr {
		t.Fatalf("Decode of % .100X: got %s, %d, want %s, %d", b, brief(got), e, brief(want), wantErr)
	}
}

// gathers holds Gather against what is wanted.
func gathers(t *testing.T, l []api.Segment, seq uint32, want string, wantNext uint32, wantGaps int) {
	t.Helper()
	if got, next, gaps := Gather(l, seq); got != want || next != wantNext || gaps != wantGaps {
		t.Fatalf("Gather of %s from %d: got %.50q (%d), %d, %d, want %.50q (%d), %d, %d", brief(l), seq, got, len(got), next, gaps, want, len(want), wantNext, wantGaps)
	}
}

// P13.1

func TestEncodeOfKnownBytes(t *testing.T) {
	for _, c := range []struct {
		s    api.Segment
		want string
	}{
		{api.Segment{}, "\x00\x00\x00\x00" + "\x00\x00\x00\x00" + "\x00\x00\x00\x00" + "\x50\x00\x00\x00" + "\xde\x32\x00\x00"},
		{api.Segment{Head: full()}, "\x12\x34\x56\x78" + "\x9a\xbc\xde\xf0" + "\x0f\xed\xcb\xa9" + "\x51\x58\x87\x65" + "\x54\x63\x43\x21"},
		{api.Segment{Head: full(), Data: "a"}, "\x12\x34\x56\x78" + "\x9a\xbc\xde\xf0" + "\x0f\xed\xcb\xa9" + "\x51\x58\x87\x65" + "\xf3\x61\x43\x21" + "a"},
		{api.Segment{Head: full(), Data: "ab"}, "\x12\x34\x56\x78" + "\x9a\xbc\xde\xf0" + "\x0f\xed\xcb\xa9" + "\x51\x58\x87\x65" + "\xf2\xfe\x43\x21" + "ab"},
	} {
		encodes(t, c.s, []byte(c.want), api.OK)
	}
}

// printed are options, and their bytes with the zeros behind them.
var printed = []struct {
	opts []api.Option
	want string
}{
	{nil, ""},
	{[]api.Option{}, ""},
	{[]api.Option{{Kind: option.Mss, Nums: []uint32{1460}}}, "\x02\x04\x05\xb4"},
	{[]api.Option{{Kind: 99, Raw: "a"}}, "\x63\x03a\x00"},
	{[]api.Option{{Kind: option.Stamp, Nums: []uint32{1, 2}}}, "\x08\x0a\x00\x00\x00\x01\x00\x00\x00\x02\x00\x00"},
	{[]api.Option{{Kind: 99, Raw: "abc"}}, "\x63\x05abc\x00\x00\x00"},
	{[]api.Option{{Kind: 99}}, "\x63\x02\x00\x00"},
	{[]api.Option{{Kind: 99}, {Kind: 99}}, "\x63\x02\x63\x02"},
	{[]api.Option{option.Acc(option.Acc0, 1, 2, 3, 3)}, "\xac\x0b\x00\x00\x01\x00\x00\x02\x00\x00\x03\x00"},
	{[]api.Option{option.Acc(option.Acc1, 1, 2, 3, 3), {Kind: option.Mss, Nums: []uint32{7}}}, "\xae\x0b\x00\x00\x03\x00\x00\x02\x00\x00\x01\x02\x04\x00\x07\x00"},
	{[]api.Option{{Kind: 255, Raw: letters(35)}}, "\xff\x25" + letters(35) + "\x00\x00\x00"}, // with its zeros just 40
	{[]api.Option{{Kind: 255, Raw: letters(38)}}, "\xff\x28" + letters(38)},
}

func TestEncodeOfOptions(t *testing.T) {
	for _, c := range printed {
		for _, data := range []string{"", "x", "xy", "xyz", letters(1000), letters(1001)} {
			s := api.Segment{Head: full(), Opts: c.opts, Data: data}
			want := modelBytes(src, dst, full(), c.want, data)
			encodes(t, s, want, api.OK)
			if len(want) != 20+len(c.want)+len(data) || int(want[12])/16*4 != 20+len(c.want) {
				t.Errorf("% X", want)
			}
		}
	}
}

// refused are options that option.Print refuses, in each way.
var refused = []struct {
	opts []api.Option
	want api.Errno
}{
	{[]api.Option{{}}, api.ErrRange},
	{[]api.Option{{Kind: 1}}, api.ErrRange},
	{[]api.Option{{Kind: -1}}, api.ErrRange},
	{[]api.Option{{Kind: 256}}, api.ErrRange},
	{[]api.Option{{Kind: math.MinInt}}, api.ErrRange},
	{[]api.Option{{Kind: math.MaxInt}}, api.ErrRange},
	{[]api.Option{{Kind: option.Mss}}, api.ErrRange},
	{[]api.Option{{Kind: option.Mss, Nums: []uint32{1, 2}}}, api.ErrRange},
	{[]api.Option{{Kind: option.Mss, Nums: []uint32{65536}}}, api.ErrRange},
	{[]api.Option{{Kind: option.Mss, Nums: []uint32{1}, Raw: "a"}}, api.ErrRange},
	{[]api.Option{{Kind: option.Acc0, Nums: []uint32{1 << 24}}}, api.ErrRange},
	{[]api.Option{{Kind: option.Acc1, Nums: []uint32{1, 2, 3, 4}}}, api.ErrRange},
	{[]api.Option{{Kind: 99, Nums: []uint32{1}}}, api.ErrRange},
	{[]api.Option{{Kind: option.Acc0}, {Kind: option.Acc0}}, api.ErrForm},
	{[]api.Option{{Kind: 99, Raw: letters(39)}}, api.ErrLong},
	{[]api.Option{{Kind: 99, Raw: letters(37)}, {Kind: 99}}, api.ErrLong},
	{slices.Repeat([]api.Option{{Kind: 99}}, 21), api.ErrLong},
}

func TestEncodeOfRefusedOptions(t *testing.T) {
	for _, c := range refused {
		encodes(t, api.Segment{Head: full(), Opts: c.opts, Data: "abc"}, nil, c.want)
		encodes(t, api.Segment{Opts: c.opts}, nil, c.want)
	}
}

func TestEncodeOfLongData(t *testing.T) {
	forty := []api.Option{{Kind: 99, Raw: letters(38)}}
	for _, n := range []int{64999, 65000} {
		encodes(t, api.Segment{Head: full(), Data: letters(n)}, modelBytes(src, dst, full(), "", letters(n)), api.OK)
		encodes(t, api.Segment{Head: full(), Opts: forty, Data: letters(n)}, modelBytes(src, dst, full(), "\x63\x28"+letters(38), letters(n)), api.OK)
	}
	for _, n := range []int{65001, 65002, 65515, 65535, 65536, 131072, 1 << 21} {
		encodes(t, api.Segment{Head: full(), Data: letters(n)}, nil, api.ErrLong)
	}
}

func TestEncodeOfRefusedHeads(t *testing.T) {
	for x := range 256 {
		h := full()
		h.Ace = uint8(x)
		if x > 7 {
			encodes(t, api.Segment{Head: h, Data: "abc"}, nil, api.ErrRange)
		} else {
			encodes(t, api.Segment{Head: h, Data: "abc"}, modelBytes(src, dst, h, "", "abc"), api.OK)
		}
		h = full()
		h.Flags = uint8(x)
		if x > 63 {
			encodes(t, api.Segment{Head: h, Data: "abc"}, nil, api.ErrRange)
		} else {
			encodes(t, api.Segment{Head: h, Data: "abc"}, modelBytes(src, dst, h, "", "abc"), api.OK)
		}
	}
}

func TestEncodeTellsWhatIsNamedFirst(t *testing.T) {
	long, wrong := letters(65001), api.Header{Ace: 8}
	for _, c := range refused {
		encodes(t, api.Segment{Opts: c.opts, Data: long}, nil, c.want)
		encodes(t, api.Segment{Head: wrong, Opts: c.opts}, nil, c.want)
		encodes(t, api.Segment{Head: wrong, Opts: c.opts, Data: long}, nil, c.want)
	}
	encodes(t, api.Segment{Head: wrong, Data: long}, nil, api.ErrLong)
	encodes(t, api.Segment{Head: api.Header{Flags: 64}, Data: long}, nil, api.ErrLong)
	encodes(t, api.Segment{Head: wrong, Data: letters(65000)}, nil, api.ErrRange)
}

func TestEncodeTakesItsOwnOffAndSum(t *testing.T) {
	want := modelBytes(src, dst, full(), "\x63\x03a\x00", "abc")
	s := api.Segment{Head: full(), Opts: []api.Option{{Kind: 99, Raw: "a"}}, Data: "abc"}
	for x := range 256 {
		s.Head.Off = uint8(x)
		s.Head.Sum = 0
		encodes(t, s, want, api.OK)
		s.Head.Sum = uint16(x * 257)
		encodes(t, s, want, api.OK)
	}
}

// someOpts is options by chance that are not refused but where they are too long together.
func someOpts(r *rand.Rand) []api.Option {
	var l []api.Option
	for _, kind := range r.Perm(6)[:r.Intn(4)] {
		switch kind {
		case 0:
			l = append(l, api.Option{Kind: option.Mss, Nums: []uint32{r.Uint32() >> 16}})
		case 1:
			l = append(l, api.Option{Kind: option.Stamp, Nums: []uint32{r.Uint32(), r.Uint32()}})
		case 2:
			l = append(l, option.Acc(option.Acc0, r.Int63(), r.Int63(), r.Int63(), r.Intn(4)))
		case 3:
			l = append(l, option.Acc(option.Acc1, r.Int63(), r.Int63(), r.Int63(), r.Intn(4)))
		default:
			raw := make([]byte, r.Intn(8))
			r.Read(raw)
			l = append(l, api.Option{Kind: 200 + r.Intn(50), Raw: string(raw)})
		}
	}
	return l
}

// someSegment is a segment by chance.
func someSegment(r *rand.Rand, most int) api.Segment {
	data := make([]byte, r.Intn(most+1))
	r.Read(data)
	if r.Intn(4) == 0 {
		data = bytes.Repeat([]byte{[]byte{0, 255}[r.Intn(2)]}, len(data)) // whose words tell nothing, either way
	}
	return api.Segment{
		Head: api.Header{
			Src: uint16(r.Uint32()), Dst: uint16(r.Uint32()), Seq: r.Uint32(), Ack: r.Uint32(),
			Off: uint8(r.Uint32()), Ace: uint8(r.Intn(8)), Flags: uint8(r.Intn(64)),
			Win: uint16(r.Uint32()), Sum: uint16(r.Uint32()), Urg: uint16(r.Uint32()),
		},
		Opts: someOpts(r), Data: string(data),
	}
}

// someAddress is an address by chance.
func someAddress(r *rand.Rand) [4]byte {
	return [4]byte(binary.BigEndian.AppendUint32(nil, r.Uint32()>>r.Intn(33)))
}

func TestEncodeIsTheModel(t *testing.T) {
	r := rand.New(rand.NewSource(1))
	for range 30000 {
		from, to, s := someAddress(r), someAddress(r), someSegment(r, 60)
		opts, wantErr := option.Print(s.Opts)
		var want []byte
		if wantErr == api.OK {
			want = modelBytes(from, to, s.Head, string(opts), s.Data)
		}
		got, e := Encode(from, to, s)
		if !bytes.Equal(got, want) || e != wantErr {
			t.Fatalf("Encode of %v: got % X, %d, want % X, %d", s, got, e, want, wantErr)
		}
	}
}

func TestTheSumThatIsToldIsVerified(t *testing.T) {
	r := rand.New(rand.NewSource(2))
	odd := 0
	for range 10000 {
		from, to, s := someAddress(r), someAddress(r), someSegment(r, 100)
		b, e := Encode(from, to, s)
		if e != api.OK {
			continue
		}
		odd += len(b) % 2
		if !sum.Verify(sum.Pseudo(from, to, 6, len(b)), b) {
			t.Fatalf("% X is not verified", b)
		}
		if sum.Verify(sum.Pseudo(from, to, 17, len(b)), b) || sum.Verify(sum.Pseudo(from, to, 6, len(b)+1), b) || sum.Verify(sum.Pseudo(from, to, 6, len(s.Data)), b) {
			t.Fatalf("% X is verified of another protocol or length", b)
		}
	}
	if odd < 1000 {
		t.Errorf("%d were of an odd length alone", odd)
	}
	for _, n := range []int{64999, 65000} {
		b, e := Encode(src, dst, api.Segment{Head: full(), Data: letters(n)})
		if e != api.OK || !sum.Verify(sum.Pseudo(src, dst, 6, n+20), b) {
			t.Errorf("%d bytes: %d", n, e)
		}
	}
}

func TestEncodeAtTheEndsOfTheSum(t *testing.T) {
	for x := range 65536 { // each sum there is, 0 among them
		s := api.Segment{Head: api.Header{Win: uint16(x)}}
		b, e := Encode(src, dst, s)
		if e != api.OK || binary.BigEndian.Uint16(b[16:]) != modelSum(src, dst, append(slices.Clone(b[:16]), 0, 0, 0, 0)) {
			t.Fatalf("% X, %d", b, e)
		}
	}
}

func TestEncodeLeavesWhatCameIn(t *testing.T) {
	r := rand.New(rand.NewSource(3))
	for range 3000 {
		s := someSegment(r, 30)
		was := clone(list(s))
		b, e := Encode(src, dst, s)
		if !same(list(s), was) {
			t.Fatalf("%v was %v", s, was)
		}
		if e != api.OK {
			continue
		}
		told := slices.Clone(b)
		for i := range s.Opts {
			for k := range s.Opts[i].Nums {
				s.Opts[i].Nums[k] ^= 0x55
			}
			s.Opts[i] = api.Option{Kind: 3}
		}
		if !bytes.Equal(b, told) {
			t.Fatalf("what was told changed with what came in: % X was % X", b, told)
		}
	}
}

func TestEncodeIsNewEachTime(t *testing.T) {
	s := api.Segment{Head: full(), Opts: []api.Option{{Kind: 99, Raw: "ab"}}, Data: "abc"}
	first, _ := Encode(src, dst, s)
	second, _ := Encode(src, dst, s)
	want := slices.Clone(second)
	for i := range first {
		first[i] = 0x55
	}
	_ = append(first, 9)
	if third, _ := Encode(src, dst, s); !bytes.Equal(second, want) || !bytes.Equal(third, want) {
		t.Errorf("% X and % X, want % X", second, third, want)
	}
}

// P13.2

func TestDecodeOfFewBytes(t *testing.T) {
	decodes(t, nil, api.Segment{}, api.ErrShort)
	b := modelBytes(src, dst, full(), "", "")
	for n := range 20 {
		decodes(t, b[:n], api.Segment{}, api.ErrShort)
		decodes(t, make([]byte, n), api.Segment{}, api.ErrShort)
	}
	want := full()
	want.Off, want.Sum = 5, 0x5463
	decodes(t, b, api.Segment{Head: want}, api.OK)
}

func TestDecodeOfWrongForms(t *testing.T) {
	for x := range 256 {
		b := modelBytes(src, dst, full(), "", letters(60))
		b[12] = byte(x)
		b = summed(src, dst, b)
		if x>>4 >= 5 && x&14 == 0 {
			want, wantErr := modelDecode(src, dst, b)
			decodes(t, b, want, wantErr)
			continue
		}
		decodes(t, b, api.Segment{}, api.ErrForm)
		decodes(t, b[:20], api.Segment{}, api.ErrForm) // too short as well, and of a wrong sum
		decodes(t, b[:19], api.Segment{}, api.ErrShort)
		b[17] ^= 1
		decodes(t, b, api.Segment{}, api.ErrForm)
	}
}

func TestDecodeOfOff(t *testing.T) {
	for off := 5; off <= 15; off++ {
		for n := 20; n <= 70; n++ {
			b := make([]byte, n)
			b[12] = byte(off << 4)
			b = summed(src, dst, b)
			if n < 4*off {
				decodes(t, b, api.Segment{}, api.ErrShort)
				b[16] ^= 1
				decodes(t, b, api.Segment{}, api.ErrShort) // of a wrong sum as well
				continue
			}
			h := api.Header{Off: uint8(off), Sum: binary.BigEndian.Uint16(b[16:])}
			decodes(t, b, api.Segment{Head: h, Data: string(make([]byte, n-4*off))}, api.OK)
		}
	}
}

func TestDecodeOfManyBytes(t *testing.T) {
	for _, n := range []int{65000, 65060, 65534, 65535, 65536, 65537, 131072, 1 << 20} {
		data := letters(n - 20)
		b := modelBytes(src, dst, full(), "", data)
		turned := slices.Clone(b)
		turned[n-1] ^= 1
		if n > 65535 {
			decodes(t, b, api.Segment{}, api.ErrLong)
			decodes(t, turned, api.Segment{}, api.ErrLong) // of a wrong sum as well
			turned[12] = 0xF0
			decodes(t, turned, api.Segment{}, api.ErrLong) // and of options that are none
			turned[12] = 0x40
			decodes(t, turned, api.Segment{}, api.ErrForm)
			continue
		}
		h := full()
		h.Off, h.Sum = 5, binary.BigEndian.Uint16(b[16:])
		decodes(t, b, api.Segment{Head: h, Data: data}, api.OK)
		decodes(t, turned, api.Segment{}, api.ErrSum)
	}
}

func TestDecodeOfWrongSums(t *testing.T) {
	b := modelBytes(src, dst, full(), "\x02\x04\x05\xb4", "abc")
	right := binary.BigEndian.Uint16(b[16:])
	for x := range 65536 {
		binary.BigEndian.PutUint16(b[16:], uint16(x))
		if _, e := Decode(src, dst, b); (e == api.OK) != (x == int(right)) || e != api.OK && e != api.ErrSum {
			t.Fatalf("sum %X: got %d", x, e)
		}
	}
}

func TestDecodeOfOtherAddresses(t *testing.T) {
	b := modelBytes(src, dst, full(), "", "abc")
	for bit := range 64 {
		from, to := src, dst
		if bit < 32 {
			from[bit/8] ^= 1 << (bit % 8)
		} else {
			to[bit/8-4] ^= 1 << (bit % 8)
		}
		if s, e := Decode(from, to, b); e != api.ErrSum || !same(list(s), list(api.Segment{})) {
			t.Errorf("from %v to %v: got %v, %d", from, to, s, e)
		}
	}
	if _, e := Decode(dst, src, b); e != api.OK { // the order of words is nothing to a sum
		t.Error(e)
	}
	if _, e := Decode(src, dst, b[:len(b)-1]); e != api.ErrSum {
		t.Error(e)
	}
	if _, e := Decode(src, dst, append(slices.Clone(b), 0)); e != api.ErrSum { // another length
		t.Error(e)
	}
}

// unread are bytes that option.Parse refuses, in each way.
var unread = []struct {
	b    string
	want api.Errno
}{
	{"\x00\x00\x00\x01", api.ErrForm},
	{"\x00\x02\x04\x05", api.ErrForm},
	{"\x01\x01\x01\x02", api.ErrShort},
	{"\x63\x02\x01\x63", api.ErrShort},
	{"\x63\x00\x00\x00", api.ErrForm},
	{"\x63\x01\x00\x00", api.ErrForm},
	{"\x63\x05\x00\x00", api.ErrShort},
	{"\x63\xff\x00\x00", api.ErrShort},
	{"\x02\x03\x05\x00", api.ErrForm},
	{"\x08\x04\x00\x00", api.ErrForm},
	{"\xac\x04\x00\x00", api.ErrForm},
	{"\xac\x02\xac\x02", api.ErrForm},
	{"\x02\x04\x05\xb4\x02\x04\x05\xb4", api.ErrForm},
	{"\x63\x28" + strings.Repeat("a", 34), api.ErrShort},
	{"\x63\x29" + strings.Repeat("a", 38), api.ErrShort},
}

func TestDecodeOfRefusedOptions(t *testing.T) {
	for _, c := range unread {
		for _, data := range []string{"", "a", letters(100)} { // of which none belongs to an option
			b := modelBytes(src, dst, full(), c.b, data)
			decodes(t, b, api.Segment{}, c.want)
			b[16] ^= 1
			decodes(t, b, api.Segment{}, api.ErrSum) // of a wrong sum as well
			b[12] = 0xF0
			if len(b) < 60 {
				decodes(t, b, api.Segment{}, api.ErrShort)
			}
			b[12] = 0x40
			decodes(t, b, api.Segment{}, api.ErrForm)
			decodes(t, b[:19], api.Segment{}, api.ErrShort)
		}
	}
}

func TestDecodeOfOptionsAndData(t *testing.T) {
	for _, c := range printed {
		for _, data := range []string{"", "x", "\x00", "\x01\x02\x04", letters(999), letters(1000)} {
			b := modelBytes(src, dst, full(), c.want, data)
			h := full()
			h.Off, h.Sum = uint8(5+len(c.want)/4), binary.BigEndian.Uint16(b[16:])
			decodes(t, b, api.Segment{Head: h, Opts: c.opts, Data: data}, api.OK)
		}
	}
	b := modelBytes(src, dst, full(), "\x01\x01\x01\x00\x00\x00\x00\x00", "ab")
	h := full()
	h.Off, h.Sum = 7, binary.BigEndian.Uint16(b[16:])
	decodes(t, b, api.Segment{Head: h, Data: "ab"}, api.OK)
}

// modelDecode is Decode as the chapter says it, over the layers below.
func modelDecode(src, dst [4]byte, b []byte) (api.Segment, api.Errno) {
	h, e := flags.Decode(b)
	if e != api.OK {
		return api.Segment{}, e
	}
	if len(b) < 4*int(h.Off) {
		return api.Segment{}, api.ErrShort
	}
	if len(b) > 65535 {
		return api.Segment{}, api.ErrLong
	}
	told := slices.Clone(b)
	told[16], told[17] = 0, 0
	if want := modelSum(src, dst, told); h.Sum != want && !(want == 0 && h.Sum == 65535) {
		return api.Segment{}, api.ErrSum
	}
	opts, e := option.Parse(b[20 : 4*int(h.Off)])
	if e != api.OK {
		return api.Segment{}, e
	}
	return api.Segment{Head: h, Opts: opts, Data: string(b[4*int(h.Off):])}, api.OK
}

func TestDecodeIsTheModel(t *testing.T) {
	r := rand.New(rand.NewSource(4))
	told := map[api.Errno]int{}
	for range 50000 {
		from, to := someAddress(r), someAddress(r)
		b, e := Encode(from, to, someSegment(r, 30))
		if e != api.OK {
			continue
		}
		if r.Intn(2) == 0 {
			b[12] = b[12]&15 | byte(r.Intn(16)<<4)
		}
		if r.Intn(3) == 0 {
			b[r.Intn(len(b))] = byte(r.Intn(256))
		}
		if r.Intn(8) == 0 {
			b = b[:r.Intn(len(b))]
		}
		if len(b) >= 20 && r.Intn(4) > 0 {
			b = summed(from, to, b)
		}
		want, wantErr := modelDecode(from, to, b)
		told[wantErr]++
		if got, e := Decode(from, to, b); !same(list(got), list(want)) || e != wantErr {
			t.Fatalf("Decode of % X: got %v, %d, want %v, %d", b, got, e, want, wantErr)
		}
	}
	for _, e := range []api.Errno{api.OK, api.ErrShort, api.ErrForm, api.ErrSum} {
		if told[e] < 1000 {
			t.Errorf("%d is told %d times alone", e, told[e])
		}
	}
}

func TestDecodeLeavesWhatCameIn(t *testing.T) {
	r := rand.New(rand.NewSource(5))
	for range 3000 {
		b, e := Encode(src, dst, someSegment(r, 30))
		if e != api.OK {
			continue
		}
		room := append(slices.Clone(b), 9, 9, 9)
		was := slices.Clone(room)
		s, _ := Decode(src, dst, room[:len(b)])
		if !bytes.Equal(room, was) {
			t.Fatalf("% X was % X", room, was)
		}
		want := clone(list(s))
		for i := range room {
			room[i] = 0x55
		}
		if !same(list(s), want) {
			t.Fatalf("what was told changed with what came in: %v was %v", s, want)
		}
		other, _ := Decode(src, dst, was[:len(b)])
		for i := range other.Opts {
			other.Opts[i].Kind = 7
			for k := range other.Opts[i].Nums {
				other.Opts[i].Nums[k] = 7
			}
		}
		if again, _ := Decode(src, dst, was[:len(b)]); !same(list(again), want) || !same(list(s), want) {
			t.Fatalf("what was told changed with what was told: %v and %v, want %v", s, again, want)
		}
	}
}

// P13.3

func TestLength(t *testing.T) {
	for flag := range 256 {
		extra := flag&1 + flag>>1&1
		for _, n := range []int{0, 1, 2, 1000, 65000, 65001, 1 << 20} {
			s := with(uint8(flag), at(math.MaxUint32, strings.Repeat("a", n)))
			s.Opts = []api.Option{{Kind: 99, Raw: "abc"}}
			if got := Length(s); got != n+extra {
				t.Errorf("flags %d, %d bytes: got %d", flag, n, got)
			}
		}
	}
	if got := Length(api.Segment{}); got != 0 {
		t.Error(got)
	}
	if got := Length(with(flags.Syn, api.Segment{})); got != 1 {
		t.Error(got)
	}
	if got := Length(with(flags.Fin, api.Segment{})); got != 1 {
		t.Error(got)
	}
	if got := Length(with(flags.Syn|flags.Fin, at(7, "abc"))); got != 5 {
		t.Error(got)
	}
}

// P13.5

// modelCut is Cut as the chapter says it, segment by segment.
func modelCut(head api.Header, data string, mss int) []api.Segment {
	if len(data) > mebi {
		data = data[:mebi]
	}
	if mss < 1 {
		mss = 1
	}
	if mss > 65000 {
		mss = 65000
	}
	var l []api.Segment
	seq := uint64(head.Seq)
	for {
		s := api.Segment{Head: head}
		s.Head.Seq = uint32(seq % (1 << 32))
		last := len(data) <= mss
		if s.Data = data; !last {
			s.Data = data[:mss]
		}
		data = data[len(s.Data):]
		seq += uint64(len(s.Data))
		if len(l) == 0 {
			seq += uint64(head.Flags / 2 % 2)
		} else {
			s.Head.Flags &= 255 - 2
		}
		if !last {
			s.Head.Flags &= 255 - 1 - 8
		}
		l = append(l, s)
		if last {
			return l
		}
	}
}

// cuts holds Cut against what is wanted.
func cuts(t *testing.T, head api.Header, data string, mss int, want ...api.Segment) {
	t.Helper()
	if got := Cut(head, data, mss); !same(got, want) {
		t.Fatalf("Cut of %v, %d bytes, %d: got %d: %s, want %d: %s", head, len(data), mss, len(got), brief(got), len(want), brief(want))
	}
}

func TestCut(t *testing.T) {
	cuts(t, api.Header{Seq: 5}, "", 3, at(5, ""))
	cuts(t, api.Header{Seq: 5}, "a", 3, at(5, "a"))
	cuts(t, api.Header{Seq: 5}, "ab", 3, at(5, "ab"))
	cuts(t, api.Header{Seq: 5}, "abc", 3, at(5, "abc"))
	cuts(t, api.Header{Seq: 5}, "abcd", 3, at(5, "abc"), at(8, "d"))
	cuts(t, api.Header{Seq: 5}, "abcdef", 3, at(5, "abc"), at(8, "def"))
	cuts(t, api.Header{Seq: 5}, "abcdefg", 3, at(5, "abc"), at(8, "def"), at(11, "g"))
	cuts(t, api.Header{Seq: 5}, "\x00\xff\x80", 2, at(5, "\x00\xff"), at(7, "\x80"))
}

func TestCutOfMss(t *testing.T) {
	for _, mss := range []int{math.MinInt, math.MinInt + 1, -65000, -1, 0, 1} {
		cuts(t, api.Header{Seq: 5}, "abc", mss, at(5, "a"), at(6, "b"), at(7, "c"))
		cuts(t, api.Header{Seq: 5}, "", mss, at(5, ""))
	}
	cuts(t, api.Header{Seq: 5}, "abc", 2, at(5, "ab"), at(7, "c"))
	data := letters(130001)
	cuts(t, api.Header{Seq: 5}, data, 64999, at(5, data[:64999]), at(65004, data[64999:129998]), at(130003, data[129998:]))
	for _, mss := range []int{65000, 65001, 65535, 65536, 1 << 20, 1 << 32, math.MaxInt - 1, math.MaxInt} {
		cuts(t, api.Header{Seq: 5}, "abc", mss, at(5, "abc"))
		cuts(t, api.Header{Seq: 5}, data[:65000], mss, at(5, data[:65000]))
		cuts(t, api.Header{Seq: 5}, data[:65001], mss, at(5, data[:65000]), at(65005, data[65000:65001]))
		cuts(t, api.Header{Seq: 5}, data, mss, at(5, data[:65000]), at(65005, data[65000:130000]), at(130005, data[130000:]))
	}
}

func TestCutOfFlags(t *testing.T) {
	const syn, fin, psh, ack = flags.Syn, flags.Fin, flags.Psh, flags.Ackd
	for _, c := range []struct {
		flag, first, mid, last uint8
	}{
		{0, 0, 0, 0},
		{syn, syn, 0, 0},
		{fin, 0, 0, fin},
		{psh, 0, 0, psh},
		{syn | fin, syn, 0, fin},
		{syn | psh, syn, 0, psh},
		{fin | psh, 0, 0, fin | psh},
		{syn | fin | psh, syn, 0, fin | psh},
		{ack, ack, ack, ack},
		{63, 63 - fin - psh, 63 - syn - fin - psh, 63 - syn},
		{255, 255 - fin - psh, 255 - syn - fin - psh, 255 - syn}, // what is no flag stays
		{192, 192, 192, 192},
	} {
		h := api.Header{Seq: 7, Flags: c.flag}
		one := uint32(c.flag / 2 % 2)
		cuts(t, h, "", 2, with(c.flag, at(7, "")))
		cuts(t, h, "ab", 2, with(c.flag, at(7, "ab")))
		cuts(t, h, "abc", 2, with(c.first, at(7, "ab")), with(c.last, at(9+one, "c")))
		cuts(t, h, "abcde", 2, with(c.first, at(7, "ab")), with(c.mid, at(9+one, "cd")), with(c.last, at(11+one, "e")))
		cuts(t, h, "abcdefgh", 2, with(c.first, at(7, "ab")), with(c.mid, at(9+one, "cd")), with(c.mid, at(11+one, "ef")), with(c.last, at(13+one, "gh")))
	}
}

func TestCutAcrossTheGreatestSeq(t *testing.T) {
	const most = math.MaxUint32
	cuts(t, api.Header{Seq: most}, "abc", 1, at(most, "a"), at(0, "b"), at(1, "c"))
	cuts(t, api.Header{Seq: most - 1}, "abcd", 2, at(most-1, "ab"), at(0, "cd"))
	cuts(t, api.Header{Seq: most - 2}, "abcd", 2, at(most-2, "ab"), at(most, "cd"))
	cuts(t, api.Header{Seq: most, Flags: flags.Syn}, "abc", 2, with(flags.Syn, at(most, "ab")), at(2, "c"))
	cuts(t, api.Header{Seq: most - 2, Flags: flags.Syn}, "abc", 2, with(flags.Syn, at(most-2, "ab")), at(0, "c"))
}

func TestCutKeepsTheHeader(t *testing.T) {
	h := full()
	h.Off, h.Sum, h.Ace, h.Flags = 200, 0xABCD, 99, 0x51
	l := Cut(h, "abcdefg", 3)
	if len(l) != 3 {
		t.Fatal(l)
	}
	for i, s := range l {
		want := h
		want.Seq += uint32(3 * i)
		if i < 2 {
			want.Flags = 0x50
		}
		if s.Head != want || len(s.Opts) != 0 {
			t.Errorf("%d: got %v", i, s)
		}
	}
}

func TestCutOfLongData(t *testing.T) {
	data := letters(mebi + 70000)
	for _, n := range []int{mebi - 1, mebi, mebi + 1, mebi + 70000} {
		kept := data[:min(n, mebi)]
		for _, mss := range []int{1000, 1 << 12, 65000, math.MaxInt} {
			l := Cut(api.Header{Seq: 9, Flags: flags.Syn | flags.Fin | flags.Psh}, data[:n], mss)
			if want := modelCut(api.Header{Seq: 9, Flags: flags.Syn | flags.Fin | flags.Psh}, data[:n], mss); !same(l, want) {
				t.Fatalf("%d bytes, %d: got %d segments, want %d", n, mss, len(l), len(want))
			}
			var all strings.Builder
			for _, s := range l {
				all.WriteString(s.Data)
			}
			if all.String() != kept || l[len(l)-1].Head.Flags != flags.Fin|flags.Psh {
				t.Fatalf("%d bytes, %d: got %d", n, mss, all.Len())
			}
		}
	}
	if l := Cut(api.Header{}, data, 1); len(l) != mebi || l[mebi-1].Head.Seq != mebi-1 || l[mebi-1].Data != data[mebi-1:mebi] {
		t.Errorf("got %d segments", len(l))
	}
}

func TestCutIsTheModel(t *testing.T) {
	r := rand.New(rand.NewSource(6))
	for range 20000 {
		h := someSegment(r, 0).Head
		if r.Intn(2) == 0 {
			h.Seq = -uint32(r.Intn(50))
		}
		data, mss := letters(r.Intn(60)), r.Intn(25)-2
		l := Cut(h, data, mss)
		if want := modelCut(h, data, mss); !same(l, want) {
			t.Fatalf("Cut of %v, %q, %d: got %v, want %v", h, data, mss, l, want)
		}
		seq := h.Seq
		for _, s := range l {
			if s.Head.Seq != seq {
				t.Fatalf("Cut of %v, %q, %d: got %v", h, data, mss, l)
			}
			seq += uint32(Length(s))
		}
	}
}

func TestCutIsNewEachTime(t *testing.T) {
	first, second := Cut(full(), "abcdef", 2), Cut(full(), "abcdef", 2)
	want := clone(second)
	for i := range first {
		first[i].Data = "x"
		first[i].Opts = append(first[i].Opts, api.Option{Kind: 3})
		first[i].Head = api.Header{}
	}
	if third := Cut(full(), "abcdef", 2); !same(second, want) || !same(third, want) {
		t.Errorf("%v and %v, want %v", second, third, want)
	}
}

// P13.6

// modelGather is Gather as the chapter says it, byte by byte, where numbers are told apart by what lies between them.
func modelGather(l []api.Segment, seq uint32) (string, uint32, int) {
	var b []byte
	l = l[:min(len(l), 256)]
	begin := func(s api.Segment) int64 { // seen from what comes next
		return int64(int32(s.Head.Seq + uint32(s.Head.Flags/2%2) - seq - uint32(len(b))))
	}
	for before := -1; before < len(b); {
		before = len(b)
		for _, s := range l {
			from := begin(s)
			if from > 0 || from < -mebi {
				continue
			}
			for i := -from; i < int64(len(s.Data)) && len(b) < mebi; i++ {
				b = append(b, s.Data[i])
			}
		}
	}
	gaps := 0
	for _, s := range l {
		if from := begin(s); 0 < from && from <= mebi && len(s.Data) > 0 {
			gaps++
		}
	}
	return string(b), seq + uint32(len(b)), gaps
}

func TestGatherOfNone(t *testing.T) {
	for _, seq := range []uint32{0, 1, 1 << 31, math.MaxUint32} {
		gathers(t, nil, seq, "", seq, 0)
		gathers(t, list(), seq, "", seq, 0)
		gathers(t, list(api.Segment{}), seq, "", seq, 0)
	}
}

func TestGatherOfOne(t *testing.T) {
	for _, seq := range []uint32{0, 1, 100, 1 << 31, math.MaxUint32 - 1, math.MaxUint32} {
		gathers(t, list(at(seq, "abc")), seq, "abc", seq+3, 0)
		gathers(t, list(at(seq-1, "abc")), seq, "bc", seq+2, 0)
		gathers(t, list(at(seq-2, "abc")), seq, "c", seq+1, 0)
		gathers(t, list(at(seq-3, "abc")), seq, "", seq, 0) // it lies wholly ahead
		gathers(t, list(at(seq-4, "abc")), seq, "", seq, 0)
		gathers(t, list(at(seq-100, "abc")), seq, "", seq, 0)
		gathers(t, list(at(seq+1, "abc")), seq, "", seq, 1)
		gathers(t, list(at(seq+100, "abc")), seq, "", seq, 1)
		gathers(t, list(at(seq, "")), seq, "", seq, 0)
		gathers(t, list(at(seq-1, "")), seq, "", seq, 0)
		gathers(t, list(at(seq+1, "")), seq, "", seq, 0)
	}
}

func TestGatherOfOrders(t *testing.T) {
	a, b, c := at(10, "abc"), at(13, "def"), at(16, "gh")
	for _, l := range [][]api.Segment{
		{a, b, c}, {a, c, b}, {b, a, c}, {b, c, a}, {c, a, b}, {c, b, a},
		{a, a, b, b, c, c}, {c, b, a, c, b, a}, {a, b, c, a, b, c}, {c, c, c, b, b, a},
	} {
		gathers(t, l, 10, "abcdefgh", 18, 0)
		gathers(t, l, 11, "bcdefgh", 18, 0)
		gathers(t, l, 13, "defgh", 18, 0)
		gathers(t, l, 17, "h", 18, 0)
		gathers(t, l, 18, "", 18, 0)
		gathers(t, l, 19, "", 19, 0)
		gathers(t, l, 9, "", 9, len(l))
	}
	gathers(t, list(c, a), 10, "abc", 13, 1)
	gathers(t, list(a, c, c), 10, "abc", 13, 2) // each one counts
	gathers(t, list(c, b), 10, "", 10, 2)
	gathers(t, list(a, b), 10, "abcdef", 16, 0)
}

func TestGatherOfOverlaps(t *testing.T) {
	for _, l := range [][]api.Segment{
		{at(0, "abcd"), at(2, "cdef")},
		{at(2, "cdef"), at(0, "abcd")},
		{at(0, "abcdef"), at(0, "abcdef")},
		{at(0, "abcdef"), at(2, "cd")}, // one within another
		{at(2, "cd"), at(0, "abcdef")},
		{at(0, "ab"), at(0, "abcdef")},
		{at(0, "abcdef"), at(0, "ab")},
		{at(4, "ef"), at(0, "abcdef")},
		{at(0, "a"), at(0, "ab"), at(0, "abc"), at(0, "abcdef")},
		{at(5, "f"), at(4, "ef"), at(3, "def"), at(2, "cdef"), at(1, "bcdef"), at(0, "abcdef")},
		{at(5, "f"), at(4, "e"), at(3, "d"), at(2, "c"), at(1, "b"), at(0, "a")},
		{at(4, "ef"), at(3, "de"), at(2, "cd"), at(1, "bc"), at(0, "ab")},
		{at(math.MaxUint32, "zabc"), at(3, "def")},
		{at(3, "def"), at(math.MaxUint32-1, "yzabc")},
	} {
		gathers(t, l, 0, "abcdef", 6, 0)
	}
}

// Where segments tell different bytes of one number, who is asked first is seen.
func TestGatherGoesSegmentBySegment(t *testing.T) {
	gathers(t, list(at(0, "aaa"), at(0, "bbbb")), 0, "aaab", 4, 0) // what was gathered stays
	gathers(t, list(at(0, "bbbb"), at(0, "aaa")), 0, "bbbb", 4, 0)
	gathers(t, list(at(5, "xyz"), at(6, "12345")), 7, "z345", 11, 0)
	gathers(t, list(at(6, "12345"), at(5, "xyz")), 7, "2345", 11, 0)
	gathers(t, list(at(3, "xxx"), at(0, "aaa"), at(3, "yyy")), 0, "aaayyy", 6, 0) // all behind it are asked ahead of the first one
	gathers(t, list(at(3, "xxx"), at(3, "yyy"), at(0, "aaa")), 0, "aaaxxx", 6, 0) // and then the first one is
	gathers(t, list(at(6, "z"), at(3, "xxx"), at(0, "aaa"), at(6, "w")), 0, "aaaxxxw", 7, 0)
	gathers(t, list(at(0, "a"), at(2, "cc"), at(0, "bbb")), 0, "abbc", 4, 0)
}

func TestGatherOfSyn(t *testing.T) {
	syn := with(flags.Syn, at(10, "abc")) // it begins at 11
	gathers(t, list(syn), 11, "abc", 14, 0)
	gathers(t, list(syn), 12, "bc", 14, 0)
	gathers(t, list(syn), 13, "c", 14, 0)
	gathers(t, list(syn), 14, "", 14, 0)
	gathers(t, list(syn), 10, "", 10, 1)
	gathers(t, list(at(14, "de"), syn), 11, "abcde", 16, 0)
	gathers(t, list(with(flags.Syn, at(math.MaxUint32, "abc"))), 0, "abc", 3, 0)
	gathers(t, list(with(flags.Syn, at(math.MaxUint32-1, "abc"))), 0, "bc", 2, 0)
	gathers(t, list(with(flags.Syn, at(10, ""))), 10, "", 10, 0)
	gathers(t, list(with(flags.Syn, at(9, ""))), 10, "", 10, 0)
	for flag := range 256 { // no other flag moves it, Fin not what comes next either
		if flag&flags.Syn == 0 {
			gathers(t, list(with(uint8(flag), at(10, "abc"))), 10, "abc", 13, 0)
		} else {
			gathers(t, list(with(uint8(flag), at(10, "abc"))), 11, "abc", 14, 0)
		}
	}
}

func TestGatherAcrossTheGreatestSeq(t *testing.T) {
	const most = math.MaxUint32
	l := list(at(0, "de"), at(most-2, "abc"), at(2, "fg"))
	gathers(t, l, most-2, "abcdefg", 4, 0)
	gathers(t, l, most, "cdefg", 4, 0)
	gathers(t, l, 0, "defg", 4, 0)
	gathers(t, l, most-3, "", most-3, 3)
	gathers(t, list(at(most-1, "abcde")), 1, "de", 3, 0)
	gathers(t, list(at(most, "a")), most, "a", 0, 0)
	gathers(t, list(at(most, "a"), at(1, "c")), most, "a", 0, 1)
}

func TestGatherOfSegmentsFarBack(t *testing.T) {
	long := letters(mebi + 10)
	for _, seq := range []uint32{0, 77, mebi, math.MaxUint32, 1 << 31} {
		gathers(t, list(at(seq-mebi, long)), seq, long[mebi:], seq+10, 0)
		gathers(t, list(at(seq-mebi-1, long)), seq, "", seq, 0)
		gathers(t, list(at(seq-mebi+1, long)), seq, long[mebi-1:], seq+11, 0)
		gathers(t, list(with(flags.Syn, at(seq-mebi-1, long))), seq, long[mebi:], seq+10, 0)
		gathers(t, list(with(flags.Syn, at(seq-mebi-2, long))), seq, "", seq, 0)
		gathers(t, list(at(seq-mebi, long[:mebi])), seq, "", seq, 0)
		gathers(t, list(at(seq-mebi, long[:mebi+1])), seq, long[mebi:mebi+1], seq+1, 0)
		gathers(t, list(at(seq-mebi, long[:5])), seq, "", seq, 0)
		gathers(t, list(at(seq, "abc"), at(seq-mebi+3, long)), seq, "abc"+long[mebi:], seq+13, 0) // so far back from what was gathered
		gathers(t, list(at(seq, "abc"), at(seq-mebi+2, long)), seq, "abc", seq+3, 0)
		gathers(t, list(at(seq-mebi, long), at(seq, "abc")), seq, long[mebi:], seq+10, 0)
		gathers(t, list(at(seq+1<<31, "abc")), seq, "", seq, 0) // as far back as on
		gathers(t, list(at(seq+1<<31-1, "abc")), seq, "", seq, 0)
		gathers(t, list(at(seq+1<<31+1, "abc")), seq, "", seq, 0)
	}
}

func TestGatherOfGaps(t *testing.T) {
	for _, seq := range []uint32{0, 77, math.MaxUint32, math.MaxUint32 - mebi, 1 << 31} {
		gathers(t, list(at(seq+1, "a")), seq, "", seq, 1)
		gathers(t, list(at(seq+mebi, "a")), seq, "", seq, 1)
		gathers(t, list(at(seq+mebi+1, "a")), seq, "", seq, 0)
		gathers(t, list(with(flags.Syn, at(seq+mebi-1, "a"))), seq, "", seq, 1)
		gathers(t, list(with(flags.Syn, at(seq+mebi, "a"))), seq, "", seq, 0)
		gathers(t, list(with(flags.Syn, at(seq, "a"))), seq, "", seq, 1)
		gathers(t, list(at(seq, "abc"), at(seq+4, "e")), seq, "abc", seq+3, 1)
		gathers(t, list(at(seq, "abc"), at(seq+3+mebi, "e")), seq, "abc", seq+3, 1) // from what comes next, not from seq
		gathers(t, list(at(seq, "abc"), at(seq+4+mebi, "e")), seq, "abc", seq+3, 0)
		gathers(t, list(at(seq, "abc"), at(seq+4, ""), at(seq+4, "e"), at(seq+5, ""), with(flags.Fin, at(seq+6, ""))), seq, "abc", seq+3, 1)
		gathers(t, list(at(seq+1, ""), with(flags.Syn|flags.Fin, at(seq+1, ""))), seq, "", seq, 0)
		gathers(t, list(at(seq+2, "c"), at(seq+4, "e"), at(seq, "a"), at(seq+2, "c")), seq, "a", seq+1, 3)
		gathers(t, list(at(seq+2, "c"), at(seq+4, "e"), at(seq, "ab")), seq, "abc", seq+3, 1)
		gathers(t, list(at(seq+1, letters(2*mebi))), seq, "", seq, 1)
	}
}

func TestGatherOfManyBytes(t *testing.T) {
	data := letters(2 * mebi)
	for _, seq := range []uint32{0, math.MaxUint32 - 1000} {
		end := seq + mebi
		gathers(t, list(at(seq, data[:mebi-1])), seq, data[:mebi-1], end-1, 0)
		gathers(t, list(at(seq, data[:mebi])), seq, data[:mebi], end, 0)
		gathers(t, list(at(seq, data[:mebi+1])), seq, data[:mebi], end, 0)
		gathers(t, list(at(seq, data)), seq, data[:mebi], end, 0)
		gathers(t, list(at(seq, data), at(end, "abc")), seq, data[:mebi], end, 0) // it does not begin behind what comes next
		gathers(t, list(at(seq, data), at(end+1, "abc")), seq, data[:mebi], end, 1)
		gathers(t, list(at(seq, data[:mebi]), at(end, data[mebi:])), seq, data[:mebi], end, 0)
		gathers(t, list(at(end-1, data[mebi-1:]), at(seq, data[:mebi-1])), seq, data[:mebi], end, 0)
		gathers(t, list(at(seq-3, data)), seq, data[3:mebi+3], end, 0)
		var l []api.Segment
		for i := range 20 {
			l = append(l, at(seq+uint32(i)<<16, data[i<<16:(i+1)<<16]))
		}
		gathers(t, l, seq, data[:mebi], end, 3)
		slices.Reverse(l)
		gathers(t, l, seq, data[:mebi], end, 3)
		gathers(t, l[4:], seq, data[:mebi], end, 0)
		gathers(t, l[5:], seq, data[:15<<16], seq+15<<16, 0)
	}
}

func TestGatherOfManySegments(t *testing.T) {
	data := letters(300)
	var l []api.Segment
	for i := range 300 {
		l = append(l, at(uint32(i)-100, data[i:i+1]))
	}
	seq := uint32(math.MaxUint32 - 99)
	for _, n := range []int{255, 256} {
		gathers(t, l[:n], seq, data[:n], seq+uint32(n), 0)
		turned := slices.Clone(l[:n])
		slices.Reverse(turned)
		gathers(t, turned, seq, data[:n], seq+uint32(n), 0)
	}
	for _, n := range []int{257, 258, 300} {
		gathers(t, l[:n], seq, data[:256], seq+256, 0)
		turned := slices.Clone(l[:n])
		slices.Reverse(turned)
		gathers(t, turned, seq, "", seq, 256) // the first ones in it are looked at, and no others
	}
	none := slices.Repeat(list(at(seq-5, "")), 255)
	gathers(t, append(slices.Clone(none), at(seq, "abc")), seq, "abc", seq+3, 0)
	gathers(t, append(slices.Clone(none), at(seq+1, "abc")), seq, "", seq, 1)
	none = append(none, at(seq-5, ""))
	gathers(t, append(slices.Clone(none), at(seq, "abc")), seq, "", seq, 0)
	gathers(t, append(slices.Clone(none), at(seq+1, "abc")), seq, "", seq, 0)
	gathers(t, slices.Repeat(list(at(seq+1, "abc")), 300), seq, "", seq, 256)
	gathers(t, slices.Repeat(list(at(seq, "abc")), 100000), seq, "abc", seq+3, 0)
}

func TestGatherIsTheModel(t *testing.T) {
	r := rand.New(rand.NewSource(7))
	long := strings.Repeat("0123456789", 2*mebi/10)
	for range 50000 {
		seq := r.Uint32()
		if r.Intn(2) == 0 {
			seq = -uint32(r.Intn(40))
		}
		var l []api.Segment
		for range r.Intn(12) {
			data := make([]byte, r.Intn(8))
			r.Read(data) // of one number they tell different bytes
			s := with(uint8(r.Intn(256)), at(seq+uint32(r.Intn(40)-10), string(data)))
			if r.Intn(30) == 0 {
				s.Head.Seq += uint32([]int{mebi, -mebi, 1 << 31, mebi - 20, 20 - mebi}[r.Intn(5)])
			}
			if r.Intn(3000) == 0 {
				s.Data = long[:mebi+r.Intn(40)-20]
			}
			l = append(l, s)
		}
		was := clone(l)
		want, wantNext, wantGaps := modelGather(l, seq)
		gathers(t, l, seq, want, wantNext, wantGaps)
		if !same(l, was) {
			t.Fatalf("%v was %v", l, was)
		}
	}
}

// Of segments that are pieces of one stream, what is gathered is all up to the first byte that is missing.
func TestGatherIsAllUpToTheFirstGap(t *testing.T) {
	r := rand.New(rand.NewSource(8))
	stream := letters(200)
	for range 20000 {
		seq := r.Uint32()
		there := [201]bool{}
		var l []api.Segment
		for range r.Intn(40) {
			from := r.Intn(200)
			to := min(200, from+r.Intn(30))
			for i := from; i < to; i++ {
				there[i] = true
			}
			l = append(l, at(seq+uint32(from), stream[from:to]))
		}
		n := slices.Index(there[:], false)
		gaps := 0
		for _, s := range l {
			if int(s.Head.Seq-seq) > n && s.Data != "" {
				gaps++
			}
		}
		gathers(t, l, seq, stream[:n], seq+uint32(n), gaps)
	}
}

func TestGatherLeavesWhatCameIn(t *testing.T) {
	l := list(with(flags.Syn, at(2, "def")), at(0, "abc"), at(9, "xyz"))
	l[0].Opts = []api.Option{{Kind: option.Stamp, Nums: []uint32{1, 2}}}
	more := append(slices.Clone(l), at(6, "ghi"))
	was := clone(more)
	s, next, gaps := Gather(more[:3], 0)
	if !same(more, was) {
		t.Errorf("%v was %v", more, was)
	}
	more[0], more[1].Data = at(0, "x"), "y"
	if s != "abcdef" || next != 6 || gaps != 1 {
		t.Error(s, next, gaps)
	}
}

// P13.7

func TestWhatIsCutIsGatheredAgain(t *testing.T) {
	r := rand.New(rand.NewSource(9))
	for range 3000 {
		data, mss := letters(r.Intn(250)), 1+r.Intn(40)
		h := api.Header{Seq: r.Uint32(), Flags: uint8(r.Intn(64))}
		if r.Intn(2) == 0 {
			h.Seq = -uint32(r.Intn(250))
		}
		seq := h.Seq + uint32(h.Flags/2%2)
		end := seq + uint32(len(data))
		l := Cut(h, data, mss)
		gathers(t, l, seq, data, end, 0)
		turned := slices.Clone(l)
		slices.Reverse(turned)
		gathers(t, turned, seq, data, end, 0)
		mixed := slices.Clone(l)
		r.Shuffle(len(mixed), func(i, k int) { mixed[i], mixed[k] = mixed[k], mixed[i] })
		gathers(t, mixed, seq, data, end, 0)
		if len(l) <= 128 {
			double := slices.Concat(mixed, l)
			gathers(t, double, seq, data, end, 0)
			r.Shuffle(len(double), func(i, k int) { double[i], double[k] = double[k], double[i] })
			gathers(t, double, seq, data, end, 0)
		}
		if len(data) == 0 {
			continue
		}
		out := r.Intn(len(l))
		left := slices.Delete(slices.Clone(l), out, out+1)
		r.Shuffle(len(left), func(i, k int) { left[i], left[k] = left[k], left[i] })
		gathers(t, left, seq, data[:out*mss], seq+uint32(out*mss), len(l)-1-out)
	}
}

func TestWhatIsCutIsGatheredAgainAtTheLimits(t *testing.T) {
	data := letters(mebi)
	for _, c := range []struct {
		n, mss int
	}{{mebi, 1 << 12}, {mebi, 65000}, {256, 1}, {mebi - 1, 1 << 12}, {0, 1}, {1, 65000}} {
		h := api.Header{Seq: math.MaxUint32 - 5000, Flags: flags.Syn | flags.Fin}
		l := Cut(h, data[:c.n], c.mss)
		gathers(t, l, h.Seq+1, data[:c.n], h.Seq+1+uint32(c.n), 0)
		slices.Reverse(l)
		gathers(t, l, h.Seq+1, data[:c.n], h.Seq+1+uint32(c.n), 0)
	}
}

func TestWhatIsCutEncodedAndDecodedIsGathered(t *testing.T) {
	data := letters(5000)
	l := Cut(full(), data, 777)
	for i, s := range l {
		b, e := Encode(src, dst, s)
		if e != api.OK {
			t.Fatal(e)
		}
		if l[i], e = Decode(src, dst, b); e != api.OK {
			t.Fatal(e)
		}
	}
	slices.Reverse(l)
	gathers(t, l, full().Seq, data, full().Seq+5000, 0)
}

// P13.4

func TestWhatIsEncodedIsDecodedAsItWas(t *testing.T) {
	r := rand.New(rand.NewSource(10))
	taken := 0
	for range 30000 {
		from, to, s := someAddress(r), someAddress(r), someSegment(r, 60)
		b, e := Encode(from, to, s)
		if e != api.OK {
			continue
		}
		taken++
		got, e := Decode(from, to, b)
		opts, _ := option.Print(s.Opts)
		if int(got.Head.Off) != 5+len(opts)/4 || got.Head.Sum != binary.BigEndian.Uint16(b[16:]) {
			t.Fatalf("%v, encoded as % X: got %v", s, b, got)
		}
		got.Head.Off, got.Head.Sum = s.Head.Off, s.Head.Sum
		if e != api.OK || !same(list(got), list(s)) {
			t.Fatalf("%v, encoded as % X: got %v, %d", s, b, got, e)
		}
	}
	if taken < 5000 {
		t.Errorf("%d were encoded alone", taken)
	}
}

func TestWhatIsEncodedIsDecodedAtTheEdges(t *testing.T) {
	for _, c := range printed {
		for _, n := range []int{0, 1, 64999, 65000} {
			s := api.Segment{Head: full(), Opts: c.opts, Data: letters(n)}
			b, e := Encode(src, dst, s)
			if e != api.OK {
				t.Fatal(e)
			}
			got, e := Decode(src, dst, b)
			got.Head.Off, got.Head.Sum = 0, 0
			if e != api.OK || !same(list(got), list(s)) {
				t.Fatalf("%v, %d bytes: got %d", c.opts, n, e)
			}
		}
	}
}

// turnedIsRefused turns a bit of a segment's bytes, and turns it back.
func turnedIsRefused(t *testing.T, b []byte, bit int) {
	t.Helper()
	b[bit/8] ^= 1 << (bit % 8)
	if s, e := Decode(src, dst, b); e == api.OK || !same(list(s), list(api.Segment{})) {
		t.Fatalf("bit %d of % .100X turned: got %s, %d", bit, b, brief(s), e)
	}
	b[bit/8] ^= 1 << (bit % 8)
}

func TestASingleBitTurnedIsNeverDecoded(t *testing.T) {
	r := rand.New(rand.NewSource(11))
	segments := list(api.Segment{}, api.Segment{Head: full()}, api.Segment{Data: "a"}, api.Segment{Data: strings.Repeat("\xff", 33)})
	for _, c := range printed {
		segments = append(segments, api.Segment{Head: full(), Opts: c.opts, Data: "abc"}, api.Segment{Opts: c.opts})
	}
	for range 300 {
		segments = append(segments, someSegment(r, 40))
	}
	for x := 0; x < 65536; x += 61 { // of many a sum
		segments = append(segments, api.Segment{Head: api.Header{Win: uint16(x)}})
	}
	for _, s := range segments {
		b, e := Encode(src, dst, s)
		if e != api.OK {
			continue
		}
		for bit := range 8 * len(b) {
			turnedIsRefused(t, b, bit)
		}
	}
	b, _ := Encode(src, dst, api.Segment{Head: full(), Opts: []api.Option{{Kind: 99, Raw: letters(38)}}, Data: letters(65000)})
	for range 200 {
		turnedIsRefused(t, b, r.Intn(8*len(b)))
	}
	for bit := range 480 {
		turnedIsRefused(t, b, bit)
	}
}

func TestNothingPanicsOfAnyBytes(t *testing.T) {
	r := rand.New(rand.NewSource(12))
	for range 100000 {
		b := make([]byte, r.Intn(70))
		r.Read(b)
		if len(b) > 12 {
			b[12] &= 0xF1
		}
		if len(b) >= 20 && r.Intn(2) == 0 {
			b = summed(src, dst, b)
		}
		s, e := Decode(src, dst, b)
		want, wantErr := modelDecode(src, dst, b)
		if !same(list(s), list(want)) || e != wantErr {
			t.Fatalf("Decode of % X: got %v, %d, want %v, %d", b, s, e, want, wantErr)
		}
	}
}
