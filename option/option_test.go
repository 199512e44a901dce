package option

import (
	"bytes"
	"math"
	"math/rand"
	"slices"
	"strings"
	"testing"

	"leat/api"
)

// same tells whether options are alike, where a list without an element may be nil or empty.
func same(l, m []api.Option) bool {
	return slices.EqualFunc(l, m, func(o, p api.Option) bool {
		return o.Kind == p.Kind && slices.Equal(o.Nums, p.Nums) && o.Raw == p.Raw
	})
}

// clone is options that share nothing with those handed in.
func clone(l []api.Option) []api.Option {
	out := slices.Clone(l)
	for i := range out {
		out[i].Nums = slices.Clone(out[i].Nums)
	}
	return out
}

// lengths are the lengths that a Kind may have, as the chapter says it; nil of one that is not known.
func lengths(kind int) []int {
	return map[int][]int{2: {4}, 8: {10}, 172: {2, 5, 8, 11}, 174: {2, 5, 8, 11}}[kind]
}

// widths are the bytes of a known Kind's numbers.
func widths(kind int) int {
	return map[int]int{2: 2, 8: 4, 172: 3, 174: 3}[kind]
}

// modelParse is Parse as the chapter says it, over places of b.
func modelParse(b []byte) ([]api.Option, api.Errno) {
	if len(b) > 40 {
		return nil, api.ErrLong
	}
	var l []api.Option
	there := map[int]int{}
	for at := 0; at < len(b); {
		kind := int(b[at])
		if kind == 0 {
			if strings.Trim(string(b[at:]), "\x00") != "" {
				return nil, api.ErrForm
			}
			return l, api.OK
		}
		if kind == 1 {
			at++
			continue
		}
		if at+1 == len(b) {
			return nil, api.ErrShort
		}
		size := int(b[at+1])
		if size < 2 {
			return nil, api.ErrForm
		}
		if at+size > len(b) {
			return nil, api.ErrShort
		}
		o := api.Option{Kind: kind}
		if may := lengths(kind); may == nil {
			o.Raw = string(b[at+2 : at+size])
		} else {
			there[kind]++
			if !slices.Contains(may, size) || there[kind] > 1 {
				return nil, api.ErrForm
			}
			for i := at + 2; i < at+size; i += widths(kind) {
				n := 0
				for k := range widths(kind) {
					n = n*256 + int(b[i+k])
				}
				o.Nums = append(o.Nums, uint32(n))
			}
		}
		l = append(l, o)
		at += size
	}
	return l, api.OK
}

// modelPrint is Print as the chapter says it.
func modelPrint(l []api.Option) ([]byte, api.Errno) {
	var b []byte
	there := map[int]int{}
	for _, o := range l {
		if o.Kind < 2 || o.Kind > 255 {
			return nil, api.ErrRange
		}
		may, width := lengths(o.Kind), widths(o.Kind)
		if may == nil && len(o.Nums) != 0 {
			return nil, api.ErrRange
		}
		body := []byte(o.Raw)
		if may != nil {
			if !slices.Contains(may, 2+width*len(o.Nums)) || o.Raw != "" {
				return nil, api.ErrRange
			}
			for _, n := range o.Nums {
				low := make([]byte, width)
				left := uint64(n)
				for i := range low {
					low[width-1-i] = byte(left % 256)
					left /= 256
				}
				if left != 0 {
					return nil, api.ErrRange
				}
				body = append(body, low...)
			}
			there[o.Kind]++
			if there[o.Kind] > 1 {
				return nil, api.ErrForm
			}
		}
		b = append(b, byte(o.Kind), byte(2+len(body)))
		b = append(b, body...)
	}
	if len(b) > 40 {
		return nil, api.ErrLong
	}
	return append(b, make([]byte, (4-len(b)%4)%4)...), api.OK
}

// parses holds Parse of bytes against what is wanted.
func parses(t *testing.T, b []byte, want []api.Option, wantErr api.Errno) {
	t.Helper()
	if wantErr != api.OK {
		want = nil
	}
	if got, e := Parse(b); !same(got, want) || e != wantErr {
		t.Fatalf("Parse of % X: got %#v, %d, want %#v, %d", b, got, e, want, wantErr)
	}
}

// prints holds Print of options against what is wanted.
func prints(t *testing.T, l []api.Option, want string, wantErr api.Errno) {
	t.Helper()
	if got, e := Print(l); string(got) != want || e != wantErr {
		t.Fatalf("Print of %#v: got % X, %d, want % X, %d", l, got, e, want, wantErr)
	}
}

// nums is an option of numbers.
func nums(kind int, l ...uint32) api.Option {
	return api.Option{Kind: kind, Nums: l}
}

// raw is an option of bytes.
func raw(kind int, s string) api.Option {
	return api.Option{Kind: kind, Raw: s}
}

// list is as many options as one likes.
func list(l ...api.Option) []api.Option {
	return l
}

func TestTheKinds(t *testing.T) {
	if Mss != 2 || Stamp != 8 || Acc0 != 172 || Acc1 != 174 {
		t.Error(Mss, Stamp, Acc0, Acc1)
	}
}

// P12.1

func TestParseOfNothing(t *testing.T) {
	for _, b := range [][]byte{nil, {}, make([]byte, 0, 50)} {
		parses(t, b, nil, api.OK)
	}
}

func TestParseOfAtMostForty(t *testing.T) {
	for _, c := range []struct {
		b    []byte
		want []api.Option
		err  api.Errno
	}{
		{make([]byte, 40), nil, api.OK},
		{make([]byte, 41), nil, api.ErrLong},
		{bytes.Repeat([]byte{1}, 40), nil, api.OK},
		{bytes.Repeat([]byte{1}, 41), nil, api.ErrLong},
		{append([]byte{99, 40}, make([]byte, 38)...), list(raw(99, string(make([]byte, 38)))), api.OK},
		{append([]byte{99, 41}, make([]byte, 38)...), nil, api.ErrShort},
		{append([]byte{99, 41}, make([]byte, 39)...), nil, api.ErrLong},
		{append([]byte{2, 1}, make([]byte, 39)...), nil, api.ErrLong}, // wrong as well
		{append([]byte{0, 1}, make([]byte, 39)...), nil, api.ErrLong},
		{append(make([]byte, 40), 1), nil, api.ErrLong},
		{append(bytes.Repeat([]byte{1}, 40), 2), nil, api.ErrLong},
		{append(bytes.Repeat([]byte{1}, 39), 2), nil, api.ErrShort},
		{append([]byte{2, 255}, make([]byte, 39)...), nil, api.ErrLong},
		{bytes.Repeat([]byte{99, 2}, 20), slices.Repeat(list(raw(99, "")), 20), api.OK},
		{bytes.Repeat([]byte{99, 2}, 21), nil, api.ErrLong},
		{make([]byte, api.MaxSize), nil, api.ErrLong},
	} {
		parses(t, c.b, c.want, c.err)
	}
}

func TestParseOfAnEnd(t *testing.T) {
	for n := 1; n <= 40; n++ {
		parses(t, make([]byte, n), nil, api.OK)
		for at := 1; at < n; at++ {
			for _, x := range []byte{1, 2, 255} {
				b := make([]byte, n)
				b[at] = x
				parses(t, b, nil, api.ErrForm)
			}
		}
	}
	mss := list(nums(Mss, 1460))
	parses(t, []byte{2, 4, 5, 180, 0}, mss, api.OK)
	parses(t, []byte{2, 4, 5, 180, 0, 0, 0, 0}, mss, api.OK)
	parses(t, []byte{2, 4, 5, 180, 0, 2, 4, 5, 180}, nil, api.ErrForm)
	parses(t, []byte{2, 4, 5, 180, 0, 0, 0, 1}, nil, api.ErrForm)
	parses(t, []byte{0, 99}, nil, api.ErrForm) // not ErrShort: it is no option any more
	parses(t, []byte{1, 0}, nil, api.OK)
	parses(t, []byte{1, 0, 1}, nil, api.ErrForm)
}

func TestParseOfAnEndAheadOfEveryByte(t *testing.T) {
	for x := range 256 {
		want := api.ErrForm
		if x == 0 {
			want = api.OK
		}
		parses(t, []byte{0, byte(x)}, nil, want)
		parses(t, []byte{0, 0, byte(x), 0}, nil, want)
	}
}

func TestParsePassesOver(t *testing.T) {
	for n := 1; n <= 40; n++ {
		parses(t, bytes.Repeat([]byte{1}, n), nil, api.OK)
	}
	two := list(nums(Mss, 1460), raw(99, "x"))
	for _, b := range [][]byte{
		{2, 4, 5, 180, 99, 3, 'x'},
		{1, 2, 4, 5, 180, 99, 3, 'x'},
		{2, 4, 5, 180, 1, 99, 3, 'x'},
		{2, 4, 5, 180, 99, 3, 'x', 1},
		{1, 1, 2, 4, 5, 180, 1, 1, 1, 99, 3, 'x', 1, 1, 0, 0},
	} {
		parses(t, b, two, api.OK)
	}
	parses(t, []byte{99, 4, 1, 0}, list(raw(99, "\x01\x00")), api.OK) // within an option they mean nothing
	parses(t, []byte{2, 4, 0, 1}, list(nums(Mss, 1)), api.OK)
	parses(t, []byte{2, 4, 1, 0, 1}, list(nums(Mss, 256)), api.OK)
}

func TestParseOfLengths(t *testing.T) {
	for kind := 2; kind < 256; kind++ {
		for size := range 256 {
			for left := 1; left <= 40; left++ { // so many bytes are left, from the Kind on
				b := append([]byte{byte(kind), byte(size)}, bytes.Repeat([]byte{7}, 38)...)[:left]
				err := api.OK
				switch {
				case left < 2:
					err = api.ErrShort
				case size < 2:
					err = api.ErrForm
				case size > left:
					err = api.ErrShort
				case lengths(kind) != nil && !slices.Contains(lengths(kind), size):
					err = api.ErrForm
				case size == left:
					want := raw(kind, strings.Repeat("\x07", size-2))
					if width := widths(kind); width > 0 {
						n := []uint32{0, 0, 0x0707, 0x070707, 0x07070707}[width]
						want = nums(kind, slices.Repeat([]uint32{n}, (size-2)/width)...)
					}
					parses(t, b, list(want), api.OK)
					continue
				default:
					continue // what is behind it is held against the model elsewhere
				}
				parses(t, b, nil, err)
			}
		}
	}
}

func TestParseOfWrongLengths(t *testing.T) {
	for _, c := range []struct {
		b    []byte
		want api.Errno
	}{
		{[]byte{2}, api.ErrShort},
		{[]byte{99}, api.ErrShort},
		{[]byte{255}, api.ErrShort},
		{[]byte{1, 99}, api.ErrShort},
		{[]byte{99, 2, 99}, api.ErrShort},
		{[]byte{99, 0}, api.ErrForm},
		{[]byte{99, 1}, api.ErrForm},
		{[]byte{99, 0, 0, 0}, api.ErrForm},
		{[]byte{2, 0, 5, 180}, api.ErrForm},
		{[]byte{2, 1, 5, 180}, api.ErrForm},
		{[]byte{2, 2, 5, 180}, api.ErrForm},
		{[]byte{2, 5, 5, 180}, api.ErrShort}, // wrong for its Kind as well
		{[]byte{2, 5, 5, 180, 0}, api.ErrForm},
		{[]byte{99, 3}, api.ErrShort},
		{[]byte{99, 255}, api.ErrShort},
		{[]byte{8, 10, 0, 0, 0, 1, 0, 0, 0}, api.ErrShort},
		{[]byte{172, 5, 0, 0}, api.ErrShort},
		{[]byte{174, 255, 0, 0}, api.ErrShort},
	} {
		parses(t, c.b, nil, c.want)
		parses(t, append([]byte{98, 3, 0, 1}, c.b...), nil, c.want) // nothing is told of what came ahead
	}
}

func TestParseOfKindsThatWereThere(t *testing.T) {
	mss, stamp := []byte{2, 4, 5, 180}, []byte{8, 10, 0, 0, 0, 1, 0, 0, 0, 2}
	bare0, bare1 := []byte{172, 2}, []byte{174, 2}
	one0, one1 := []byte{172, 5, 0, 0, 1}, []byte{174, 5, 0, 0, 1}
	for _, c := range []struct {
		parts [][]byte
		want  []api.Option
		err   api.Errno
	}{
		{[][]byte{mss, mss}, nil, api.ErrForm},
		{[][]byte{stamp, stamp}, nil, api.ErrForm},
		{[][]byte{bare0, bare0}, nil, api.ErrForm},
		{[][]byte{bare1, bare1}, nil, api.ErrForm},
		{[][]byte{bare0, one0}, nil, api.ErrForm}, // of another length
		{[][]byte{one1, bare1}, nil, api.ErrForm},
		{[][]byte{mss, {1}, mss}, nil, api.ErrForm},
		{[][]byte{mss, stamp, mss}, nil, api.ErrForm},
		{[][]byte{mss, {99, 2}, mss}, nil, api.ErrForm},
		{[][]byte{mss, {2, 4, 5}}, nil, api.ErrShort}, // too short as well
		{[][]byte{mss, {2, 3, 5}}, nil, api.ErrForm},
		{[][]byte{mss, {2}}, nil, api.ErrShort},
		{[][]byte{mss, {0}, mss}, nil, api.ErrForm},
		{[][]byte{mss, mss, {99}}, nil, api.ErrForm}, // the first one that is wrong is told
		{[][]byte{mss, {99, 1}, mss}, nil, api.ErrForm},
		{[][]byte{mss, stamp}, list(nums(Mss, 1460), nums(Stamp, 1, 2)), api.OK},
		{[][]byte{stamp, mss}, list(nums(Stamp, 1, 2), nums(Mss, 1460)), api.OK},
		{[][]byte{bare0, bare1}, list(nums(Acc0), nums(Acc1)), api.OK},
		{[][]byte{one1, one0, mss, stamp}, list(nums(Acc1, 1), nums(Acc0, 1), nums(Mss, 1460), nums(Stamp, 1, 2)), api.OK},
		{[][]byte{{99, 2}, {99, 2}}, list(raw(99, ""), raw(99, "")), api.OK},
		{[][]byte{{99, 3, 7}, {99, 4, 8, 9}, {99, 3, 7}}, list(raw(99, "\x07"), raw(99, "\x08\x09"), raw(99, "\x07")), api.OK},
		{[][]byte{{99, 4, 2, 4}, mss}, list(raw(99, "\x02\x04"), nums(Mss, 1460)), api.OK}, // a Kind within another's bytes is none
	} {
		parses(t, bytes.Join(c.parts, nil), c.want, c.err)
	}
}

func TestParseOfEveryKindTwice(t *testing.T) {
	for kind := 2; kind < 256; kind++ {
		once := []byte{byte(kind), 2}
		if may := lengths(kind); may != nil {
			once = append([]byte{byte(kind), byte(may[0])}, make([]byte, may[0]-2)...)
		}
		twice := slices.Concat(once, once)
		l, e := Parse(twice)
		if known := lengths(kind) != nil; known && (e != api.ErrForm || len(l) != 0) || !known && (e != api.OK || len(l) != 2) {
			t.Errorf("% X: got %v, %d", twice, l, e)
		}
	}
}

func TestParseOfNumbers(t *testing.T) {
	for _, c := range []struct {
		b    []byte
		want api.Option
	}{
		{[]byte{2, 4, 0x12, 0x34}, nums(Mss, 0x1234)},
		{[]byte{2, 4, 255, 255}, nums(Mss, 65535)},
		{[]byte{2, 4, 0, 0}, nums(Mss, 0)},
		{[]byte{8, 10, 0x12, 0x34, 0x56, 0x78, 0x9A, 0xBC, 0xDE, 0xF0}, nums(Stamp, 0x12345678, 0x9ABCDEF0)},
		{[]byte{8, 10, 255, 255, 255, 255, 255, 255, 255, 255}, nums(Stamp, math.MaxUint32, math.MaxUint32)},
		{[]byte{8, 10, 0, 0, 0, 0, 255, 255, 255, 255}, nums(Stamp, 0, math.MaxUint32)},
		{[]byte{172, 2}, nums(Acc0)},
		{[]byte{172, 5, 0x12, 0x34, 0x56}, nums(Acc0, 0x123456)},
		{[]byte{174, 8, 0x12, 0x34, 0x56, 0x78, 0x9A, 0xBC}, nums(Acc1, 0x123456, 0x789ABC)},
		{[]byte{172, 11, 1, 2, 3, 4, 5, 6, 7, 8, 9}, nums(Acc0, 0x010203, 0x040506, 0x070809)},
		{[]byte{174, 11, 255, 255, 255, 255, 255, 255, 255, 255, 255}, nums(Acc1, 1<<24-1, 1<<24-1, 1<<24-1)},
	} {
		parses(t, c.b, list(c.want), api.OK)
	}
}

func TestParseOfOtherKinds(t *testing.T) {
	for kind := 2; kind < 256; kind++ {
		if lengths(kind) != nil {
			continue
		}
		for _, s := range []string{"", "a", "\x00", "\x01", "ab\xff\xfe\x00", "\x02\x04\x05\xb4", strings.Repeat("\x80", 38)} {
			parses(t, append([]byte{byte(kind), byte(2 + len(s))}, s...), list(raw(kind, s)), api.OK)
		}
	}
}

func TestParseOfEveryFewBytes(t *testing.T) {
	letters := []byte{0, 1, 2, 3, 4, 5, 8, 99, 172, 174}
	var each func(b []byte)
	each = func(b []byte) {
		want, wantErr := modelParse(b)
		if got, e := Parse(b); !same(got, want) || e != wantErr {
			t.Fatalf("Parse of % X: got %v, %d, want %v, %d", b, got, e, want, wantErr)
		}
		if len(b) == 5 {
			return
		}
		for _, x := range letters {
			each(append(slices.Clone(b), x))
		}
	}
	each(nil)
}

// piece is bytes of an option or nearly so, by chance.
func piece(r *rand.Rand) []byte {
	kind := []int{0, 1, 1, 2, 8, 172, 174, 99, 255, r.Intn(256)}[r.Intn(10)]
	if kind < 2 {
		return []byte{byte(kind)}
	}
	size := 2 + r.Intn(12)
	if may := lengths(kind); may != nil && r.Intn(8) > 0 {
		size = may[r.Intn(len(may))]
	}
	b := append([]byte{byte(kind), byte(size)}, make([]byte, size-2)...)
	for i := 2; i < size; i++ {
		b[i] = byte(r.Intn(256))
	}
	switch r.Intn(30) {
	case 0:
		b[1] = byte(r.Intn(256))
	case 1:
		b = b[:1+r.Intn(size-1)]
	}
	return b
}

func TestParseIsTheModel(t *testing.T) {
	r := rand.New(rand.NewSource(1))
	told := map[api.Errno]int{}
	for range 100000 {
		var b []byte
		for range r.Intn(7) {
			b = append(b, piece(r)...)
		}
		want, wantErr := modelParse(b)
		told[wantErr]++
		got, e := Parse(b)
		if !same(got, want) || e != wantErr {
			t.Fatalf("Parse of % X: got %v, %d, want %v, %d", b, got, e, want, wantErr)
		}
	}
	for _, e := range []api.Errno{api.OK, api.ErrLong, api.ErrForm, api.ErrShort} {
		if told[e] < 1000 {
			t.Errorf("%d is told %d times alone", e, told[e])
		}
	}
}

func TestParseLeavesWhatCameIn(t *testing.T) {
	r := rand.New(rand.NewSource(2))
	for range 5000 {
		b := slices.Concat(piece(r), piece(r), piece(r))
		room := append(slices.Clone(b), 9, 9, 9)
		was := slices.Clone(room)
		l, _ := Parse(room[:len(b)])
		if !bytes.Equal(room, was) {
			t.Fatalf("% X was % X", room, was)
		}
		want := clone(l)
		for i := range room {
			room[i] = 0x55
		}
		if !same(l, want) {
			t.Fatalf("what was told changed with what came in: %v was %v", l, want)
		}
	}
}

func TestParsedOptionsShareNothing(t *testing.T) {
	b := []byte{172, 8, 0, 0, 1, 0, 0, 2, 174, 8, 0, 0, 3, 0, 0, 4, 8, 10, 0, 0, 0, 5, 0, 0, 0, 6}
	want := list(nums(Acc0, 1, 2), nums(Acc1, 3, 4), nums(Stamp, 5, 6))
	for i := range want {
		l, _ := Parse(b)
		other, _ := Parse(b)
		l[i].Nums[0], l[i].Nums[1] = 77, 78
		_ = append(l[i].Nums, 79)
		rest := slices.Delete(slices.Clone(l), i, i+1)
		if !same(rest, slices.Delete(slices.Clone(want), i, i+1)) || !same(other, want) {
			t.Errorf("%d: %v, %v", i, rest, other)
		}
	}
}

// P12.2

func TestTheExampleOfTheChapter(t *testing.T) {
	prints(t, list(Acc(Acc0, 1, 0, 1, 3)), "\xAC\x0B\x00\x00\x01\x00\x00\x00\x00\x00\x01\x00", api.OK)
}

func TestPrintOfPlainOptions(t *testing.T) {
	for _, c := range []struct {
		l    []api.Option
		want string
	}{
		{nil, ""},
		{list(), ""},
		{list(nums(Mss, 1460)), "\x02\x04\x05\xb4"},
		{list(nums(Mss, 0)), "\x02\x04\x00\x00"},
		{list(nums(Stamp, 0x12345678, 0x9ABCDEF0)), "\x08\x0a\x12\x34\x56\x78\x9a\xbc\xde\xf0\x00\x00"},
		{list(nums(Acc0)), "\xac\x02\x00\x00"},
		{list(nums(Acc1, 0x123456)), "\xae\x05\x12\x34\x56\x00\x00\x00"},
		{list(nums(Acc0, 0x123456, 0x789ABC)), "\xac\x08\x12\x34\x56\x78\x9a\xbc"},
		{list(nums(Acc1, 1, 2, 3)), "\xae\x0b\x00\x00\x01\x00\x00\x02\x00\x00\x03\x00"},
		{list(raw(99, "")), "\x63\x02\x00\x00"},
		{list(raw(255, "abc")), "\xff\x05abc\x00\x00\x00"},
		{list(raw(99, "\x00\x01\x80\xff\xfe\xc3")), "\x63\x08\x00\x01\x80\xff\xfe\xc3"},
		{list(api.Option{Kind: 99, Nums: []uint32{}}), "\x63\x02\x00\x00"},
		{list(raw(99, "a"), raw(99, "a")), "\x63\x03a\x63\x03a\x00\x00"},
		{list(nums(Stamp, 1, 2), nums(Mss, 3)), "\x08\x0a\x00\x00\x00\x01\x00\x00\x00\x02\x02\x04\x00\x03\x00\x00"},
		{list(nums(Acc0), nums(Acc1)), "\xac\x02\xae\x02"},
	} {
		prints(t, c.l, c.want, api.OK)
	}
}

func TestPrintOfEveryKind(t *testing.T) {
	for _, kind := range []int{math.MinInt64, math.MinInt32, -256, -254, -172, -2, -1, 0, 1, 256, 257, 258, 264, 428, 430, 511, 65538, 1<<32 + 2, math.MaxInt32, math.MaxInt64} {
		prints(t, list(api.Option{Kind: kind}), "", api.ErrRange)
		prints(t, list(nums(kind, 1)), "", api.ErrRange)
		prints(t, list(nums(kind, 1, 2)), "", api.ErrRange)
		prints(t, list(raw(kind, "a")), "", api.ErrRange)
	}
	for kind := 2; kind < 256; kind++ {
		want, err := string([]byte{byte(kind), 2, 0, 0}), api.OK
		if kind == Mss || kind == Stamp {
			want, err = "", api.ErrRange
		}
		prints(t, list(api.Option{Kind: kind}), want, err)
	}
}

func TestPrintOfSoManyNumbers(t *testing.T) {
	for _, c := range []struct{ kind, least, most int }{{Mss, 1, 1}, {Stamp, 2, 2}, {Acc0, 0, 3}, {Acc1, 0, 3}, {99, 0, 0}, {3, 0, 0}, {255, 0, 0}, {173, 0, 0}} {
		for many := range 12 {
			want := api.ErrRange
			if c.least <= many && many <= c.most {
				want = api.OK
			}
			b, e := Print(list(nums(c.kind, make([]uint32, many)...)))
			if e != want || (e == api.OK) != (len(b) > 0) {
				t.Errorf("Kind %d, %d numbers: got % X, %d", c.kind, many, b, e)
			}
		}
		if b, e := Print(list(nums(c.kind, make([]uint32, 100000)...))); e != api.ErrRange || len(b) != 0 {
			t.Errorf("Kind %d, many numbers: got % X, %d", c.kind, b, e)
		}
	}
}

func TestPrintOfGreatNumbers(t *testing.T) {
	prints(t, list(nums(Mss, 65535)), "\x02\x04\xff\xff", api.OK)
	prints(t, list(nums(Mss, 65536)), "", api.ErrRange)
	prints(t, list(nums(Mss, math.MaxUint32)), "", api.ErrRange)
	prints(t, list(nums(Stamp, math.MaxUint32, math.MaxUint32)), "\x08\x0a\xff\xff\xff\xff\xff\xff\xff\xff\x00\x00", api.OK)
	for _, kind := range []int{Acc0, Acc1} {
		for many := 1; many <= 3; many++ {
			for at := range many {
				l := make([]uint32, many)
				l[at] = 1<<24 - 1
				want := append([]byte{byte(kind), byte(2 + 3*many)}, make([]byte, 3*many)...)
				copy(want[2+3*at:], "\xff\xff\xff")
				want = append(want, make([]byte, (4-len(want)%4)%4)...)
				prints(t, list(nums(kind, l...)), string(want), api.OK)
				for _, great := range []uint32{1 << 24, 1<<24 + 1, 1 << 31, math.MaxUint32} {
					l[at] = great
					prints(t, list(nums(kind, l...)), "", api.ErrRange)
				}
			}
		}
	}
}

func TestPrintOfRaw(t *testing.T) {
	for _, o := range []api.Option{nums(Mss, 1), nums(Stamp, 1, 2), nums(Acc0), nums(Acc0, 1), nums(Acc1), nums(Acc1, 1, 2, 3)} {
		if _, e := Print(list(o)); e != api.OK {
			t.Errorf("%v: got %d", o, e)
		}
		for _, s := range []string{"\x00", "a", "abc", strings.Repeat("a", 300)} {
			o.Raw = s
			prints(t, list(o), "", api.ErrRange)
		}
	}
	prints(t, list(raw(Mss, "\x05\xb4")), "", api.ErrRange) // its bytes are no numbers
	prints(t, list(raw(Acc0, "\x00\x00\x01")), "", api.ErrRange)
	prints(t, list(api.Option{Kind: 99, Nums: []uint32{1}, Raw: "a"}), "", api.ErrRange)
	for x := range 256 {
		s := string([]byte{byte(x), 0})
		prints(t, list(raw(99, s)), "\x63\x04"+s, api.OK)
	}
}

func TestPrintOfKindsThatWereThere(t *testing.T) {
	for _, l := range [][]api.Option{
		list(nums(Mss, 1), nums(Mss, 1)),
		list(nums(Mss, 1), nums(Mss, 2)),
		list(nums(Stamp, 1, 2), nums(Stamp, 3, 4)),
		list(nums(Acc0), nums(Acc0)),
		list(nums(Acc1, 1), nums(Acc1)),
		list(nums(Acc0), nums(Acc1), nums(Acc0, 1)),
		list(nums(Mss, 1), raw(99, "a"), raw(99, "a"), nums(Mss, 1)),
	} {
		prints(t, l, "", api.ErrForm)
	}
	for kind := 2; kind < 256; kind++ {
		if lengths(kind) == nil {
			prints(t, list(raw(kind, ""), raw(kind, "")), string([]byte{byte(kind), 2, byte(kind), 2}), api.OK)
		}
	}
}

func TestPrintTellsWhatIsMetFirst(t *testing.T) {
	long := raw(99, strings.Repeat("a", 39))
	mss, wrong, none := nums(Mss, 1), nums(Mss, 1<<16), api.Option{Kind: 1}
	for _, c := range []struct {
		l    []api.Option
		want api.Errno
	}{
		{list(mss, mss, none), api.ErrForm},                        // the earlier one was there, the later one is out of range
		{list(mss, none, mss), api.ErrRange},                       // the other way round
		{list(mss, wrong), api.ErrRange},                           // both of one option
		{list(mss, nums(Mss)), api.ErrRange},                       // it has too few, and was there
		{list(mss, api.Option{Kind: Mss, Raw: "a"}), api.ErrRange}, // it has Raw, and was there
		{list(none, mss, mss), api.ErrRange},                       // the earlier one is out of range
		{list(nums(99, 1), mss, mss), api.ErrRange},
		{list(mss, mss, nums(99, 1)), api.ErrForm},
		{list(long, none), api.ErrRange}, // how long all are is told last
		{list(long, mss, mss), api.ErrForm},
		{list(long, mss, wrong), api.ErrRange},
		{list(long, long, long), api.ErrLong},
		{list(mss, wrong, long, none), api.ErrRange},
		{list(wrong, wrong), api.ErrRange},
		{list(wrong, mss, mss), api.ErrRange},
		{list(raw(99, strings.Repeat("a", 1<<20)), mss), api.ErrLong}, // beyond what a byte tells
		{list(raw(99, strings.Repeat("a", 254))), api.ErrLong},
		{list(raw(99, strings.Repeat("a", 1<<16)), none), api.ErrRange},
		{append(slices.Repeat(list(raw(99, "")), 100000), none), api.ErrRange},
		{append(slices.Repeat(list(raw(99, "")), 100000), mss, mss), api.ErrForm},
		{slices.Repeat(list(raw(99, "")), 100000), api.ErrLong},
	} {
		if b, e := Print(c.l); e != c.want || len(b) != 0 {
			t.Errorf("%d options: got % X, %d, want %d", len(c.l), b, e, c.want)
		}
	}
}

func TestPrintOfAtMostForty(t *testing.T) {
	for n := range 300 {
		s := strings.Repeat("a", n)
		want, err := "", api.ErrLong
		if n <= 38 {
			want, err = "\x63"+string([]byte{byte(n + 2)})+s+strings.Repeat("\x00", (4-(n+2)%4)%4), api.OK
		}
		prints(t, list(raw(99, s)), want, err)
	}
	all := list(nums(Mss, 1), nums(Stamp, 2, 3), nums(Acc0, 4, 5, 6), nums(Acc1, 7, 8, 9)) // 36 bytes
	for n := range 5 {
		b, e := Print(append(clone(all), raw(99, strings.Repeat("a", n))))
		if n <= 2 && (e != api.OK || len(b) != 40) || n > 2 && (e != api.ErrLong || len(b) != 0) {
			t.Errorf("%d bytes: got % X, %d", 38+n, b, e)
		}
	}
	prints(t, slices.Repeat(list(raw(99, "")), 20), strings.Repeat("\x63\x02", 20), api.OK)
	prints(t, slices.Repeat(list(raw(99, "")), 21), "", api.ErrLong)
	prints(t, append(slices.Repeat(list(raw(99, "")), 19), raw(99, "a")), "", api.ErrLong)
}

func TestPrintFillsUpToFour(t *testing.T) {
	for n, want := range []string{"\x63\x02\x00\x00", "\x63\x03a\x00", "\x63\x04aa", "\x63\x05aaa\x00\x00\x00", "\x63\x06aaaa\x00\x00"} {
		prints(t, list(raw(99, strings.Repeat("a", n))), want, api.OK)
	}
}

// some is options by chance, some of them wrong in some way if that is wanted.
func some(r *rand.Rand, wrong int) []api.Option {
	var l []api.Option
	for range r.Intn(6) {
		o := api.Option{Kind: []int{Mss, Stamp, Acc0, Acc1, 99, 2 + r.Intn(254)}[r.Intn(6)]}
		if may := lengths(o.Kind); may != nil {
			width := widths(o.Kind)
			for range (may[r.Intn(len(may))] - 2) / width {
				o.Nums = append(o.Nums, r.Uint32()>>(32-8*width))
			}
		} else {
			s := make([]byte, r.Intn(14))
			r.Read(s)
			o.Raw = string(s)
		}
		if r.Intn(100) < wrong {
			switch r.Intn(5) {
			case 0:
				o.Kind = []int{-1, 0, 1, 256, 258, math.MinInt64, math.MaxInt64}[r.Intn(7)]
			case 1:
				o.Nums = append(o.Nums, 1)
			case 2:
				o.Raw += "a"
			case 3:
				o.Nums = o.Nums[:len(o.Nums)/2]
			case 4:
				for i := range o.Nums {
					o.Nums[i] = r.Uint32() >> r.Intn(20)
				}
			}
		}
		l = append(l, o)
	}
	return l
}

func TestPrintIsTheModel(t *testing.T) {
	r := rand.New(rand.NewSource(3))
	told := map[api.Errno]int{}
	for range 100000 {
		l := some(r, 10)
		was := clone(l)
		want, wantErr := modelPrint(l)
		told[wantErr]++
		got, e := Print(l)
		if !bytes.Equal(got, want) || e != wantErr {
			t.Fatalf("Print of %v: got % X, %d, want % X, %d", l, got, e, want, wantErr)
		}
		if !same(l, was) {
			t.Fatalf("%v was %v", l, was)
		}
	}
	for _, e := range []api.Errno{api.OK, api.ErrLong, api.ErrForm, api.ErrRange} {
		if told[e] < 1000 {
			t.Errorf("%d is told %d times alone", e, told[e])
		}
	}
}

func TestPrintIsNewEachTime(t *testing.T) {
	l := list(nums(Mss, 1460), raw(99, "abc"), nums(Acc0, 1, 2, 3))
	first, _ := Print(l)
	second, _ := Print(l)
	want := slices.Clone(second)
	for i := range first {
		first[i] = 99
	}
	_ = append(first, 99)
	l[0].Nums[0], l[1].Raw, l[2] = 99, "x", raw(98, "")
	if !bytes.Equal(second, want) {
		t.Errorf("% X was % X", second, want)
	}
}

// P12.3

func TestFind(t *testing.T) {
	l := list(nums(Mss, 1460), raw(99, "first"), nums(Acc1, 1, 2), raw(99, "second"), nums(Acc1, 3), nums(-5, 6), raw(0, "none"), nums(1000))
	for _, c := range []struct {
		kind int
		want api.Option
		is   bool
	}{
		{Mss, nums(Mss, 1460), true},
		{99, raw(99, "first"), true},
		{Acc1, nums(Acc1, 1, 2), true},
		{Acc0, api.Option{}, false},
		{Stamp, api.Option{}, false},
		{-5, nums(-5, 6), true}, // whatever its Kind
		{0, raw(0, "none"), true},
		{1000, nums(1000), true},
		{1, api.Option{}, false},
		{Mss + 256, api.Option{}, false},
		{-1, api.Option{}, false},
		{math.MinInt64, api.Option{}, false},
		{math.MaxInt64, api.Option{}, false},
	} {
		got, is := Find(l, c.kind)
		if !same(list(got), list(c.want)) || is != c.is {
			t.Errorf("Find of %d: got %v, %v", c.kind, got, is)
		}
	}
}

func TestFindOfNone(t *testing.T) {
	for _, l := range [][]api.Option{nil, {}, list(nums(Mss, 1))} {
		for _, kind := range []int{0, Stamp, 255, -1} {
			if got, is := Find(l, kind); is || !same(list(got), list(api.Option{})) {
				t.Errorf("Find in %v of %d: got %v, %v", l, kind, got, is)
			}
		}
	}
}

func TestFindTellsTheFirstOneAlone(t *testing.T) {
	r := rand.New(rand.NewSource(4))
	for range 5000 {
		l := some(r, 10)
		for kind := -1; kind <= 256; kind++ {
			want, wantIs := api.Option{}, false
			for i := len(l) - 1; i >= 0; i-- {
				if l[i].Kind == kind {
					want, wantIs = l[i], true
				}
			}
			if got, is := Find(l, kind); is != wantIs || !same(list(got), list(want)) {
				t.Fatalf("Find in %v of %d: got %v, %v", l, kind, got, is)
			}
		}
	}
}

func TestFindSharesNothing(t *testing.T) {
	l := list(nums(Mss, 1460), nums(Acc0, 1, 2, 3))
	was := clone(l)
	got, _ := Find(l, Acc0)
	got.Nums[0] = 77
	_ = append(got.Nums[:1], 78)
	if !same(l, was) {
		t.Errorf("%v was %v", l, was)
	}
	got, _ = Find(l, Acc0)
	l[1].Nums[2] = 79
	l[1].Kind = 5
	if !same(list(got), list(nums(Acc0, 1, 2, 3))) {
		t.Errorf("what was told changed with what came in: %v", got)
	}
}

// P12.4

func TestCounters(t *testing.T) {
	for _, c := range []struct {
		o    api.Option
		want [3]int64
	}{
		{nums(Acc0), [3]int64{-1, -1, -1}},
		{nums(Acc0, 5), [3]int64{5, -1, -1}},
		{nums(Acc0, 5, 6), [3]int64{5, 6, -1}},
		{nums(Acc0, 5, 6, 7), [3]int64{5, 6, 7}},
		{nums(Acc0, 5, 6, 7, 8), [3]int64{5, 6, 7}},
		{nums(Acc0, 5, 6, 7, 8, 9, 10), [3]int64{5, 6, 7}},
		{nums(Acc1), [3]int64{-1, -1, -1}},
		{nums(Acc1, 5), [3]int64{-1, -1, 5}},
		{nums(Acc1, 5, 6), [3]int64{-1, 6, 5}},
		{nums(Acc1, 5, 6, 7), [3]int64{7, 6, 5}},
		{nums(Acc1, 5, 6, 7, 8), [3]int64{7, 6, 5}},
		{nums(Acc1, make([]uint32, 1000)...), [3]int64{0, 0, 0}},
		{nums(Acc0, 0, 1<<24-1, 1<<24), [3]int64{0, 1<<24 - 1, 1 << 24}}, // as they were told
		{nums(Acc1, math.MaxUint32, 1<<31, 0), [3]int64{0, 1 << 31, math.MaxUint32}},
		{api.Option{Kind: Acc0, Nums: []uint32{5}, Raw: "abc"}, [3]int64{5, -1, -1}},
		{api.Option{}, [3]int64{-1, -1, -1}},
		{nums(Mss, 5), [3]int64{-1, -1, -1}},
		{nums(Stamp, 5, 6), [3]int64{-1, -1, -1}},
		{nums(173, 5, 6, 7), [3]int64{-1, -1, -1}},
		{nums(99, 5, 6, 7), [3]int64{-1, -1, -1}},
		{nums(0, 5, 6, 7), [3]int64{-1, -1, -1}},
		{nums(-172, 5, 6, 7), [3]int64{-1, -1, -1}},
		{nums(Acc0+256, 5, 6, 7), [3]int64{-1, -1, -1}},
		{nums(Acc1+1<<32, 5, 6, 7), [3]int64{-1, -1, -1}},
		{nums(math.MinInt64, 5, 6, 7), [3]int64{-1, -1, -1}},
		{nums(math.MaxInt64, 5, 6, 7), [3]int64{-1, -1, -1}},
		{raw(99, "\x00\x00\x01"), [3]int64{-1, -1, -1}},
	} {
		was := clone(list(c.o))
		if got := Counters(c.o); got != c.want {
			t.Errorf("Counters of %v: got %v, want %v", c.o, got, c.want)
		}
		if !same(list(c.o), was) {
			t.Errorf("%v was %v", c.o, was)
		}
	}
}

func TestCountersOfEveryKind(t *testing.T) {
	for kind := -300; kind <= 600; kind++ {
		want := [3]int64{-1, -1, -1}
		switch kind {
		case 172:
			want = [3]int64{5, 6, 7}
		case 174:
			want = [3]int64{7, 6, 5}
		}
		if got := Counters(nums(kind, 5, 6, 7)); got != want {
			t.Errorf("Kind %d: got %v", kind, got)
		}
	}
}

func TestAcc(t *testing.T) {
	for _, c := range []struct {
		kind, many int
		want       api.Option
	}{
		{Acc0, math.MinInt64, nums(Acc0)},
		{Acc0, -1, nums(Acc0)},
		{Acc0, 0, nums(Acc0)},
		{Acc0, 1, nums(Acc0, 5)},
		{Acc0, 2, nums(Acc0, 5, 6)},
		{Acc0, 3, nums(Acc0, 5, 6, 7)},
		{Acc0, 4, nums(Acc0, 5, 6, 7)},
		{Acc0, math.MaxInt64, nums(Acc0, 5, 6, 7)},
		{Acc1, math.MinInt64, nums(Acc1)},
		{Acc1, -1, nums(Acc1)},
		{Acc1, 0, nums(Acc1)},
		{Acc1, 1, nums(Acc1, 7)},
		{Acc1, 2, nums(Acc1, 7, 6)},
		{Acc1, 3, nums(Acc1, 7, 6, 5)},
		{Acc1, 4, nums(Acc1, 7, 6, 5)},
		{Acc1, math.MaxInt64, nums(Acc1, 7, 6, 5)},
		{Mss, 3, nums(Acc0, 5, 6, 7)}, // of any other Kind
		{Stamp, 1, nums(Acc0, 5)},
		{173, 2, nums(Acc0, 5, 6)},
		{99, 0, nums(Acc0)},
		{0, 3, nums(Acc0, 5, 6, 7)},
		{1, 3, nums(Acc0, 5, 6, 7)},
		{-174, 3, nums(Acc0, 5, 6, 7)},
		{Acc1 + 256, 3, nums(Acc0, 5, 6, 7)},
		{Acc1 + 1<<32, 3, nums(Acc0, 5, 6, 7)},
		{math.MinInt64, 3, nums(Acc0, 5, 6, 7)},
		{math.MaxInt64, 3, nums(Acc0, 5, 6, 7)},
	} {
		if got := Acc(c.kind, 5, 6, 7, c.many); !same(list(got), list(c.want)) {
			t.Errorf("Acc of %d, %d: got %v, want %v", c.kind, c.many, got, c.want)
		}
	}
}

func TestAccGoesRound(t *testing.T) {
	for _, c := range []struct {
		n    int64
		want uint32
	}{
		{0, 0},
		{1, 1},
		{1<<24 - 1, 1<<24 - 1},
		{1 << 24, 0},
		{1<<24 + 7, 7},
		{1 << 25, 0},
		{1<<32 + 9, 9},
		{math.MaxInt64, 1<<24 - 1},
		{math.MaxInt64 - 1, 1<<24 - 2},
		{-1, 1<<24 - 1},
		{-2, 1<<24 - 2},
		{-(1 << 24), 0},
		{-(1 << 24) - 1, 1<<24 - 1},
		{-(1 << 24) + 1, 1},
		{math.MinInt64, 0},
		{math.MinInt64 + 1, 1},
	} {
		for _, kind := range []int{Acc0, Acc1} {
			for at := range 3 {
				told := [3]int64{1, 2, 3}
				told[at] = c.n
				want := []uint32{1, 2, 3}
				want[at] = c.want
				if kind == Acc1 {
					slices.Reverse(want)
				}
				for many := range 4 {
					got := Acc(kind, told[0], told[1], told[2], many)
					if !same(list(got), list(nums(kind, want[:many]...))) {
						t.Errorf("Acc of %d, %v, %d: got %v", kind, told, many, got)
					}
					if _, e := Print(list(got)); e != api.OK {
						t.Errorf("Print of %v: got %d", got, e)
					}
				}
			}
		}
	}
}

func TestCountersOfAcc(t *testing.T) {
	r := rand.New(rand.NewSource(5))
	for range 20000 {
		kind := []int{Acc0, Acc1, r.Int()}[r.Intn(3)]
		e0, ce, e1 := int64(r.Uint64()), int64(r.Uint64()), int64(r.Uint64())
		many := r.Intn(6) - 1
		want := [3]int64{-1, -1, -1}
		for i := range min(max(many, 0), 3) {
			at := i
			if kind == Acc1 {
				at = 2 - i
			}
			n := [3]int64{e0, ce, e1}[at] % (1 << 24)
			want[at] = (n + 1<<24) % (1 << 24)
		}
		if got := Counters(Acc(kind, e0, ce, e1, many)); got != want {
			t.Fatalf("%d, %d, %d, %d, %d: got %v, want %v", kind, e0, ce, e1, many, got, want)
		}
	}
}

func TestAccIsNewEachTime(t *testing.T) {
	first, second := Acc(Acc0, 5, 6, 7, 3), Acc(Acc0, 5, 6, 7, 3)
	first.Nums[0] = 99
	if !same(list(second), list(nums(Acc0, 5, 6, 7))) {
		t.Error(second)
	}
}

// P12.5

func TestWhatIsPrintedIsParsedAsItWas(t *testing.T) {
	r := rand.New(rand.NewSource(6))
	taken := 0
	for range 50000 {
		l := some(r, 0)
		b, e := Print(l)
		if e != api.OK {
			continue
		}
		taken++
		if got, e := Parse(b); e != api.OK || !same(got, l) {
			t.Fatalf("%v printed as % X: got %v, %d", l, b, got, e)
		}
		if len(b)%4 != 0 || len(b) > 40 {
			t.Fatalf("%v printed as % X", l, b)
		}
	}
	if taken < 5000 {
		t.Errorf("%d were printed alone", taken)
	}
}

func TestWhatIsPrintedIsParsedAtTheEdges(t *testing.T) {
	for _, l := range [][]api.Option{
		nil,
		list(nums(Mss, 0)),
		list(nums(Mss, 65535)),
		list(nums(Stamp, 0, math.MaxUint32)),
		list(nums(Acc0)),
		list(nums(Acc0, 1<<24-1, 0, 1<<24-1), nums(Acc1)),
		list(raw(99, "\x00")), // zeros of its own, and those behind it
		list(raw(99, "\x00\x00"), raw(99, "\x01")),
		list(raw(99, strings.Repeat("\x00", 38))),
		list(raw(255, strings.Repeat("\xff", 37))),
		slices.Repeat(list(raw(3, "")), 20),
		list(nums(Acc1, 1, 2, 3), nums(Acc0, 4, 5, 6), nums(Stamp, 7, 8), nums(Mss, 9), raw(99, "ab")),
	} {
		b, e := Print(l)
		if e != api.OK {
			t.Errorf("Print of %v: got %d", l, e)
		}
		parses(t, b, l, api.OK)
	}
}

func TestWhatIsParsedIsPrintedAndParsedAgain(t *testing.T) {
	r := rand.New(rand.NewSource(7))
	taken := 0
	for range 50000 {
		var b []byte
		for range r.Intn(6) {
			b = append(b, piece(r)...)
		}
		l, e := Parse(b)
		if e != api.OK {
			continue
		}
		taken++
		p, e := Print(l)
		if e != api.OK {
			t.Fatalf("% X parsed as %v: printed % X, %d", b, l, p, e)
		}
		if got, e := Parse(p); e != api.OK || !same(got, l) {
			t.Fatalf("% X printed as % X: got %v, %d, want %v", b, p, got, e, l)
		}
	}
	if taken < 5000 {
		t.Errorf("%d were parsed alone", taken)
	}
}
