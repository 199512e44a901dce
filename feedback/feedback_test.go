package feedback

import (
	"math"
	"math/rand"
	"testing"

	"leat/api"
	"leat/count"
	"leat/ecn"
)

const (
	greatest = math.MaxInt64
	least    = math.MinInt64
	cap40    = 1 << 40
	round    = 1 << 24 // of a field
	half     = 1 << 23
)

// none is of an acknowledgement that tells no field.
var none = [3]int64{-1, -1, -1}

// first is what Bytes are of a new one.
var first = [3]int64{1, 0, 1}

// ack is an acknowledgement.
func ack(stamp uint32, bits uint8, fields [3]int64) api.Ack {
	return api.Ack{Stamp: stamp, Ace: bits, Bytes: fields}
}

// onlyCe is fields of which Ce's alone is told.
func onlyCe(x int64) [3]int64 {
	return [3]int64{-1, x, -1}
}

// model is a sender as the chapter says it, by plain reckoning; it keeps all stamps that were taken.
type model struct {
	mss, marked, base int64
	bytes             [3]int64
	taken             []uint32
}

func newModel(mss, start int64) *model {
	m := &model{mss: mss, marked: min(max(start, 0), cap40), bytes: first}
	m.base = m.marked
	return m
}

// standsAhead is how far a field is ahead of its counter, going forward alone.
func standsAhead(x, counter int64) int64 {
	return ((x-counter)%round + round) % round
}

// wrong is whether an acknowledgement is wrong.
func wrong(a api.Ack) bool {
	for _, x := range a.Bytes {
		if x <= -2 || x >= round {
			return true
		}
	}
	return a.Ace >= 8
}

// stale is whether the model refuses one that is not wrong.
func (m *model) stale(a api.Ack) bool {
	for i, x := range a.Bytes {
		if x != -1 && standsAhead(x, m.bytes[i]) >= half {
			return true
		}
	}
	if len(m.taken) == 0 {
		return false
	}
	by := a.Stamp - m.taken[len(m.taken)-1]
	return by == 0 || by >= 1<<31
}

// from is the least number that is not below fewest more than n, and is what the bits tell modulo 8, by a search.
func from(n, fewest int64, bits uint8) int64 {
	x := n + fewest
	for x%8 != int64(bits) {
		x++
	}
	return x
}

func (m *model) take(a api.Ack) (int64, api.Errno) {
	if wrong(a) {
		return 0, api.ErrRange
	}
	if m.stale(a) {
		return 0, api.ErrStale
	}
	m.taken = append(m.taken, a.Stamp)
	was := m.marked
	next := int64(-1)
	if a.Bytes[1] != -1 {
		bytes, fewest := standsAhead(a.Bytes[1], m.bytes[1]), int64(0)
		if bytes > 0 && m.mss > 0 {
			fewest = (bytes-1)/m.mss + 1
		}
		next = from(m.base, fewest, a.Ace)
	}
	if next < m.marked {
		next = from(m.marked, 0, a.Ace)
	}
	m.marked = next
	for i, x := range a.Bytes {
		if x != -1 {
			m.bytes[i] += standsAhead(x, m.bytes[i])
		}
	}
	if a.Bytes[1] != -1 {
		m.base = m.marked
	}
	return m.marked - was, api.OK
}

// is fails unless that is what the sender is at; telling it changes nothing.
func is(t *testing.T, s *Sender, marked int64, bytes [3]int64) {
	t.Helper()
	for range 2 {
		if got := s.Marked(); got != marked {
			t.Fatalf("Marked: got %d, want %d", got, marked)
		}
		if got := s.Bytes(); got != bytes {
			t.Fatalf("Bytes: got %v, want %v", got, bytes)
		}
	}
}

// takes fails unless an acknowledgement is taken, by which Marked rises by so many, and Bytes are these.
func takes(t *testing.T, s *Sender, a api.Ack, rise int64, bytes [3]int64) {
	t.Helper()
	was := s.Marked()
	if n, e := s.Take(a); n != rise || e != api.OK {
		t.Fatalf("%v: got %d, %d, want %d", a, n, e, rise)
	}
	is(t, s, was+rise, bytes)
	if last, ok := s.Last(); !ok || last != a.Stamp {
		t.Fatalf("%v: Last is %d, %v", a, last, ok)
	}
}

// refuses fails unless an acknowledgement is refused, with that error, and changes nothing.
func refuses(t *testing.T, s *Sender, a api.Ack, want api.Errno) {
	t.Helper()
	marked, bytes, base := s.Marked(), s.Bytes(), s.base
	last, any := s.Last()
	taken, _ := s.Counts()
	if n, e := s.Take(a); n != 0 || e != want {
		t.Fatalf("%v: got %d, %d, want 0, %d", a, n, e, want)
	}
	is(t, s, marked, bytes)
	if s.base != base {
		t.Fatalf("%v: the base is %d, and was %d", a, s.base, base)
	}
	if x, ok := s.Last(); x != last || ok != any {
		t.Fatalf("%v: Last is %d, %v, and was %d, %v", a, x, ok, last, any)
	}
	if n, _ := s.Counts(); n != taken {
		t.Fatalf("%v: %d were taken, and were %d", a, n, taken)
	}
}

// asTheModel holds a sender that is told these to the model.
func asTheModel(t *testing.T, mss, start int64, acks []api.Ack) {
	t.Helper()
	s, m := New(mss, start), newModel(mss, start)
	for i, a := range acks {
		n, e := s.Take(a)
		if wantN, wantE := m.take(a); n != wantN || e != wantE {
			t.Fatalf("mss %d, start %d, %d of %v: got %d, %d, want %d, %d", mss, start, i, acks, n, e, wantN, wantE)
		}
		if s.Marked() != m.marked || s.Bytes() != m.bytes {
			t.Fatalf("mss %d, start %d, behind %d of %v: got %d and %v, want %d and %v", mss, start, i, acks, s.Marked(), s.Bytes(), m.marked, m.bytes)
		}
	}
}

func TestTheExampleOfTheChapter(t *testing.T) {
	s := New(1000, 5)
	takes(t, s, ack(1, 6, none), 1, first)
	takes(t, s, ack(2, 5, onlyCe(8000)), 7, [3]int64{1, 8000, 1})
	is(t, s, 13, [3]int64{1, 8000, 1})
}

// P19.1

func TestOfANewOne(t *testing.T) {
	for _, c := range []struct{ start, want int64 }{
		{0, 0},
		{1, 1},
		{5, 5},
		{7, 7},
		{8, 8},
		{1 << 24, 1 << 24},
		{1 << 32, 1 << 32},
		{cap40 - 1, cap40 - 1},
		{cap40, cap40},
		{cap40 + 1, cap40},
		{cap40 + 8, cap40},
		{1 << 41, cap40},
		{greatest - 1, cap40},
		{greatest, cap40},
		{-1, 0},
		{-8, 0},
		{-cap40, 0},
		{least + 1, 0},
		{least, 0},
	} {
		for _, mss := range []int64{least, -1, 0, 1, 1000, api.MaxSize, greatest} {
			s := New(mss, c.start)
			if s == nil {
				t.Fatalf("New(%d, %d) is nil", mss, c.start)
			}
			is(t, s, c.want, first)
			if x, ok := s.Last(); x != 0 || ok {
				t.Errorf("Last of a new one: got %d, %v", x, ok)
			}
			if a, b := s.Counts(); a != 0 || b != 0 {
				t.Errorf("Counts of a new one: got %d and %d", a, b)
			}
		}
	}
}

func TestTheBaseOfANewOneIsItsStart(t *testing.T) {
	for _, start := range []int64{-1, 0, 1, 5, 7, 8, 1000, cap40 - 1, cap40, cap40 + 1, least, greatest} {
		at := min(max(start, 0), cap40)
		for packets := int64(1); packets <= 30; packets++ {
			s := New(1000, start)
			bits := uint8((at + packets) % 8)
			takes(t, s, ack(0, bits, onlyCe(packets*1000)), packets, [3]int64{1, packets * 1000, 1})
		}
		s := New(1000, start) // 17 packets came since the start; that the bits told one of them ahead of it changes nothing
		takes(t, s, ack(0, uint8((at+1)%8), none), 1, first)
		takes(t, s, ack(1, uint8((at+17)%8), onlyCe(17000)), 16, [3]int64{1, 17000, 1})
	}
}

func TestTheBitsOfTheStartTellNoRise(t *testing.T) {
	for start := int64(0); start < 40; start++ {
		for bits := range uint8(8) {
			s := New(1000, start)
			rise := from(start, 0, bits) - start
			takes(t, s, ack(7, bits, none), rise, first)
		}
	}
}

func TestBytesOfANewOneAreWhatFieldsAreHeldAgainst(t *testing.T) {
	for _, c := range []struct {
		fields [3]int64
		want   api.Errno
	}{
		{[3]int64{1, 0, 1}, api.OK},
		{[3]int64{0, 0, 1}, api.ErrStale}, // fields that were set to zeros on their way
		{[3]int64{1, 0, 0}, api.ErrStale},
		{[3]int64{0, -1, -1}, api.ErrStale},
		{[3]int64{-1, -1, 0}, api.ErrStale},
		{[3]int64{0, 0, 0}, api.ErrStale},
		{[3]int64{-1, 0, -1}, api.OK},
		{[3]int64{half, half - 1, half}, api.OK}, // half a round less one ahead
		{[3]int64{half + 1, 0, 1}, api.ErrStale},
		{[3]int64{1, half, 1}, api.ErrStale},
		{[3]int64{1, 0, half + 1}, api.ErrStale},
		{[3]int64{round - 1, 0, 1}, api.ErrStale},
		{[3]int64{1, round - 1, 1}, api.ErrStale},
		{[3]int64{1, 0, round - 1}, api.ErrStale},
	} {
		s := New(1000, 0)
		if _, e := s.Take(ack(1, 0, c.fields)); e != c.want {
			t.Errorf("%v: got %d, want %d", c.fields, e, c.want)
		}
	}
}

// P19.2

// wrongs are acknowledgements that are wrong, all of which have that stamp.
func wrongs(stamp uint32) []api.Ack {
	var l []api.Ack
	for _, bits := range []uint8{8, 9, 15, 16, 128, 255} {
		l = append(l, ack(stamp, bits, none), ack(stamp, bits, first), ack(stamp, bits, [3]int64{0, 0, 0}), ack(stamp, bits, [3]int64{-2, round, least}))
	}
	for _, x := range []int64{-2, -3, -1000, -round, least, least + 1, round, round + 1, 1 << 40, greatest - 1, greatest} {
		for place := range 3 {
			for _, fields := range [][3]int64{none, first, {0, 0, 0}} {
				fields[place] = x
				l = append(l, ack(stamp, 0, fields), ack(stamp, 7, fields))
			}
		}
		l = append(l, ack(stamp, 3, [3]int64{x, x, x}))
	}
	return l
}

func TestWrongOnes(t *testing.T) {
	for _, a := range wrongs(5) {
		s := New(1000, 5) // ahead of any other one
		refuses(t, s, a, api.ErrRange)
		takes(t, s, ack(0, 6, first), 1, first) // its stamp is the first one still
	}
	s := New(1000, 5)
	takes(t, s, ack(10, 6, [3]int64{1, 1000, 1}), 1, [3]int64{1, 1000, 1})
	for _, a := range wrongs(20) {
		refuses(t, s, a, api.ErrRange)
	}
	takes(t, s, ack(11, 7, [3]int64{1, 2000, 1}), 1, [3]int64{1, 2000, 1})
}

func TestWhatIsWrongAndStaleAsWellIsWrong(t *testing.T) {
	s := New(1000, 5)
	takes(t, s, ack(10, 6, [3]int64{1, 1000, 1}), 1, [3]int64{1, 1000, 1})
	for _, stamp := range []uint32{10, 9, 0, 10 + 1<<31} { // stale by their stamp
		for _, a := range wrongs(stamp) {
			refuses(t, s, a, api.ErrRange)
		}
	}
	for place := range 3 { // stale by a field, and by both
		for _, stamp := range []uint32{9, 10, 11} {
			fields := [3]int64{1, 1000, 1}
			fields[place]--
			refuses(t, s, ack(stamp, 8, fields), api.ErrRange)
			fields[(place+1)%3] = round
			refuses(t, s, ack(stamp, 0, fields), api.ErrRange)
			fields[(place+1)%3] = -2
			refuses(t, s, ack(stamp, 0, fields), api.ErrRange)
		}
	}
	takes(t, s, ack(11, 7, none), 1, [3]int64{1, 1000, 1})
}

func TestTheEndsOfWhatIsRight(t *testing.T) {
	for bits := range uint8(8) {
		s := New(1000, 0)
		takes(t, s, ack(1, bits, none), int64(bits), first)
	}
	s := New(1<<30, 0)
	at := [3]int64{half, half - 1, half}
	takes(t, s, ack(1, 0, at), 8, at) // 8 as the least that is 0 modulo 8, and 1 at least
	at = [3]int64{round - 1, round - 2, round - 1}
	takes(t, s, ack(2, 0, at), 8, at)
	at[1] = round - 1
	takes(t, s, ack(3, 0, at), 8, at)
	takes(t, s, ack(4, 0, [3]int64{0, 0, 0}), 8, [3]int64{round, round, round})
	takes(t, s, ack(5, 0, [3]int64{-1, -1, 0}), 0, [3]int64{round, round, round})
	refuses(t, s, ack(6, 0, [3]int64{round - 1, 0, 0}), api.ErrStale)
	refuses(t, s, ack(6, 0, [3]int64{0, round - 1, 0}), api.ErrStale)
	refuses(t, s, ack(6, 0, [3]int64{0, 0, round - 1}), api.ErrStale)
	takes(t, s, ack(6, 0, [3]int64{1, 0, 2}), 0, [3]int64{round + 1, round, round + 2})
}

// settled is a sender at Marked 6 and the stamp 10, of which all fields were told.
func settled(t *testing.T) (*Sender, [3]int64) {
	t.Helper()
	s, at := New(1000, 5), [3]int64{501, 1000, 701}
	takes(t, s, ack(10, 6, at), 1, at)
	return s, at
}

func TestStaleByItsStampAlone(t *testing.T) {
	for _, stamp := range []uint32{10, 9, 8, 0, 1<<32 - 1, 10 + 1<<31, 11 + 1<<31} {
		for _, fields := range [][3]int64{none, {501, 1000, 701}, {502, 9000, 702}, onlyCe(2000)} {
			s, at := settled(t)
			refuses(t, s, ack(stamp, 0, fields), api.ErrStale)
			refuses(t, s, ack(stamp, 6, fields), api.ErrStale)
			takes(t, s, ack(11, 7, none), 1, at)
			takes(t, s, ack(12, 7, onlyCe(2000)), 0, [3]int64{501, 2000, 701})
		}
	}
}

// behind are fields of which that one is so far behind; the others are told as they are, or not at all.
func behind(at [3]int64, place int, by int64, others bool) [3]int64 {
	told := at
	for i := range told {
		if i != place && !others {
			told[i] = -1
		}
	}
	told[place] = standsAhead(at[place], by)
	return told
}

func TestStaleByItsFieldsAlone(t *testing.T) {
	for place := range 3 {
		for _, by := range []int64{1, 2, 500, 501, 502, half - 1, half} {
			for _, others := range []bool{true, false} {
				s, at := settled(t)
				told := behind(at, place, by, others)
				refuses(t, s, ack(20, 0, told), api.ErrStale)
				takes(t, s, ack(20, 7, none), 1, at) // its stamp was not taken
				s, at = settled(t)
				refuses(t, s, ack(1000, 0, told), api.ErrStale)
				takes(t, s, ack(11, 7, at), 1, at) // nor does it stand ahead of lesser ones
			}
		}
	}
}

func TestStaleByBoth(t *testing.T) {
	for place := range 3 {
		for _, by := range []int64{1, 501, half} {
			for _, stamp := range []uint32{10, 9, 10 + 1<<31} {
				s, at := settled(t)
				refuses(t, s, ack(stamp, 0, behind(at, place, by, true)), api.ErrStale)
				refuses(t, s, ack(stamp, 0, behind(at, place, by, false)), api.ErrStale)
				takes(t, s, ack(11, 7, none), 1, at)
			}
		}
	}
}

func TestNoFieldOfOneThatIsRefusedIsFollowed(t *testing.T) {
	for place := range 3 {
		s, at := settled(t)
		told := [3]int64{at[0] + 5000, at[1] + 5000, at[2] + 5000}
		told[place] = at[place] - 1
		refuses(t, s, ack(11, 0, told), api.ErrStale)
		refuses(t, s, ack(10, 0, [3]int64{at[0] + 5000, at[1] + 5000, at[2] + 5000}), api.ErrStale)
		told[place] = round
		refuses(t, s, ack(11, 0, told), api.ErrRange)
		takes(t, s, ack(11, 6, at), 0, at)
	}
}

func TestStampsGoRound(t *testing.T) {
	s := New(1000, 0)
	takes(t, s, ack(1<<32-2, 1, none), 1, first)
	takes(t, s, ack(1<<32-1, 2, none), 1, first)
	refuses(t, s, ack(1<<32-2, 7, none), api.ErrStale)
	takes(t, s, ack(0, 3, none), 1, first)
	refuses(t, s, ack(1<<32-1, 7, none), api.ErrStale)
	takes(t, s, ack(1<<31-1, 4, none), 1, first)
	refuses(t, s, ack(1<<32-1, 7, none), api.ErrStale) // half a round ahead
	takes(t, s, ack(1<<32-2, 5, none), 1, first)
}

func TestTheFirstStampIsTakenWhateverItIs(t *testing.T) {
	for _, stamp := range []uint32{0, 1, 1<<31 - 1, 1 << 31, 1<<32 - 1} {
		s := New(1000, 5)
		takes(t, s, ack(stamp, 7, none), 2, first)
		refuses(t, s, ack(stamp, 0, none), api.ErrStale)
		takes(t, s, ack(stamp+1, 0, none), 1, first)
	}
}

func TestCesFieldToldAndNotToldInTurns(t *testing.T) {
	s := New(1000, 5)
	takes(t, s, ack(1, 6, none), 1, first)
	takes(t, s, ack(2, 5, onlyCe(8000)), 7, [3]int64{1, 8000, 1})                        // 13, as the base, 5, and 8
	takes(t, s, ack(3, 7, none), 2, [3]int64{1, 8000, 1})                                // 15
	takes(t, s, ack(4, 1, [3]int64{500, -1, 900}), 2, [3]int64{500, 8000, 900})          // 17, as Ce's is not among those that are told
	takes(t, s, ack(5, 5, onlyCe(16000)), 4, [3]int64{500, 16000, 900})                  // 21, as the base, 13, and 8
	takes(t, s, ack(6, 5, onlyCe(24000)), 8, [3]int64{500, 24000, 900})                  // 29, although the bits stayed
	takes(t, s, ack(7, 5, onlyCe(24000)), 0, [3]int64{500, 24000, 900})                  // the same again
	takes(t, s, ack(8, 5, none), 0, [3]int64{500, 24000, 900})                           // 8 more came, which the bits alone can't tell
	takes(t, s, ack(9, 5, [3]int64{500, 32000, 901}), 8, [3]int64{500, 32000, 901})      // they do with the field
	takes(t, s, ack(10, 4, [3]int64{-1, 32001, -1}), 7, [3]int64{500, 32001, 901})       // one byte: one packet at least, 7 by the bits
	takes(t, s, ack(11, 4, [3]int64{-1, 42001, 901}), 16, [3]int64{500, 42001, 901})     // 10000 bytes: ten at least, 16 by the bits
	takes(t, s, ack(12, 3, [3]int64{501, 342001, 902}), 303, [3]int64{501, 342001, 902}) // 300 at least
}

func TestAGuessBelowMarked(t *testing.T) {
	s := New(1000, 0)
	takes(t, s, ack(1, 7, none), 7, first)
	takes(t, s, ack(2, 6, none), 7, first)                                // 14 of small packets
	takes(t, s, ack(3, 0, onlyCe(140)), 2, [3]int64{1, 140, 1})           // the bytes say 8, so it is 16 by the bits
	takes(t, s, ack(4, 0, onlyCe(8140)), 8, [3]int64{1, 8140, 1})         // the base is 16 now
	takes(t, s, ack(5, 7, none), 7, [3]int64{1, 8140, 1})                 // 31
	takes(t, s, ack(6, 7, onlyCe(8141)), 0, [3]int64{1, 8141, 1})         // 24 and 7 is just that
	takes(t, s, ack(7, 3, none), 4, [3]int64{1, 8141, 1})                 // 35
	takes(t, s, ack(8, 0, none), 5, [3]int64{1, 8141, 1})                 // 40
	takes(t, s, ack(9, 0, onlyCe(8142)), 0, [3]int64{1, 8142, 1})         // 31 and 1 at least: 32 is below 40, and by the bits nothing came
	takes(t, s, ack(10, 1, onlyCe(9142)), 1, [3]int64{1, 9142, 1})        // the base is 40, not 32
	takes(t, s, ack(11, 0, none), 7, [3]int64{1, 9142, 1})                // 48
	takes(t, s, ack(12, 7, none), 7, [3]int64{1, 9142, 1})                // 55
	takes(t, s, ack(13, 6, onlyCe(9142)), 7, [3]int64{1, 9142, 1})        // 62: no bytes came, so 41 and 5 by the bits, which is below 55
	takes(t, s, ack(14, 6, onlyCe(9142+8001)), 16, [3]int64{1, 17143, 1}) // nine at least since 62
}

func TestAGuessThatIsJustMarked(t *testing.T) {
	for since := int64(0); since < 8; since++ {
		s := New(1000, 3)
		bits := uint8((3 + since) % 8)
		takes(t, s, ack(1, bits, none), since, first)
		takes(t, s, ack(2, bits, onlyCe(since*1000)), 0, [3]int64{1, since * 1000, 1})
		next := 3 + since + 9 // the base moved there
		takes(t, s, ack(3, uint8(next%8), onlyCe(since*1000+9000)), 9, [3]int64{1, since*1000 + 9000, 1})
	}
}

func TestTheBaseMovesOnlyWhereCesFieldIsTold(t *testing.T) {
	for _, fields := range [][3]int64{none, {5000, -1, -1}, {-1, -1, 5000}, {5000, -1, 5000}} {
		s := New(1000, 4)
		for i := range 5 { // 35 by the bits
			takes(t, s, ack(uint32(i), uint8((4+7*(i+1))%8), fields), 7, [3]int64{max(fields[0], 1), 0, max(fields[2], 1)})
			if s.base != 4 {
				t.Fatalf("%v: the base is %d", fields, s.base)
			}
		}
		if n, e := s.Take(ack(100, 0, onlyCe(100000))); n != 104-39 || e != api.OK { // a hundred since 4, not since 39
			t.Fatalf("%v: got %d, %d", fields, n, e)
		}
		if s.base != 104 {
			t.Fatalf("%v: the base is %d", fields, s.base)
		}
	}
}

func TestTheBaseMovesWhereCesFieldTellsNoByte(t *testing.T) {
	s := New(1000, 0)
	takes(t, s, ack(1, 5, none), 5, first)
	takes(t, s, ack(2, 5, onlyCe(0)), 0, first)
	if s.base != 5 {
		t.Fatalf("the base is %d", s.base)
	}
	takes(t, s, ack(3, 5, onlyCe(8000)), 8, [3]int64{1, 8000, 1})
}

func TestARiseOfZero(t *testing.T) {
	for start := int64(0); start < 20; start++ {
		s := New(1000, start)
		bits := uint8(start % 8)
		takes(t, s, ack(1, bits, none), 0, first)
		takes(t, s, ack(2, bits, first), 0, first)
		takes(t, s, ack(3, bits, [3]int64{5000, -1, 7000}), 0, [3]int64{5000, 0, 7000})
		takes(t, s, ack(4, bits, onlyCe(0)), 0, [3]int64{5000, 0, 7000})
		takes(t, s, ack(5, bits, none), 0, [3]int64{5000, 0, 7000})
		takes(t, s, ack(6, bits, onlyCe(1)), 8, [3]int64{5000, 1, 7000}) // a byte takes a packet
	}
}

func TestBytesFollowWhatIsTold(t *testing.T) {
	s := New(1000, 0)
	at := first
	r := rand.New(rand.NewSource(190))
	for i := range 2000 {
		told := none
		for place := range told {
			if r.Intn(2) == 0 {
				at[place] += r.Int63n(half)
				told[place] = at[place] % round
			}
		}
		a := ack(uint32(i), uint8(r.Intn(8)), told)
		if _, e := s.Take(a); e != api.OK {
			t.Fatalf("%v: got %d", a, e)
		}
		if s.Bytes() != at {
			t.Fatalf("%v: got %v, want %v", a, s.Bytes(), at)
		}
	}
	if at[0] < 10*round || at[1] < 10*round || at[2] < 10*round {
		t.Errorf("they did not go round: %v", at)
	}
}

func TestSegmentsOfAnySize(t *testing.T) {
	for _, c := range []struct{ mss, bytes, rise int64 }{
		{1, 1, 1},
		{1, 9, 9},
		{1, 10, 9 + 8},
		{1, half - 1, half + 1},
		{2, 18, 9},
		{2, 19, 9 + 8},
		{1000, 0, 1},
		{1000, 1, 1},
		{1000, 1000, 1},
		{1000, 1001, 9},
		{1000, 9000, 9},
		{1000, 9001, 17},
		{api.MaxSize, half - 1, 129}, // 128 at least
		{half - 1, half - 1, 1},
		{half - 2, half - 1, 9},
		{cap40, half - 1, 1},
		{greatest, half - 1, 1},
		{greatest - 1, 1, 1},
		{greatest, 0, 1},
		{0, half - 1, 1}, // by no size the bits alone tell
		{0, 9, 1},
		{-1, 9, 1},
		{-1, half - 1, 1},
		{-1000, 9000, 1},
		{least, half - 1, 1},
		{least, 1, 1},
		{least + 1, 9, 1},
	} {
		for _, start := range []int64{0, 7, 8, 1000, cap40} {
			s := New(c.mss, start)
			bits := uint8((start + 1) % 8)
			takes(t, s, ack(1, bits, onlyCe(c.bytes)), c.rise, [3]int64{1, c.bytes, 1})
		}
	}
}

// few are acknowledgements of which rows are made: with Ce's field and without it, of few bytes and of many, right, stale and wrong.
func few(stamp uint32) []api.Ack {
	return []api.Ack{
		ack(stamp, 1, none),
		ack(stamp, 6, none),
		ack(stamp, 1, onlyCe(1)),
		ack(stamp, 6, onlyCe(9000)),
		ack(stamp, 0, onlyCe(20000)),
		ack(stamp, 7, [3]int64{500, -1, 900}),
		ack(stamp, 3, [3]int64{501, 20000, 901}),
		ack(stamp, 2, [3]int64{1, 40000, 1}),
		ack(stamp-1, 4, none),
		ack(stamp, 8, none),
		ack(stamp, 5, [3]int64{1, round, 1}),
	}
}

func TestEachRowOfFourAgainstTheModel(t *testing.T) {
	for _, a := range few(10) {
		for _, b := range few(11) {
			for _, c := range few(12) {
				for _, d := range few(13) {
					asTheModel(t, 1000, 5, []api.Ack{a, b, c, d})
				}
			}
		}
	}
}

// anyField is a field near its counter, or anywhere, or none, or a wrong one.
func anyField(r *rand.Rand, counter int64) int64 {
	switch r.Intn(12) {
	case 0, 1, 2:
		return -1
	case 3:
		return r.Int63n(round)
	case 4:
		return standsAhead(counter, 1+r.Int63n(half))
	case 5:
		return []int64{0, 1, -2, half, round - 1, round, least, greatest}[r.Intn(8)]
	case 6:
		return standsAhead(counter+half+r.Int63n(3)-1, 0)
	case 7:
		return standsAhead(counter, 0)
	}
	return standsAhead(counter+r.Int63n(30000), 0)
}

func TestAnyRowAgainstTheModel(t *testing.T) {
	r := rand.New(rand.NewSource(191))
	sizes := []int64{1, 2, 7, 100, 1000, 1460, api.MaxSize, 0, -1, least, greatest}
	starts := []int64{0, 5, 6, 100, cap40, cap40 + 1, -1, least, greatest}
	for range 3000 {
		mss, start := sizes[r.Intn(len(sizes))], starts[r.Intn(len(starts))]
		m := newModel(mss, start)
		var acks []api.Ack
		stamp := r.Uint32()
		for range 60 {
			stamp += uint32(r.Intn(5))
			a := ack(stamp-uint32(r.Intn(2)), uint8(r.Intn(8)), none)
			if r.Intn(20) == 0 {
				a.Ace = uint8(r.Intn(256))
			}
			if r.Intn(20) == 0 {
				a.Stamp = r.Uint32()
			}
			for place := range a.Bytes {
				a.Bytes[place] = anyField(r, m.bytes[place])
			}
			m.take(a)
			acks = append(acks, a)
		}
		asTheModel(t, mss, start, acks)
	}
}

func TestUptoTellsNothingHere(t *testing.T) {
	for _, upto := range []int64{least, -1, 0, 1, 1 << 32, greatest} {
		s, at := settled(t)
		a := ack(11, 0, [3]int64{-1, 3000, -1})
		a.Upto = upto
		takes(t, s, a, 2, [3]int64{at[0], 3000, at[2]})
		refuses(t, s, a, api.ErrStale)
	}
}

func TestTheSameAcknowledgementsAreAnsweredTheSame(t *testing.T) {
	a, b := New(1000, 5), New(1000, 5)
	r := rand.New(rand.NewSource(192))
	for i := range 500 {
		x := ack(uint32(i+r.Intn(3)), uint8(r.Intn(9)), [3]int64{-1, anyField(r, a.Bytes()[1]), -1})
		n, e := a.Take(x)
		for range i % 3 { // asking changes nothing
			b.Marked()
			b.Bytes()
		}
		if again, f := b.Take(x); again != n || f != e {
			t.Fatalf("%v: got %d, %d, then %d, %d", x, n, e, again, f)
		}
	}
	if *a != *b {
		t.Errorf("got %v, then %v", *a, *b)
	}
}

func TestTwoSendersKnowNothingOfEachOther(t *testing.T) {
	a, b := New(1000, 5), New(500, 0)
	takes(t, a, ack(100, 6, onlyCe(1000)), 1, [3]int64{1, 1000, 1})
	is(t, b, 0, first)
	takes(t, b, ack(50, 2, onlyCe(600)), 2, [3]int64{1, 600, 1})
	is(t, a, 6, [3]int64{1, 1000, 1})
	refuses(t, a, ack(60, 7, none), api.ErrStale)
	takes(t, b, ack(60, 3, none), 1, [3]int64{1, 600, 1})
	takes(t, a, ack(101, 7, none), 1, [3]int64{1, 1000, 1})
	is(t, b, 3, [3]int64{1, 600, 1})
}

func TestACopyGoesItsOwnWay(t *testing.T) {
	s, at := settled(t)
	c := *s
	takes(t, &c, ack(15, 0, onlyCe(9000)), 10, [3]int64{at[0], 9000, at[2]})
	is(t, s, 6, at)
	takes(t, s, ack(11, 7, none), 1, at)
	is(t, &c, 16, [3]int64{at[0], 9000, at[2]})
}

func TestBytesAreToldAsAValue(t *testing.T) {
	s, at := settled(t)
	told := s.Bytes()
	told[0], told[1], told[2] = 7, 8, 9
	is(t, s, 6, at)
	takes(t, s, ack(11, 6, at), 0, at)
}

func TestASenderHasWhatItsFilterTells(t *testing.T) {
	s := New(1000, 5)
	takes(t, s, ack(5, 6, none), 1, first)
	takes(t, s, ack(7, 6, none), 0, first)
	refuses(t, s, ack(6, 6, none), api.ErrStale)
	refuses(t, s, ack(8, 6, [3]int64{0, -1, -1}), api.ErrStale) // its stamp is not asked
	refuses(t, s, ack(9, 8, none), api.ErrRange)
	if last, ok := s.Last(); last != 7 || !ok {
		t.Errorf("Last: got %d, %v", last, ok)
	}
	if taken, not := s.Counts(); taken != 2 || not != 1 {
		t.Errorf("Counts: got %d and %d", taken, not)
	}
}

func TestOfNil(t *testing.T) {
	var s *Sender
	for _, a := range append(wrongs(1), ack(1, 6, none), ack(2, 7, first), api.Ack{}) {
		if n, e := s.Take(a); n != 0 || e != api.ErrArg {
			t.Errorf("%v: got %d, %d", a, n, e)
		}
		is(t, s, 0, [3]int64{})
	}
}

func TestOneThatNewDidNotMake(t *testing.T) {
	var s Sender
	is(t, &s, 0, [3]int64{})
	takes(t, &s, ack(0, 3, [3]int64{0, 9000, 0}), 3, [3]int64{0, 9000, 0})
	refuses(t, &s, ack(0, 4, none), api.ErrStale)
}

// P19.3

func TestMarkedNeverFallsAndIsModuloEightWhatWasTaken(t *testing.T) {
	r := rand.New(rand.NewSource(193))
	for range 500 {
		mss := []int64{1, 10, 1000, api.MaxSize, 0, least, greatest}[r.Intn(7)]
		s := New(mss, r.Int63n(1<<41)-1<<39)
		marked, newest := s.Marked(), uint8(s.Marked()%8)
		for range 200 {
			a := ack(r.Uint32(), uint8(r.Intn(9)), none)
			for place := range a.Bytes {
				a.Bytes[place] = anyField(r, s.Bytes()[place])
			}
			n, e := s.Take(a)
			if e == api.OK {
				newest = a.Ace
			}
			if n < 0 || s.Marked() != marked+n {
				t.Fatalf("%v: got %d, and Marked is %d, and was %d", a, n, s.Marked(), marked)
			}
			marked = s.Marked()
			if marked%8 != int64(newest) {
				t.Fatalf("%v: Marked is %d, where %d was told", a, marked, newest)
			}
		}
	}
}

// answer is an acknowledgement, and what its receiver's counts were as it was sent.
type answer struct {
	ack api.Ack
	was api.Count
}

// receiver answers packets, all of which have just mss bytes.
type receiver struct {
	mss   int64
	count api.Count
	stamp uint32
}

func newReceiver(mss, start int64, stamp uint32) *receiver {
	return &receiver{mss: mss, count: count.Start(start), stamp: stamp}
}

// come counts as many packets with that code.
func (r *receiver) come(code int, packets int64) {
	for range packets {
		r.count = count.Take(r.count, code, r.mss)
	}
}

// answers tells of those of the three fields that are asked for.
func (r *receiver) answers(told [3]bool) answer {
	r.stamp++
	fields := count.Bytes(r.count)
	for place, is := range told {
		if !is {
			fields[place] = -1
		}
	}
	return answer{ack(r.stamp, count.Ace(r.count), fields), r.count}
}

var (
	allFields = [3]bool{true, true, true}
	noFields  = [3]bool{}
)

// sums are the counters of bytes as a sender has them.
func sums(c api.Count) [3]int64 {
	return [3]int64{c.E0b, c.Ceb, c.E1b}
}

// knows fails unless an answer is taken, and Marked is the receiver's then.
func knows(t *testing.T, s *Sender, a answer) {
	t.Helper()
	was := s.Marked()
	if n, e := s.Take(a.ack); e != api.OK || n != a.was.Cep-was {
		t.Fatalf("%v: got %d, %d, where it rose from %d to %d", a.ack, n, e, was, a.was.Cep)
	}
	if s.Marked() != a.was.Cep {
		t.Fatalf("%v: Marked is %d, want %d", a.ack, s.Marked(), a.was.Cep)
	}
}

func TestRisesOfUpToSevenWithoutFields(t *testing.T) {
	for start := int64(0); start < 20; start++ {
		for _, mss := range []int64{0, 1, 1000, api.MaxSize} {
			s, r := New(mss, start), newReceiver(mss, start, 1<<32-30)
			for i := range int64(60) {
				r.come(ecn.Ce, i%8)
				r.come(ecn.Ect1, i%3)
				knows(t, s, r.answers(noFields))
			}
		}
	}
}

func TestRisesOfUpToSevenWithAnyFields(t *testing.T) {
	src := rand.New(rand.NewSource(194))
	for _, mss := range []int64{1, 7, 100, 1000, 1460, api.MaxSize} {
		for range 40 {
			start := src.Int63n(cap40 + 1)
			s, r := New(mss, start), newReceiver(mss, start, src.Uint32())
			for range 100 {
				r.come(ecn.Ce, src.Int63n(8))
				r.come(ecn.Ect1, src.Int63n(3))
				r.come(ecn.Ect0, src.Int63n(3))
				told := [3]bool{src.Intn(2) == 0, src.Intn(2) == 0, src.Intn(2) == 0}
				a := r.answers(told)
				if newModelOf(s).stale(a.ack) { // a field that was not told while half a round went by
					refuses(t, s, a.ack, api.ErrStale)
					a = r.answers(noFields)
				}
				knows(t, s, a)
			}
		}
	}
}

// newModelOf is a model that is where a sender is.
func newModelOf(s *Sender) *model {
	m := &model{mss: s.mss, marked: s.Marked(), base: s.base, bytes: s.Bytes()}
	if last, ok := s.Last(); ok {
		m.taken = []uint32{last}
	}
	return m
}

func TestRisesOfAnySizeWithAllFields(t *testing.T) {
	src := rand.New(rand.NewSource(195))
	for _, mss := range []int64{1, 3, 100, 1000, 1460, api.MaxSize} {
		most := min((half-1)/mss, 4000)
		for range 20 {
			start := src.Int63n(cap40 + 1)
			s, r := New(mss, start), newReceiver(mss, start, src.Uint32())
			for range 30 {
				r.come(ecn.Ce, src.Int63n(most+1))
				r.come(ecn.Ect1, src.Int63n(most+1))
				r.come(ecn.Ect0, src.Int63n(most+1))
				a := r.answers(allFields)
				knows(t, s, a)
				is(t, s, a.was.Cep, sums(a.was))
			}
		}
	}
}

func TestTheGreatestRiseWithAllFields(t *testing.T) {
	for _, mss := range []int64{1, 3, 127, 1000, 65535, api.MaxSize} {
		most := (half - 1) / mss
		s, r := New(mss, 5), newReceiver(mss, 5, 0)
		for range 5 {
			r.come(ecn.Ce, most)
			r.come(ecn.Ect1, most)
			a := r.answers(allFields)
			knows(t, s, a)
			is(t, s, a.was.Cep, sums(a.was))
		}
	}
}

func TestARiseOfHalfARoundIsTooMuch(t *testing.T) {
	for _, code := range []int{ecn.Ect0, ecn.Ce, ecn.Ect1} {
		s, r := New(1<<15, 5), newReceiver(1<<15, 5, 0)
		knows(t, s, r.answers(allFields))
		r.come(code, 1<<8)
		refuses(t, s, r.answers(allFields).ack, api.ErrStale)
	}
}

func TestAllFieldsBehindRisesThatTheBitsTold(t *testing.T) {
	src := rand.New(rand.NewSource(196))
	for range 200 {
		s, r := New(1000, 5), newReceiver(1000, 5, src.Uint32())
		for range 20 {
			for range src.Intn(10) { // by the bits alone, or with fields of which Ce's is none
				r.come(ecn.Ce, src.Int63n(8))
				r.come(ecn.Ect1, src.Int63n(8))
				knows(t, s, r.answers([3]bool{src.Intn(2) == 0, false, src.Intn(2) == 0}))
			}
			r.come(ecn.Ce, src.Int63n(500))
			a := r.answers(allFields)
			knows(t, s, a)
			is(t, s, a.was.Cep, sums(a.was))
		}
	}
}

func TestARiseOfMoreThanSevenWithoutFields(t *testing.T) {
	for rise := int64(8); rise < 60; rise++ {
		s, r := New(1000, 5), newReceiver(1000, 5, 0)
		r.come(ecn.Ce, 3)
		knows(t, s, r.answers(allFields))
		r.come(ecn.Ce, rise)
		takes(t, s, r.answers(noFields).ack, rise%8, [3]int64{1, 3000, 1}) // the least that the bits can mean
		r.come(ecn.Ce, 2)
		takes(t, s, r.answers([3]bool{true, false, true}).ack, 2, [3]int64{1, 3000, 1})
		r.come(ecn.Ce, 1)
		a := r.answers(allFields)
		takes(t, s, a.ack, rise-rise%8+1, sums(a.was)) // what was missed comes with the bytes
		is(t, s, a.was.Cep, sums(a.was))
	}
}

// mayBeTaken is whether the promise holds of an answer: its count rose by at most 7, or it tells all fields, of which none rose by half a round or more since such were told last.
func mayBeTaken(a answer, lastTaken, lastFull api.Count) bool {
	if a.was.Cep-lastTaken.Cep <= 7 {
		return true
	}
	for place, x := range a.ack.Bytes {
		if x == -1 || sums(a.was)[place]-sums(lastFull)[place] >= half {
			return false
		}
	}
	return true
}

// onTheirWay are answers as they come: lost, overtaken, doubled.
func onTheirWay(src *rand.Rand, sent []answer) []answer {
	var come []answer
	for _, a := range sent {
		for range src.Intn(3) {
			come = append(come, a)
		}
	}
	for i := range come {
		j := min(i+src.Intn(6), len(come)-1)
		come[i], come[j] = come[j], come[i]
	}
	return come
}

// sentAtOnce are the answers of a receiver, each n-th of which tells all fields.
func sentAtOnce(src *rand.Rand, r *receiver, each int, burst int64) []answer {
	sent := []answer{r.answers(allFields)}
	for i := range 300 {
		r.come(ecn.Ce, src.Int63n(burst))
		r.come(ecn.Ect1, src.Int63n(burst))
		told := noFields
		if i%each == 0 {
			told = allFields
		}
		sent = append(sent, r.answers(told))
	}
	return sent
}

func TestAnswersThatAreLostOvertakenAndDoubled(t *testing.T) {
	src := rand.New(rand.NewSource(197))
	taken, refused, far := 0, 0, 0
	for range 300 {
		mss := []int64{1, 100, 1000, 1460, api.MaxSize}[src.Intn(5)]
		start := src.Int63n(cap40 + 1)
		r := newReceiver(mss, start, src.Uint32())
		s := New(mss, start)
		sent := sentAtOnce(src, r, 1+src.Intn(4), 1+src.Int63n(12))
		last, full := count.Start(start), count.Start(start)
		newest := sent[0].ack.Stamp - 1 // all of them are newer
		for _, a := range onTheirWay(src, sent) {
			if int32(a.ack.Stamp-newest) <= 0 {
				refuses(t, s, a.ack, api.ErrStale)
				refused++
				continue
			}
			if !mayBeTaken(a, last, full) { // such a one is lost as well
				continue
			}
			knows(t, s, a)
			taken++
			if a.was.Cep-last.Cep > 7 {
				far++
			}
			last, newest = a.was, a.ack.Stamp
			if a.ack.Bytes[1] != -1 {
				full = a.was
			}
		}
	}
	if taken < 1000 || refused < 1000 || far < 1000 {
		t.Errorf("%d were taken, %d were refused, %d rose by more than 7", taken, refused, far)
	}
}
