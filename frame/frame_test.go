package frame_test

import (
	"bytes"
	"slices"
	"testing"

	"chargenet/api"
	"chargenet/frame"
)

const longest = 2*api.MaxPayload + 6

// source is a sequence of numbers that are the same in every run.
type source uint64

func (s *source) next(n int) int {
	*s = *s*6364136223846793005 + 1442695040888963407
	return int(uint64(*s) >> 33 % uint64(n))
}

// bytes returns n bytes out of some bytes, or out of all.
func (s *source) bytes(n int, some ...byte) []byte {
	b := make([]byte, n)
	for i := range b {
		b[i] = byte(s.next(256))
		if len(some) > 0 {
			b[i] = some[s.next(len(some))]
		}
	}
	return b
}

// shift computes on with a register, bit by bit, as a division of polynomials does.
func shift(register int, b []byte) int {
	for _, c := range b {
		for i := 7; i >= 0; i-- {
			top := register>>15 ^ int(c)>>i&1
			register = register << 1 & 65535
			if top == 1 {
				register ^= 4129
			}
		}
	}
	return register
}

// sumBytes returns the checksum of a payload as two bytes.
func sumBytes(b []byte) []byte {
	sum := shift(65535, b)
	return []byte{byte(sum / 256), byte(sum % 256)}
}

// enclose makes a frame of a content, whether its checksum is right or not.
func enclose(content []byte) []byte {
	b := bytes.ReplaceAll(content, []byte{219}, []byte{219, 221})
	b = bytes.ReplaceAll(b, []byte{192}, []byte{219, 220})
	return slices.Concat([]byte{192}, b, []byte{192})
}

// packed is the frame of a payload.
func packed(b []byte) []byte {
	return enclose(slices.Concat(b, sumBytes(b)))
}

// unpacked finds the payload of a frame, and the error by a search for each one in turn.
func unpacked(b []byte) ([]byte, api.Errno) {
	if len(b) == 0 {
		return nil, api.ErrShort
	}
	if b[0] != 192 {
		return nil, api.ErrForm
	}
	inside, after, closed := bytes.Cut(b[1:], []byte{192})
	for i, c := range inside {
		end := i+1 == len(inside)
		if c == 219 && (end && closed || !end && inside[i+1] != 220 && inside[i+1] != 221) {
			return nil, api.ErrForm
		}
	}
	if !closed {
		return nil, api.ErrShort
	}
	if len(after) > 0 {
		return nil, api.ErrForm
	}
	content := bytes.ReplaceAll(inside, []byte{219, 220}, []byte{192})
	content = bytes.ReplaceAll(content, []byte{219, 221}, []byte{219})
	switch n := len(content) - 2; {
	case n < 0:
		return nil, api.ErrShort
	case n > api.MaxPayload:
		return nil, api.ErrLimit
	case !bytes.Equal(content[n:], sumBytes(content[:n])):
		return nil, api.ErrSum
	default:
		return content[:n], api.OK
	}
}

// fed finds the payloads and the rest of a stream from the places of all its bytes 192.
func fed(stream []byte) ([]byte, [][]byte) {
	var marks []int
	for i, c := range stream {
		if c == 192 {
			marks = append(marks, i)
		}
	}
	if len(marks) == 0 {
		return nil, nil
	}
	var payloads [][]byte
	for i := 1; i < len(marks); i++ {
		if payload, e := unpacked(stream[marks[i-1] : marks[i]+1]); e == api.OK {
			payloads = append(payloads, payload)
		}
	}
	rest := stream[marks[len(marks)-1]:]
	if len(rest) > longest {
		rest = nil
	}
	return rest, payloads
}

// longPayload returns a payload of MaxPayload bytes whose frame is as long as a frame can be.
func longPayload(t *testing.T) []byte {
	s := source(9)
	special := func(c byte) bool { return c == 192 || c == 219 }
	head := s.bytes(api.MaxPayload-24, 192, 219)
	register := shift(65535, head)
	for range 1 << 20 {
		tail := s.bytes(24, 192, 219)
		sum := shift(register, tail)
		if special(byte(sum/256)) && special(byte(sum%256)) {
			return append(head, tail...)
		}
	}
	t.Fatal("no payload found")
	return nil
}

// payloads are payloads of many lengths and contents, the short ones first.
func payloads() [][]byte {
	l := [][]byte{nil, {}}
	for c := range 256 {
		l = append(l, []byte{byte(c)})
	}
	for _, c := range []byte{0, 192, 219, 220, 221, 255} {
		for _, d := range []byte{0, 192, 219, 220, 221, 255} {
			l = append(l, []byte{c, d}, []byte{c, d, c}, []byte{7, c, d}, []byte{c, d, 219, 220, c})
		}
	}
	l = append(l, withSums()...)
	s := source(1)
	for n := range 60 {
		l = append(l, s.bytes(n), s.bytes(n, 192, 219), s.bytes(n, 192, 219, 220, 221, 0))
	}
	for _, n := range []int{255, 256, 257, 4094, 4095, 4096} {
		l = append(l, s.bytes(n), s.bytes(n, 192, 219, 7), make([]byte, n), bytes.Repeat([]byte{192}, n), bytes.Repeat([]byte{219}, n))
	}
	return l
}

// withSums returns payloads whose checksums have the bytes 192 and 219 in all ways.
func withSums() [][]byte {
	found := map[[2]int][]byte{}
	for n := range 1 << 18 {
		b := []byte{byte(n >> 16), byte(n >> 8), byte(n)}
		sum := sumBytes(b)
		var way [2]int
		for i, c := range sum {
			way[i] = slices.Index([]byte{192, 219}, c) + 1
		}
		if found[way] == nil {
			found[way] = b
		}
	}
	var l [][]byte
	for a := range 3 {
		for b := range 3 {
			l = append(l, found[[2]int{a, b}])
		}
	}
	return l
}

func isUnpacked(t *testing.T, b, want []byte, wantError api.Errno) {
	if got, e := frame.Unpack(b); !bytes.Equal(got, want) || e != wantError {
		t.Helper()
		t.Fatalf("Unpack(%v): %v, %d, not %v, %d", b, got, e, want, wantError)
	}
}

// P6.1

func TestSumExamples(t *testing.T) {
	for s, want := range map[string]int{"": 65535, "123456789": 10673, "A": 0xB915, "\x00": 0xE1F0, "\xff\xff": 0x0000, "\xff": 0xFF00} {
		if sum := frame.Sum([]byte(s)); sum != want {
			t.Errorf("Sum(%q): %d, not %d", s, sum, want)
		}
	}
	if sum := frame.Sum(nil); sum != 65535 {
		t.Errorf("Sum of nil: %d", sum)
	}
}

// TestSum compares Sum with a computation bit by bit, for payloads and for longer inputs.
func TestSum(t *testing.T) {
	l := payloads()
	for n := range 1 << 16 {
		l = append(l, []byte{byte(n >> 8), byte(n)})
	}
	s := source(2)
	for _, n := range []int{4097, 10000, 1 << 17} {
		l = append(l, s.bytes(n))
	}
	for _, b := range l {
		if sum := frame.Sum(b); sum != shift(65535, b) || sum < 0 || sum > 65535 {
			t.Fatalf("Sum(%v): %d, not %d", b, sum, shift(65535, b))
		}
	}
}

// P6.2

func TestPackExamples(t *testing.T) {
	for _, c := range []struct{ b, want []byte }{
		{nil, []byte{192, 255, 255, 192}}, {[]byte{}, []byte{192, 255, 255, 192}}, {[]byte("123456789"), []byte{192, '1', '2', '3', '4', '5', '6', '7', '8', '9', 0x29, 0xB1, 192}},
		{[]byte("A"), []byte{192, 'A', 0xB9, 0x15, 192}}, {[]byte{255, 255}, []byte{192, 255, 255, 0, 0, 192}},
		{[]byte{192}, []byte{192, 219, 220, 56, 188, 192}}, {[]byte{219}, []byte{192, 219, 221, 155, 230, 192}},
	} {
		if got, e := frame.Pack(c.b); !bytes.Equal(got, c.want) || e != api.OK {
			t.Errorf("Pack(%v): %v, %d, not %v", c.b, got, e, c.want)
		}
	}
}

func TestPack(t *testing.T) {
	for _, b := range append(payloads(), longPayload(t)) {
		got, e := frame.Pack(b)
		if !bytes.Equal(got, packed(b)) || e != api.OK {
			t.Fatalf("Pack(%v): %v, %d, not %v", b, got, e, packed(b))
		}
	}
	if b, e := frame.Pack(longPayload(t)); len(b) != longest || e != api.OK {
		t.Errorf("the longest frame has %d bytes, %d", len(b), e)
	}
}

func TestPackLimit(t *testing.T) {
	s := source(3)
	for _, n := range []int{api.MaxPayload + 1, api.MaxPayload + 2, 2 * api.MaxPayload, longest, 1 << 20} {
		for _, b := range [][]byte{make([]byte, n), s.bytes(n), bytes.Repeat([]byte{192}, n)} {
			if got, e := frame.Pack(b); len(got) != 0 || e != api.ErrLimit {
				t.Errorf("Pack of %d bytes: %d bytes, %d", n, len(got), e)
			}
		}
	}
}

// P6.3

func TestUnpackExamples(t *testing.T) {
	for _, c := range []struct {
		b, want []byte
		e       api.Errno
	}{
		{[]byte{192, 192}, nil, api.ErrShort}, {[]byte{192, 219, 192}, nil, api.ErrForm}, {[]byte{192, 219}, nil, api.ErrShort}, {[]byte{192, 0, 0, 192}, nil, api.ErrSum}, {[]byte{192, 255, 255, 192, 1}, nil, api.ErrForm},
		{[]byte{192, 255, 255, 192}, nil, api.OK}, {[]byte{192, 219, 220, 56, 188, 192}, []byte{192}, api.OK}, {[]byte{192, 219, 221, 155, 230, 192}, []byte{219}, api.OK},
		{nil, nil, api.ErrShort}, {[]byte{}, nil, api.ErrShort}, {[]byte{192}, nil, api.ErrShort}, {[]byte{0}, nil, api.ErrForm}, {[]byte{191}, nil, api.ErrForm}, {[]byte{219}, nil, api.ErrForm}, {[]byte{219, 220, 255, 255, 192}, nil, api.ErrForm}, {[]byte{255, 255, 192}, nil, api.ErrForm}, {[]byte{1, 219, 5}, nil, api.ErrForm},
		{[]byte{192, 255}, nil, api.ErrShort}, {[]byte{192, 255, 192}, nil, api.ErrShort}, {[]byte{192, 219, 220, 192}, nil, api.ErrShort}, {[]byte{192, 219, 220}, nil, api.ErrShort}, {[]byte{192, 255, 255}, nil, api.ErrShort}, {[]byte{192, 255, 255, 219}, nil, api.ErrShort},
		{[]byte{192, 219, 219, 220, 192}, nil, api.ErrForm}, {[]byte{192, 219, 5}, nil, api.ErrForm}, {[]byte{192, 219, 222, 192}, nil, api.ErrForm}, {[]byte{192, 219, 0, 219}, nil, api.ErrForm}, {[]byte{192, 219, 192, 192}, nil, api.ErrForm}, {[]byte{192, 219, 219}, nil, api.ErrForm},
		// bytes behind the frame come before what its content is, and after what stands before them
		{[]byte{192, 192, 192}, nil, api.ErrForm}, {[]byte{192, 192, 255, 255, 192}, nil, api.ErrForm}, {[]byte{192, 0, 0, 192, 0}, nil, api.ErrForm}, {[]byte{192, 255, 255, 192, 219}, nil, api.ErrForm}, {[]byte{192, 255, 255, 192, 192, 255, 255, 192}, nil, api.ErrForm}, {[]byte{192, 192, 219}, nil, api.ErrForm}, {[]byte{192, 255, 192, 219, 5}, nil, api.ErrForm},
		{[]byte{192, 220, 220, 192}, nil, api.ErrSum}, {[]byte{192, 'A', 0x15, 0xB9, 192}, nil, api.ErrSum}, {[]byte{192, 'B', 0xB9, 0x15, 192}, nil, api.ErrSum}, {[]byte{192, 'A', 0xB9, 0x15, 192}, []byte{'A'}, api.OK},
	} {
		isUnpacked(t, c.b, c.want, c.e)
	}
}

// TestUnpackShort compares Unpack with a search for each error, for all short sequences of a few bytes.
func TestUnpackShort(t *testing.T) {
	some := []byte{192, 219, 220, 221, 0, 255}
	for length := range 8 {
		b := make([]byte, length)
		count := 1
		for range length {
			count *= len(some)
		}
		for n := range count {
			for i := range b {
				b[i] = some[n%len(some)]
				n /= len(some)
			}
			want, e := unpacked(b)
			isUnpacked(t, b, want, e)
		}
	}
}

func TestUnpackLimit(t *testing.T) {
	s := source(4)
	for _, n := range []int{api.MaxPayload + 1, api.MaxPayload + 2, 2*api.MaxPayload + 4, 1 << 17} {
		for _, b := range [][]byte{make([]byte, n), s.bytes(n), bytes.Repeat([]byte{219}, n)} {
			isUnpacked(t, packed(b), nil, api.ErrLimit)
			isUnpacked(t, packed(b)[:n], nil, api.ErrShort)
			isUnpacked(t, append(packed(b), 0), nil, api.ErrForm)
			isUnpacked(t, slices.Insert(packed(b), 1, 219, 5), nil, api.ErrForm)
		}
	}
	b := s.bytes(api.MaxPayload)
	isUnpacked(t, packed(b), b, api.OK)
	isUnpacked(t, enclose(append(b, 0, 0)), nil, api.ErrSum)
	isUnpacked(t, enclose(append(b, 0, 0, 0)), nil, api.ErrLimit)
}

// P6.5

func TestUnpackPack(t *testing.T) {
	for _, b := range append(payloads(), longPayload(t)) {
		f, e := frame.Pack(b)
		if e != api.OK {
			t.Fatalf("Pack(%v): %d", b, e)
		}
		isUnpacked(t, f, b, api.OK)
		if f[0] != 192 || bytes.IndexByte(f[1:], 192) != len(f)-2 {
			t.Fatalf("Pack(%v) has other bytes 192: %v", b, f)
		}
	}
}

func TestPrefixes(t *testing.T) {
	for _, b := range payloads() {
		f := packed(b)
		step := 1 + len(f)/100
		for n := 0; n < len(f); n += step {
			isUnpacked(t, f[:n], nil, api.ErrShort)
		}
		isUnpacked(t, f[:len(f)-1], nil, api.ErrShort)
		isUnpacked(t, f[:len(f)-2], nil, api.ErrShort)
	}
	f := packed(longPayload(t))
	for n := range f {
		isUnpacked(t, f[:n], nil, api.ErrShort)
	}
}

// TestChanges changes frames in each way that is not far away: one byte is replaced, left out or inserted.
func TestChanges(t *testing.T) {
	check := func(b []byte) {
		want, e := unpacked(b)
		isUnpacked(t, b, want, e)
		if e == api.OK && !bytes.Equal(packed(want), b) {
			t.Fatalf("%v is not the frame of %v", b, want)
		}
	}
	s := source(5)
	for _, b := range [][]byte{nil, {192}, {219}, {5}, {1, 2, 3}, {192, 219, 220, 221}, s.bytes(9), s.bytes(12, 192, 219), s.bytes(20)} {
		f := packed(b)
		for i := range f {
			check(slices.Delete(slices.Clone(f), i, i+1))
			for c := range 256 {
				g := slices.Clone(f)
				g[i] = byte(c)
				check(g)
				check(slices.Insert(slices.Clone(f), i, byte(c)))
			}
		}
		for c := range 256 {
			isUnpacked(t, append(packed(b), byte(c)), nil, api.ErrForm)
			isUnpacked(t, append(packed(b), byte(c), 192), nil, api.ErrForm)
		}
	}
}

// TestEscapes puts a byte 219 at each place of a frame, before bytes with which it forms a pair and before others.
func TestEscapes(t *testing.T) {
	for _, b := range [][]byte{{1, 2, 3, 4}, {220, 220, 221}, {192, 219, 5}} {
		f := packed(b)
		for i := 1; i < len(f); i++ {
			isUnpacked(t, slices.Concat(f[:i], []byte{219}), nil, errorAfter(f[:i]))
			for c := range 256 {
				g := slices.Concat(f[:i], []byte{219, byte(c)}, f[i:])
				want, e := unpacked(g)
				if c != 220 && c != 221 {
					want, e = nil, api.ErrForm
				}
				isUnpacked(t, g, want, e)
			}
		}
	}
}

// errorAfter is the error of a prefix of a frame with a byte 219 behind it.
func errorAfter(prefix []byte) api.Errno {
	if prefix[len(prefix)-1] == 219 {
		return api.ErrForm
	}
	return api.ErrShort
}

func TestInvertedBits(t *testing.T) {
	for _, b := range append(payloads()[:420], longPayload(t)) {
		content := slices.Concat(b, sumBytes(b))
		for i := range b {
			if i > 100 && i%512 > 1 {
				continue
			}
			for bit := range 8 {
				content[i] ^= 1 << bit
				isUnpacked(t, enclose(content), nil, api.ErrSum)
				content[i] ^= 1 << bit
			}
		}
	}
}

// P6.4

func samePayloads(a, b [][]byte) bool {
	return slices.EqualFunc(a, b, bytes.Equal)
}

func isFed(t *testing.T, rest, b, wantRest []byte, want [][]byte) {
	if gotRest, got := frame.Feed(rest, b); !bytes.Equal(gotRest, wantRest) || !samePayloads(got, want) {
		t.Helper()
		t.Fatalf("Feed(%v, %v): %v, %v, not %v, %v", rest, b, gotRest, got, wantRest, want)
	}
}

func TestFeedExamples(t *testing.T) {
	none := []byte{192, 255, 255, 192}
	for _, c := range []struct {
		rest, b, wantRest []byte
		want              [][]byte
	}{
		{[]byte{1, 192, 255}, []byte{255, 192, 7}, []byte{192, 7}, [][]byte{nil}}, {nil, []byte{192, 0, 192, 255, 255, 192}, []byte{192}, [][]byte{nil}},
		{nil, nil, nil, nil}, {[]byte{}, []byte{}, nil, nil}, {nil, []byte{1, 2, 3}, nil, nil}, {[]byte{5, 6}, []byte{7}, nil, nil}, {[]byte{5, 6}, nil, nil, nil}, {[]byte{219}, []byte{220}, nil, nil},
		{nil, []byte{192}, []byte{192}, nil}, {[]byte{192}, nil, []byte{192}, nil}, {nil, []byte{9, 192}, []byte{192}, nil}, {[]byte{9, 192, 4}, nil, []byte{192, 4}, nil}, {[]byte{192}, []byte{192}, []byte{192}, nil}, {nil, bytes.Repeat([]byte{192}, 20), []byte{192}, nil},
		{nil, none, []byte{192}, [][]byte{nil}}, {none, nil, []byte{192}, [][]byte{nil}}, {none, none, []byte{192}, [][]byte{nil, nil}}, {none[:2], none[2:], []byte{192}, [][]byte{nil}},
		{nil, []byte{192, 255, 255, 192, 255, 255, 192}, []byte{192}, [][]byte{nil, nil}}, {nil, []byte{255, 255, 192, 255, 255, 192, 255, 255}, []byte{192, 255, 255}, [][]byte{nil}},
		{nil, slices.Concat([]byte{3, 219}, packed([]byte("A")), []byte{0, 219, 220}, packed([]byte{192, 219}), []byte{8}), []byte{192, 8}, [][]byte{[]byte("A"), {192, 219}}},
		{packed([]byte("A")), packed([]byte("B"))[1:], []byte{192}, [][]byte{[]byte("A"), []byte("B")}},
		{nil, []byte{192, 219, 192, 255, 255, 192, 219}, []byte{192, 219}, [][]byte{nil}}, {nil, []byte{192, 255, 255, 1, 192, 255, 192, 255, 255}, []byte{192, 255, 255}, nil},
		{nil, []byte{192, 'A', 0xB9, 0x15, 192, 'A', 0xB9, 0x16, 192}, []byte{192}, [][]byte{{'A'}}},
	} {
		isFed(t, c.rest, c.b, c.wantRest, c.want)
	}
}

// TestFeedRests has rests as long as a frame, and by one byte longer or shorter.
func TestFeedRests(t *testing.T) {
	s := source(6)
	for _, n := range []int{longest - 2, longest - 1, longest, longest + 1, longest + 2, 2 * longest, 1 << 17} {
		long := append([]byte{192}, s.bytes(n-1, 0, 219, 220, 255)...)
		want := long
		if n > longest {
			want = nil
		}
		garbage := []byte{7, 192, 255, 255, 192, 219}
		for _, i := range []int{0, 1, 5, n - 1, n} {
			isFed(t, long[:i], long[i:], want, nil)
			isFed(t, slices.Concat(garbage, long[:i]), long[i:], want, [][]byte{nil})
			isFed(t, long[:i], slices.Concat(long[i:], []byte{192, 255, 255, 192, 9}), []byte{192, 9}, [][]byte{nil})
		}
		isFed(t, nil, long[1:], nil, nil)
	}
	b := longPayload(t)
	f := packed(b)
	for _, i := range []int{0, 1, longest / 2, longest - 1, longest} {
		isFed(t, f[:i], f[i:], []byte{192}, [][]byte{b})
	}
	isFed(t, f[:longest-1], []byte{0}, slices.Concat(f[:longest-1], []byte{0}), nil)
	isFed(t, f[:longest-1], []byte{0, 0}, nil, nil)
	isFed(t, packed(make([]byte, api.MaxPayload+1)), nil, []byte{192}, nil)
}

// TestFeed compares Feed with a search for all bytes 192, for all short streams of a few bytes and for long ones.
func TestFeed(t *testing.T) {
	s := source(7)
	for range 20000 {
		stream := s.bytes(s.next(30), 192, 192, 255, 255, 219, 220, 0)
		i := s.next(len(stream) + 1)
		rest, payloads := fed(stream)
		isFed(t, stream[:i], stream[i:], rest, payloads)
	}
	for range 50 {
		stream := s.stream()
		i := s.next(len(stream) + 1)
		rest, payloads := fed(stream)
		isFed(t, stream[:i], stream[i:], rest, payloads)
	}
}

// stream returns a stream of frames, some of which are damaged or share a byte 192, and of other bytes.
func (s *source) stream() []byte {
	var stream []byte
	for range s.next(12) {
		f := packed(s.bytes(s.next(40), 192, 219, 220, 1, 2, 3))
		switch s.next(7) {
		case 0:
			f[s.next(len(f))] = byte(s.next(256))
		case 1:
			f = f[:s.next(len(f))]
		case 2:
			f = f[1:]
		case 3:
			f = slices.Concat(s.bytes(s.next(9)), f)
		case 4:
			f = packed(s.bytes(s.next(5000)))
		}
		stream = append(stream, f...)
	}
	return stream
}

// P6.6

// feedAll feeds a stream in pieces of n bytes.
func feedAll(stream []byte, n int) ([]byte, [][]byte) {
	var rest []byte
	var all [][]byte
	for piece := range slices.Chunk(stream, n) {
		var payloads [][]byte
		rest, payloads = frame.Feed(rest, piece)
		all = append(all, payloads...)
	}
	return rest, all
}

func TestDivisions(t *testing.T) {
	s := source(8)
	for range 40 {
		stream := s.stream()
		rest, payloads := fed(stream)
		for _, n := range []int{1, 2, 3, 7, 64, 1 + s.next(3000), len(stream) + 1} {
			if n == 1 && len(stream) > 6000 {
				continue
			}
			if r, l := feedAll(stream, n); !bytes.Equal(r, rest) || !samePayloads(l, payloads) {
				t.Fatalf("in pieces of %d bytes: %v, %v, not %v, %v: %v", n, r, l, rest, payloads, stream)
			}
		}
		for i := 0; i <= len(stream); i += 1 + len(stream)/1000 {
			r, first := frame.Feed(nil, stream[:i])
			r, second := frame.Feed(r, stream[i:])
			if l := append(first, second...); !bytes.Equal(r, rest) || !samePayloads(l, payloads) {
				t.Fatalf("divided at %d: %v, %v, not %v, %v: %v", i, r, l, rest, payloads, stream)
			}
		}
	}
}

// TestLongDivisions has streams whose rests grow beyond the length of a frame, in pieces.
func TestLongDivisions(t *testing.T) {
	s := source(10)
	b := longPayload(t)
	f := packed(b)
	for _, stream := range [][]byte{
		append([]byte{192}, make([]byte, longest)...),
		slices.Concat([]byte{192}, make([]byte, longest-1)),
		slices.Concat([]byte{192}, make([]byte, 3*longest), f, []byte{9}),
		slices.Concat(f, s.bytes(longest+7, 1, 2, 219), f, f[1:], []byte{5}),
		slices.Concat(f[:longest-1], []byte{220}, f, f[:longest-1]),
	} {
		rest, payloads := fed(stream)
		for _, n := range []int{97, 4096, longest - 1, longest, longest + 1, len(stream)} {
			if r, l := feedAll(stream, n); !bytes.Equal(r, rest) || !samePayloads(l, payloads) {
				t.Fatalf("in pieces of %d bytes: %d bytes and %d payloads, not %d and %d", n, len(r), len(l), len(rest), len(payloads))
			}
		}
	}
}

// TestFramesAreFound has frames with bytes other than 192 before, between and after them.
func TestFramesAreFound(t *testing.T) {
	s := source(11)
	noise := func() []byte {
		b := s.bytes(s.next(12))
		return bytes.ReplaceAll(b, []byte{192}, []byte{219})
	}
	for range 500 {
		stream := noise()
		var want [][]byte
		for range 1 + s.next(5) {
			b := s.bytes(s.next(30), 192, 219, 0, 1)
			stream = slices.Concat(stream, packed(b), noise())
			want = append(want, b)
		}
		_, got := frame.Feed(nil, stream)
		// The noise between two frames may be the content of a frame itself: a checksum holds by chance.
		for _, b := range want {
			i := slices.IndexFunc(got, func(c []byte) bool { return bytes.Equal(b, c) })
			if i < 0 {
				t.Fatalf("Feed(%v) does not find %v: %v", stream, b, got)
			}
			got = got[i+1:]
		}
	}
}

// TestMemory checks R5: no argument changes, not even behind its end, and no result shares memory with it or with another one.
func TestMemory(t *testing.T) {
	all := slices.Concat([]byte{5}, packed([]byte("A")), packed([]byte{192, 219})[1:], []byte{1, 2, 3, 4, 5, 6})
	before := slices.Clone(all)
	end := len(all) - 4
	results := func() [][]byte {
		pack, _ := frame.Pack(all[1:4])
		again, _ := frame.Pack(all[1:4])
		unpack, _ := frame.Unpack(all[1:6])
		rest, payloads := frame.Feed(all[:3], all[3:end])
		whole, others := frame.Feed(nil, all[:end])
		kept, _ := frame.Feed(all[:end], nil)
		l := [][]byte{pack, again, unpack, rest, whole, kept}
		return append(append(l, payloads...), others...)
	}
	l := results()
	want := [][]byte{packed(all[1:4]), packed(all[1:4]), []byte("A"), {192, 1, 2}, {192, 1, 2}, {192, 1, 2}, []byte("A"), {192, 219}, []byte("A"), {192, 219}}
	if !samePayloads(l, want) {
		t.Fatalf("results: %v, not %v", l, want)
	}
	for i, b := range l {
		b = b[:cap(b)]
		for k := range b {
			b[k] = byte(100 + i)
		}
	}
	for i, b := range l {
		for _, c := range b {
			if int(c) != 100+i {
				t.Error("result", i, "shares memory with another one")
			}
		}
	}
	frame.Sum(all[:3])
	if !bytes.Equal(all, before) {
		t.Error("an argument was changed:", all)
	}
	if l := results(); !samePayloads(l, want) {
		t.Error("results of equal calls differ:", l)
	}
}
