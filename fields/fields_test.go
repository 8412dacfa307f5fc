package fields_test

import (
	"bytes"
	"math"
	"math/big"
	"slices"
	"strings"
	"testing"

	"chargenet/api"
	"chargenet/fields"
)

// source is a sequence of numbers that are the same in every run.
type source uint64

func (s *source) next(n int) int {
	*s = *s*6364136223846793005 + 1442695040888963407
	return int(uint64(*s) >> 33 % uint64(n))
}

// bytes returns n bytes out of some bytes, or out of all.
func (s *source) bytes(n int, some ...byte) []byte {
	b := make([]byte, n)
	for i := range b {
		b[i] = byte(s.next(256))
		if len(some) > 0 {
			b[i] = some[s.next(len(some))]
		}
	}
	return b
}

// int returns an integer of any size.
func (s *source) int() int {
	n := s.next(1<<31)<<33 ^ s.next(1<<31)<<10 ^ s.next(1<<10)
	return n >> s.next(64)
}

// encoded is the encoding of an integer, by divisions by 128.
func encoded(n int) []byte {
	u := new(big.Int).Mul(big.NewInt(2), big.NewInt(int64(n)))
	if n < 0 {
		u.Neg(u).Sub(u, big.NewInt(1))
	}
	var b []byte
	for {
		group := new(big.Int)
		u.DivMod(u, big.NewInt(128), group)
		if u.Sign() == 0 {
			return append(b, byte(group.Int64()))
		}
		b = append(b, byte(group.Int64()+128))
	}
}

// read is an integer that is read at the first byte of b, and the bytes behind it.
func read(b []byte) (int, []byte, api.Errno) {
	k := slices.IndexFunc(b, func(c byte) bool { return c < 128 })
	if k < 0 {
		k = len(b)
	}
	if k >= 10 {
		return 0, nil, api.ErrForm
	}
	if k == len(b) {
		return 0, nil, api.ErrShort
	}
	u := new(big.Int)
	for i := k; i >= 0; i-- {
		u.Mul(u, big.NewInt(128)).Add(u, big.NewInt(int64(b[i]%128)))
	}
	n := new(big.Int).Rsh(u, 1)
	if u.Bit(0) == 1 {
		n.Not(n)
	}
	if !n.IsInt64() || !bytes.Equal(encoded(int(n.Int64())), b[:k+1]) {
		return 0, nil, api.ErrForm
	}
	return int(n.Int64()), b[k+1:], api.OK
}

// readData is a length and as many bytes that are read at the first byte of b, and the bytes behind them.
func readData(b []byte) ([]byte, []byte, api.Errno) {
	n, b, e := read(b)
	switch {
	case e != api.OK:
		return nil, nil, e
	case n < 0:
		return nil, nil, api.ErrForm
	case n > len(b):
		return nil, nil, api.ErrShort
	}
	return b[:n], b[n:], api.OK
}

// readRecord is the record that b encodes.
func readRecord(b []byte) ([]api.Field, api.Errno) {
	l := []api.Field{{Tag: 0}}
	for len(b) > 0 {
		if len(l) == 257 {
			return nil, api.ErrLimit
		}
		tag, rest, e := read(b)
		if e != api.OK {
			return nil, e
		}
		if tag > 1000 || tag <= l[len(l)-1].Tag {
			return nil, api.ErrForm
		}
		data, rest, e := readData(rest)
		if e != api.OK {
			return nil, e
		}
		l = append(l, api.Field{Tag: tag, Data: data})
		b = rest
	}
	return l[1:], api.OK
}

// readList is the list that b encodes.
func readList(b []byte) ([][]byte, api.Errno) {
	n, b, e := read(b)
	switch {
	case e != api.OK:
		return nil, e
	case n < 0:
		return nil, api.ErrForm
	case n > 256:
		return nil, api.ErrLimit
	}
	l := make([][]byte, n)
	for i := range l {
		if l[i], b, e = readData(b); e != api.OK {
			return nil, e
		}
	}
	if len(b) > 0 {
		return nil, api.ErrForm
	}
	return l, api.OK
}

// recordOf is the encoding of fields, valid or not.
func recordOf(l ...api.Field) []byte {
	var b []byte
	for _, f := range l {
		b = slices.Concat(b, encoded(f.Tag), encoded(len(f.Data)), f.Data)
	}
	return b
}

// listOf is the encoding of elements.
func listOf(l ...[]byte) []byte {
	b := encoded(len(l))
	for _, element := range l {
		b = slices.Concat(b, encoded(len(element)), element)
	}
	return b
}

func sameFields(a, b []api.Field) bool {
	return slices.EqualFunc(a, b, func(f, g api.Field) bool { return f.Tag == g.Tag && bytes.Equal(f.Data, g.Data) })
}

func sameElements(a, b [][]byte) bool {
	return slices.EqualFunc(a, b, bytes.Equal)
}

// field is a field with the bytes of a string.
func field(tag int, data string) api.Field {
	return api.Field{Tag: tag, Data: []byte(data)}
}

// tagged are fields without data.
func tagged(tags ...int) []api.Field {
	l := make([]api.Field, len(tags))
	for i, tag := range tags {
		l[i].Tag = tag
	}
	return l
}

// numbered are n fields with the tags from 1 on.
func numbered(n int) []api.Field {
	l := make([]api.Field, n)
	for i := range l {
		l[i] = field(i+1, "x")
	}
	return l
}

// repeated is n times the byte c.
func repeated(c byte, n int) []byte {
	return bytes.Repeat([]byte{c}, n)
}

// integers are integers around all powers of 2, the least and the greatest ones, and others.
func integers() []int {
	l := []int{math.MinInt, math.MinInt + 1, math.MaxInt, math.MaxInt - 1}
	for i := range 63 {
		for d := -3; d <= 3; d++ {
			l = append(l, 1<<i+d, -1<<i+d)
		}
	}
	s := source(1)
	for range 2000 {
		l = append(l, s.int())
	}
	return l
}

// records are records of many kinds.
func records() [][]api.Field {
	l := [][]api.Field{nil, {}, {field(1, "")}, {field(1000, "")}, {field(1, "ab"), field(3, "")}, {field(63, "a"), field(64, "b"), field(65, "c")}, {field(1, "x"), field(1000, "y")}, numbered(255), numbered(256), {field(7, strings.Repeat("z", 5000))}}
	s := source(2)
	for range 300 {
		var record []api.Field
		tag := 0
		for range s.next(20) {
			tag += 1 + s.next(50)
			record = append(record, api.Field{Tag: tag, Data: s.bytes(s.next(4) * s.next(4) * s.next(20))})
		}
		l = append(l, record)
	}
	return l
}

// lists are lists of many kinds.
func lists() [][][]byte {
	l := [][][]byte{nil, {}, {nil}, {{}}, {{0}}, {{255}, {}}, {[]byte("a"), {}}, make([][]byte, 63), make([][]byte, 64), make([][]byte, 255), make([][]byte, 256), {make([]byte, 63), make([]byte, 64)}, {make([]byte, 9000), {1}}}
	s := source(3)
	for range 300 {
		var list [][]byte
		for range s.next(20) {
			list = append(list, s.bytes(s.next(4)*s.next(4)*s.next(20)))
		}
		l = append(l, list)
	}
	return l
}

// inputs are bytes of which many are nearly an encoding.
func inputs() [][]byte {
	var l [][]byte
	for n := range 1 << 16 {
		l = append(l, []byte{byte(n), byte(n >> 8)}, []byte{2, byte(n), byte(n >> 8)}, []byte{4, byte(n), byte(n >> 8), 0})
	}
	s := source(4)
	for range 100000 {
		l = append(l, s.bytes(s.next(10), 0, 0, 1, 2, 2, 4, 4, 6, 8), s.bytes(s.next(14), 0, 1, 2, 4, 6, 127, 128, 129, 255))
	}
	return l
}

func isTaken(t *testing.T, b []byte, want int, wantError api.Errno) {
	if got, e := fields.TakeInt(b); got != want || e != wantError {
		t.Helper()
		t.Fatalf("TakeInt(%v): %d, %d, not %d, %d", b, got, e, want, wantError)
	}
}

func isRecord(t *testing.T, b []byte, want []api.Field, wantError api.Errno) {
	if got, e := fields.Take(b); !sameFields(got, want) || e != wantError {
		t.Helper()
		t.Fatalf("Take(%v): %v, %d, not %v, %d", b, got, e, want, wantError)
	}
}

func isList(t *testing.T, b []byte, want [][]byte, wantError api.Errno) {
	if got, e := fields.TakeList(b); !sameElements(got, want) || e != wantError {
		t.Helper()
		t.Fatalf("TakeList(%v): %v, %d, not %v, %d", b, got, e, want, wantError)
	}
}

// P7.1

func TestPutIntExamples(t *testing.T) {
	for _, c := range []struct {
		n    int
		want []byte
	}{
		{0, []byte{0}}, {-1, []byte{1}}, {1, []byte{2}}, {-2, []byte{3}}, {63, []byte{126}}, {-64, []byte{127}}, {64, []byte{128, 1}}, {-65, []byte{129, 1}}, {65, []byte{130, 1}},
		{8191, []byte{254, 127}}, {-8192, []byte{255, 127}}, {8192, []byte{128, 128, 1}}, {-8193, []byte{129, 128, 1}}, {1000, []byte{208, 15}},
		{math.MinInt, append(repeated(255, 9), 1)}, {math.MaxInt, append([]byte{254}, append(repeated(255, 8), 1)...)}, {math.MinInt + 1, append([]byte{253}, append(repeated(255, 8), 1)...)}, {math.MaxInt - 1, append([]byte{252}, append(repeated(255, 8), 1)...)},
		{1<<62 - 1, append([]byte{254}, append(repeated(255, 7), 127)...)}, {-1 << 62, append(repeated(255, 8), 127)}, {1 << 62, append(repeated(128, 9), 1)}, {-1<<62 - 1, append([]byte{129}, append(repeated(128, 8), 1)...)},
	} {
		if got := fields.PutInt(c.n); !bytes.Equal(got, c.want) {
			t.Errorf("PutInt(%d): %v, not %v", c.n, got, c.want)
		}
		isTaken(t, c.want, c.n, api.OK)
	}
}

func TestPutInt(t *testing.T) {
	for _, n := range integers() {
		if got := fields.PutInt(n); !bytes.Equal(got, encoded(n)) {
			t.Fatalf("PutInt(%d): %v, not %v", n, got, encoded(n))
		}
	}
}

// P7.2

func TestTakeIntExamples(t *testing.T) {
	for _, c := range []struct {
		b []byte
		n int
		e api.Errno
	}{
		{[]byte{128}, 0, api.ErrShort}, {[]byte{128, 0}, 0, api.ErrForm}, {[]byte{2, 0}, 0, api.ErrForm}, {[]byte{128, 1}, 64, api.OK},
		{nil, 0, api.ErrShort}, {[]byte{}, 0, api.ErrShort}, {[]byte{255}, 0, api.ErrShort}, {[]byte{128, 128}, 0, api.ErrShort}, {[]byte{129, 0}, 0, api.ErrForm}, {[]byte{255, 255, 0}, 0, api.ErrForm}, {[]byte{128, 1, 0}, 0, api.ErrForm}, {[]byte{0, 0}, 0, api.ErrForm}, {[]byte{0, 128}, 0, api.ErrForm},
		{repeated(128, 8), 0, api.ErrShort}, {repeated(128, 9), 0, api.ErrShort}, {repeated(255, 9), 0, api.ErrShort}, {repeated(128, 10), 0, api.ErrForm}, {repeated(255, 10), 0, api.ErrForm}, {repeated(128, 11), 0, api.ErrForm}, {repeated(255, 11), 0, api.ErrForm}, {repeated(128, 1000), 0, api.ErrForm},
		{append(repeated(128, 9), 0), 0, api.ErrForm}, {append(repeated(128, 9), 1), 1 << 62, api.OK}, {append(repeated(128, 9), 2), 0, api.ErrForm}, {append(repeated(128, 9), 3), 0, api.ErrForm}, {append(repeated(255, 9), 127), 0, api.ErrForm}, {append(repeated(255, 9), 1), math.MinInt, api.OK}, {append(repeated(255, 9), 0), 0, api.ErrForm}, {append(repeated(255, 9), 2), 0, api.ErrForm},
		{append(repeated(128, 9), 1, 0), 0, api.ErrForm}, {append(repeated(128, 9), 1, 128), 0, api.ErrForm}, {append(repeated(128, 10), 0), 0, api.ErrForm}, {append(repeated(128, 10), 1), 0, api.ErrForm}, {append(repeated(128, 11), 1), 0, api.ErrForm}, {append(repeated(128, 8), 0), 0, api.ErrForm}, {append(repeated(128, 8), 127), 0x3f80000000000000, api.OK}, {append(repeated(128, 8), 2), 1 << 56, api.OK},
	} {
		isTaken(t, c.b, c.n, c.e)
	}
}

func TestTakeInt(t *testing.T) {
	for _, b := range inputs() {
		want, rest, e := read(b)
		if e == api.OK && len(rest) > 0 {
			want, e = 0, api.ErrForm
		}
		isTaken(t, b, want, e)
	}
}

// TestTakeIntShort finds the integers of all inputs of one and two bytes among the encodings of all integers that have as many.
func TestTakeIntShort(t *testing.T) {
	of := map[string]int{}
	for n := -8192; n < 8192; n++ {
		of[string(encoded(n))] = n
	}
	if len(of) != 1<<14 {
		t.Fatal("some integers have the same encoding")
	}
	for c := range 256 {
		for d := -1; d < 256; d++ {
			b := []byte{byte(c)}
			if d >= 0 {
				b = append(b, byte(d))
			}
			want, found := of[string(b)]
			switch {
			case found:
				isTaken(t, b, want, api.OK)
			case b[len(b)-1] >= 128 && c >= 128:
				isTaken(t, b, 0, api.ErrShort)
			default:
				isTaken(t, b, 0, api.ErrForm)
			}
		}
	}
}

// TestLongInts puts each byte at each place of encodings of nine, ten and eleven bytes.
func TestLongInts(t *testing.T) {
	s := source(5)
	for _, length := range []int{8, 9, 10, 11} {
		for at := range length {
			for c := range 256 {
				b := s.bytes(length, 128, 129, 255, 200)
				b[length-1] = byte(s.next(3))
				b[at] = byte(c)
				want, rest, e := read(b)
				if e == api.OK && len(rest) > 0 {
					want, e = 0, api.ErrForm
				}
				isTaken(t, b, want, e)
			}
		}
	}
}

// P7.3

func TestPutExamples(t *testing.T) {
	for _, c := range []struct {
		l    []api.Field
		want []byte
	}{
		{[]api.Field{field(1, "ab"), field(3, "")}, []byte{2, 4, 97, 98, 6, 0}}, {nil, nil}, {[]api.Field{}, nil}, {tagged(1), []byte{2, 0}}, {tagged(1000), []byte{208, 15, 0}}, {tagged(63, 64), []byte{126, 0, 128, 1, 0}},
		{[]api.Field{{Tag: 2, Data: make([]byte, 64)}}, append([]byte{4, 128, 1}, make([]byte, 64)...)}, {tagged(1, 2, 1000), []byte{2, 0, 4, 0, 208, 15, 0}},
	} {
		if got, e := fields.Put(c.l); !bytes.Equal(got, c.want) || e != api.OK {
			t.Errorf("Put(%v): %v, %d, not %v", c.l, got, e, c.want)
		}
	}
}

func TestPut(t *testing.T) {
	for _, l := range records() {
		if got, e := fields.Put(l); !bytes.Equal(got, recordOf(l...)) || e != api.OK {
			t.Fatalf("Put(%v): %v, %d, not %v", l, got, e, recordOf(l...))
		}
	}
}

func TestPutErrors(t *testing.T) {
	for _, c := range []struct {
		l    []api.Field
		want api.Errno
	}{
		{numbered(257), api.ErrLimit}, {make([]api.Field, 257), api.ErrLimit}, {numbered(1001), api.ErrLimit}, {make([]api.Field, 256), api.ErrRange}, {numbered(256), api.OK}, {append(tagged(0), numbered(256)...), api.ErrLimit},
		{tagged(0), api.ErrRange}, {tagged(1), api.OK}, {tagged(1000), api.OK}, {tagged(1001), api.ErrRange}, {tagged(-1), api.ErrRange}, {tagged(math.MinInt), api.ErrRange}, {tagged(math.MaxInt), api.ErrRange}, {tagged(1<<32 + 1), api.ErrRange},
		{tagged(1, 1), api.ErrInvalid}, {tagged(2, 1), api.ErrInvalid}, {tagged(1000, 1), api.ErrInvalid}, {tagged(1, 3, 2), api.ErrInvalid}, {tagged(1, 3, 3), api.ErrInvalid}, {tagged(1000, 1000), api.ErrInvalid}, {tagged(1, 2), api.OK},
		{tagged(5, 0), api.ErrRange}, {tagged(5, -7), api.ErrRange}, {tagged(1000, 1001), api.ErrRange}, {tagged(5, 5, 0), api.ErrInvalid}, {tagged(5, 0, 5), api.ErrRange}, {tagged(5, 5, 1001), api.ErrInvalid}, {tagged(0, 5, 5), api.ErrRange}, {tagged(1001, 5, 4), api.ErrRange},
	} {
		b, e := fields.Put(c.l)
		if e != c.want || e != api.OK && len(b) != 0 {
			t.Errorf("Put(%v): %v, %d, not %d", c.l, b, e, c.want)
		}
	}
}

// TestPutTags puts records of two fields with all tags near the ends of their range.
func TestPutTags(t *testing.T) {
	tags := []int{-1, 0, 1, 2, 3, 499, 500, 501, 998, 999, 1000, 1001, 1002}
	for _, a := range tags {
		for _, b := range tags {
			want := api.OK
			switch {
			case a < 1 || a > 1000 || b < 1 || b > 1000:
				want = api.ErrRange
			case b <= a:
				want = api.ErrInvalid
			}
			if _, e := fields.Put(tagged(a, b)); e != want {
				t.Errorf("Put of the tags %d and %d: %d, not %d", a, b, e, want)
			}
		}
	}
}

// P7.4

func TestTakeExamples(t *testing.T) {
	for _, c := range []struct {
		b    []byte
		want []api.Field
		e    api.Errno
	}{
		{[]byte{2, 4, 97}, nil, api.ErrShort}, {[]byte{6, 0, 2, 0}, nil, api.ErrForm}, {[]byte{0}, nil, api.ErrForm}, {[]byte{2, 4, 97, 98, 6, 0}, []api.Field{field(1, "ab"), field(3, "")}, api.OK}, {nil, nil, api.OK}, {[]byte{}, nil, api.OK},
		{[]byte{2, 0}, tagged(1), api.OK}, {[]byte{208, 15, 0}, tagged(1000), api.OK}, {[]byte{210, 15, 0}, nil, api.ErrForm}, {[]byte{210, 15}, nil, api.ErrForm}, {[]byte{1, 0}, nil, api.ErrForm}, {[]byte{1}, nil, api.ErrForm}, {[]byte{0, 0}, nil, api.ErrForm}, {append(repeated(255, 9), 1), nil, api.ErrForm}, {append([]byte{254}, append(repeated(255, 8), 1)...), nil, api.ErrForm},
		{[]byte{2}, nil, api.ErrShort}, {[]byte{2, 128}, nil, api.ErrShort}, {[]byte{2, 128, 0}, nil, api.ErrForm}, {[]byte{128}, nil, api.ErrShort}, {[]byte{130, 0}, nil, api.ErrForm}, {[]byte{208}, nil, api.ErrShort}, {repeated(128, 10), nil, api.ErrForm}, {repeated(128, 9), nil, api.ErrShort}, {append(repeated(128, 9), 2), nil, api.ErrForm},
		{[]byte{2, 1}, nil, api.ErrForm}, {[]byte{2, 1, 5}, nil, api.ErrForm}, {append([]byte{2}, append(repeated(255, 9), 1)...), nil, api.ErrForm}, {append([]byte{2, 254}, append(repeated(255, 8), 1)...), nil, api.ErrShort}, {append([]byte{2}, repeated(128, 10)...), nil, api.ErrForm}, {append([]byte{2}, repeated(128, 9)...), nil, api.ErrShort},
		{[]byte{2, 2}, nil, api.ErrShort}, {[]byte{2, 4, 97, 98, 6, 2}, nil, api.ErrShort}, {[]byte{2, 2, 97}, []api.Field{field(1, "a")}, api.OK}, {[]byte{2, 2, 97, 98}, nil, api.ErrShort}, {[]byte{2, 2, 97, 99}, nil, api.ErrForm}, {[]byte{2, 0, 2, 0}, nil, api.ErrForm}, {[]byte{2, 0, 2}, nil, api.ErrForm}, {[]byte{6, 0, 2, 128}, nil, api.ErrForm}, {[]byte{6, 0, 4}, nil, api.ErrForm}, {[]byte{6, 0, 8}, nil, api.ErrShort}, {[]byte{6, 0, 0}, nil, api.ErrForm}, {[]byte{6, 0, 128}, nil, api.ErrShort}, {[]byte{6, 0, 134, 0, 0}, nil, api.ErrForm},
		{[]byte{6, 1, 2, 0}, nil, api.ErrForm}, {[]byte{6, 6, 2, 0}, nil, api.ErrShort}, {[]byte{6, 4, 2, 0}, []api.Field{{Tag: 3, Data: []byte{2, 0}}}, api.OK},
	} {
		isRecord(t, c.b, c.want, c.e)
	}
}

func TestTake(t *testing.T) {
	for _, b := range inputs() {
		want, e := readRecord(b)
		isRecord(t, b, want, e)
	}
}

func TestTakeLimit(t *testing.T) {
	full := recordOf(numbered(256)...)
	isRecord(t, full, numbered(256), api.OK)
	for _, rest := range [][]byte{recordOf(field(257, "x")), {0}, {1}, {2, 0}, {128}, {128, 0}, {2}, {210, 15}, repeated(128, 10)} {
		isRecord(t, slices.Concat(full, rest), nil, api.ErrLimit)
		isRecord(t, slices.Concat(recordOf(numbered(255)...), encoded(256), encoded(len(rest)), rest), append(numbered(255), api.Field{Tag: 256, Data: rest}), api.OK)
	}
	isRecord(t, slices.Concat(recordOf(numbered(255)...), []byte{0}), nil, api.ErrForm)
	isRecord(t, slices.Concat(recordOf(numbered(255)...), []byte{128}), nil, api.ErrShort)
	isRecord(t, full[:len(full)-1], nil, api.ErrShort)
	isRecord(t, recordOf(tagged(make([]int, 257)...)...), nil, api.ErrForm)
}

func TestTakeTags(t *testing.T) {
	tags := []int{math.MinInt, -1000, -2, -1, 0, 1, 2, 3, 500, 501, 999, 1000, 1001, 1 << 32, math.MaxInt}
	for _, a := range tags {
		for _, b := range tags {
			l := []api.Field{field(a, "a"), field(b, "b")}
			if 1 <= a && a < b && b <= 1000 {
				isRecord(t, recordOf(l...), l, api.OK)
			} else {
				isRecord(t, recordOf(l...), nil, api.ErrForm)
			}
		}
	}
}

func TestTakeLengths(t *testing.T) {
	for _, n := range integers() {
		for _, size := range []int{0, 1, 63, 64, 200} {
			b := slices.Concat(encoded(4), encoded(n), make([]byte, size))
			want, e := readRecord(b)
			isRecord(t, b, want, e)
			switch {
			case n < 0:
				isRecord(t, b, nil, api.ErrForm)
			case n > size:
				isRecord(t, b, nil, api.ErrShort)
			}
		}
	}
}

// P7.5

func TestGet(t *testing.T) {
	for _, c := range []struct {
		l     []api.Field
		tag   int
		want  string
		found bool
	}{
		{[]api.Field{field(1, "ab"), field(3, "")}, 3, "", true}, {[]api.Field{field(1, "ab"), field(3, "")}, 1, "ab", true}, {[]api.Field{field(1, "ab"), field(3, "")}, 2, "", false}, {[]api.Field{field(5, "x"), field(5, "y")}, 5, "x", true},
		{nil, 1, "", false}, {[]api.Field{}, 0, "", false}, {tagged(4), 4, "", true}, {[]api.Field{field(5, ""), field(5, "y")}, 5, "", true}, {[]api.Field{field(9, "a"), field(7, "b"), field(8, "c"), field(7, "d")}, 7, "b", true}, {[]api.Field{field(9, "a"), field(7, "b"), field(8, "c")}, 8, "c", true}, {[]api.Field{field(9, "a"), field(7, "b")}, 9, "a", true},
		{[]api.Field{field(0, "z")}, 0, "z", true}, {[]api.Field{field(-4, "n")}, -4, "n", true}, {[]api.Field{field(-4, "n")}, 4, "", false}, {[]api.Field{field(1001, "m")}, 1001, "m", true}, {[]api.Field{field(math.MaxInt, "m"), field(math.MinInt, "l")}, math.MinInt, "l", true}, {numbered(1000), 1000, "x", true}, {numbered(1000), 1001, "", false}, {[]api.Field{field(1, "a")}, 1<<32 + 1, "", false},
	} {
		got, found := fields.Get(c.l, c.tag)
		if string(got) != c.want || found != c.found {
			t.Errorf("Get(%v, %d): %v, %t, not %q, %t", c.l, c.tag, got, found, c.want, c.found)
		}
		if !found && got != nil {
			t.Errorf("Get(%v, %d): not nil", c.l, c.tag)
		}
	}
}

// P7.6

func TestPutListExamples(t *testing.T) {
	for _, c := range []struct {
		l    [][]byte
		want []byte
	}{
		{[][]byte{[]byte("a"), nil}, []byte{4, 2, 97, 0}}, {[][]byte{[]byte("a"), {}}, []byte{4, 2, 97, 0}}, {nil, []byte{0}}, {[][]byte{}, []byte{0}}, {[][]byte{nil}, []byte{2, 0}}, {[][]byte{{0, 255}}, []byte{2, 4, 0, 255}},
		{make([][]byte, 64), append([]byte{128, 1}, make([]byte, 64)...)}, {make([][]byte, 256), append([]byte{128, 4}, make([]byte, 256)...)}, {[][]byte{make([]byte, 64)}, append([]byte{2, 128, 1}, make([]byte, 64)...)},
	} {
		if got, e := fields.PutList(c.l); !bytes.Equal(got, c.want) || e != api.OK {
			t.Errorf("PutList(%v): %v, %d, not %v", c.l, got, e, c.want)
		}
	}
}

func TestPutList(t *testing.T) {
	for _, l := range lists() {
		if got, e := fields.PutList(l); !bytes.Equal(got, listOf(l...)) || e != api.OK {
			t.Fatalf("PutList(%v): %v, %d, not %v", l, got, e, listOf(l...))
		}
	}
	for _, n := range []int{257, 258, 512, 1 << 16} {
		if got, e := fields.PutList(make([][]byte, n)); len(got) != 0 || e != api.ErrLimit {
			t.Errorf("PutList of %d elements: %v, %d", n, got, e)
		}
	}
}

// P7.7

func TestTakeListExamples(t *testing.T) {
	long := make([][]byte, 256)
	for _, c := range []struct {
		b    []byte
		want [][]byte
		e    api.Errno
	}{
		{[]byte{0, 0}, nil, api.ErrForm}, {[]byte{4, 2, 97, 0}, [][]byte{[]byte("a"), nil}, api.OK}, {[]byte{0}, nil, api.OK}, {nil, nil, api.ErrShort}, {[]byte{}, nil, api.ErrShort}, {[]byte{128}, nil, api.ErrShort}, {[]byte{128, 0}, nil, api.ErrForm}, {repeated(128, 10), nil, api.ErrForm}, {repeated(128, 9), nil, api.ErrShort},
		{[]byte{1}, nil, api.ErrForm}, {[]byte{1, 0}, nil, api.ErrForm}, {[]byte{3, 2}, nil, api.ErrForm}, {append(repeated(255, 9), 1), nil, api.ErrForm}, {append([]byte{254}, append(repeated(255, 8), 1)...), nil, api.ErrLimit},
		{append([]byte{128, 4}, make([]byte, 256)...), long, api.OK}, {append([]byte{128, 4}, make([]byte, 257)...), nil, api.ErrForm}, {append([]byte{128, 4}, make([]byte, 255)...), nil, api.ErrShort}, {append([]byte{130, 4}, make([]byte, 257)...), nil, api.ErrLimit}, {[]byte{130, 4}, nil, api.ErrLimit}, {[]byte{130, 4, 1}, nil, api.ErrLimit}, {[]byte{129, 4}, nil, api.ErrForm},
		{[]byte{2}, nil, api.ErrShort}, {[]byte{2, 1}, nil, api.ErrForm}, {[]byte{2, 1, 9}, nil, api.ErrForm}, {[]byte{2, 2}, nil, api.ErrShort}, {[]byte{2, 4, 9}, nil, api.ErrShort}, {[]byte{2, 2, 9}, [][]byte{{9}}, api.OK}, {[]byte{2, 2, 9, 9}, nil, api.ErrForm}, {[]byte{2, 128}, nil, api.ErrShort}, {[]byte{2, 128, 0}, nil, api.ErrForm}, {[]byte{2, 0, 128}, nil, api.ErrForm}, {[]byte{4, 0}, nil, api.ErrShort}, {[]byte{4, 0, 1}, nil, api.ErrForm}, {[]byte{4, 0, 2}, nil, api.ErrShort}, {[]byte{4, 4, 2}, nil, api.ErrShort}, {[]byte{4, 1, 128}, nil, api.ErrForm},
		{append([]byte{2}, append(repeated(255, 9), 1)...), nil, api.ErrForm}, {append([]byte{2, 254}, append(repeated(255, 8), 1)...), nil, api.ErrShort}, {append([]byte{2}, repeated(255, 10)...), nil, api.ErrForm}, {append([]byte{2}, append(repeated(128, 9), 2)...), nil, api.ErrForm},
	} {
		isList(t, c.b, c.want, c.e)
	}
}

func TestTakeList(t *testing.T) {
	for _, b := range inputs() {
		want, e := readList(b)
		isList(t, b, want, e)
	}
}

func TestTakeListNumbers(t *testing.T) {
	for _, n := range integers() {
		for _, size := range []int{0, 1, 3, 256, 300} {
			b := slices.Concat(encoded(n), make([]byte, size))
			switch {
			case n < 0:
				isList(t, b, nil, api.ErrForm)
			case n > 256:
				isList(t, b, nil, api.ErrLimit)
			case n > size:
				isList(t, b, nil, api.ErrShort)
			case n < size:
				isList(t, b, nil, api.ErrForm)
			default:
				isList(t, b, make([][]byte, n), api.OK)
			}
			b = slices.Concat(encoded(1), encoded(n), make([]byte, size))
			switch {
			case n < 0:
				isList(t, b, nil, api.ErrForm)
			case n > size:
				isList(t, b, nil, api.ErrShort)
			case n < size:
				isList(t, b, nil, api.ErrForm)
			default:
				isList(t, b, [][]byte{make([]byte, n)}, api.OK)
			}
		}
	}
}

// P7.8

func TestInverse(t *testing.T) {
	for _, n := range integers() {
		isTaken(t, fields.PutInt(n), n, api.OK)
	}
	for n := -70000; n < 70000; n++ {
		isTaken(t, fields.PutInt(n), n, api.OK)
	}
	for _, l := range records() {
		b, _ := fields.Put(l)
		isRecord(t, b, l, api.OK)
		for _, f := range l {
			if data, found := fields.Get(l, f.Tag); !found || !bytes.Equal(data, f.Data) {
				t.Fatalf("Get(%v, %d): %v, %t", l, f.Tag, data, found)
			}
		}
	}
	for _, l := range lists() {
		b, _ := fields.PutList(l)
		isList(t, b, l, api.OK)
	}
}

// P7.9

func TestOneForm(t *testing.T) {
	for _, b := range inputs() {
		if n, e := fields.TakeInt(b); e == api.OK && !bytes.Equal(fields.PutInt(n), b) {
			t.Fatalf("TakeInt(%v): %d", b, n)
		}
		if l, e := fields.Take(b); e == api.OK {
			if again, e := fields.Put(l); e != api.OK || !bytes.Equal(again, b) {
				t.Fatalf("Take(%v): %v", b, l)
			}
		}
		if l, e := fields.TakeList(b); e == api.OK {
			if again, e := fields.PutList(l); e != api.OK || !bytes.Equal(again, b) {
				t.Fatalf("TakeList(%v): %v", b, l)
			}
		}
	}
}

// TestPrefixes takes every proper prefix of encodings. That of a record may be a shorter record, if a field ends there.
func TestPrefixes(t *testing.T) {
	for _, n := range integers() {
		b := encoded(n)
		for i := range b {
			isTaken(t, b[:i], 0, api.ErrShort)
		}
	}
	for _, l := range records() {
		b := recordOf(l...)
		whole := map[int]int{0: 0}
		for i := range l {
			whole[len(recordOf(l[:i]...))] = i
		}
		for i := range min(len(b), 700) {
			if count, ok := whole[i]; ok {
				isRecord(t, b[:i], l[:count], api.OK)
			} else {
				isRecord(t, b[:i], nil, api.ErrShort)
			}
		}
	}
	for _, l := range lists() {
		b := listOf(l...)
		for i := range min(len(b), 700) {
			isList(t, b[:i], nil, api.ErrShort)
		}
		isList(t, b[:len(b)-1], nil, api.ErrShort)
	}
}

// TestChanges replaces, inserts and deletes each byte of encodings.
func TestChanges(t *testing.T) {
	check := func(b []byte) {
		record, e := readRecord(b)
		isRecord(t, b, record, e)
		list, e := readList(b)
		isList(t, b, list, e)
	}
	for _, b := range [][]byte{recordOf(field(1, "ab"), field(3, ""), field(64, "xyz"), field(1000, "q")), listOf([]byte("a"), nil, []byte("xyz")), recordOf(api.Field{Tag: 1, Data: make([]byte, 64)}), listOf(make([]byte, 64), nil)} {
		for i := range b {
			check(slices.Delete(slices.Clone(b), i, i+1))
			for c := range 256 {
				other := slices.Clone(b)
				other[i] = byte(c)
				check(other)
				check(slices.Insert(slices.Clone(b), i, byte(c)))
			}
		}
		for c := range 256 {
			check(append(slices.Clone(b), byte(c)))
		}
	}
}

// R5: arguments stay as they are, and results are new memory.

// spare returns b with capacity behind it that is filled.
func spare(b []byte) []byte {
	return append(slices.Clone(b), repeated(170, 30)...)[:len(b)]
}

func spoil(b []byte) {
	b = b[:cap(b)]
	for i := range b {
		b[i] = ^b[i]
	}
}

func TestMemory(t *testing.T) {
	l := []api.Field{{Tag: 1, Data: spare([]byte("ab"))}, {Tag: 3, Data: spare(nil)}, {Tag: 4, Data: spare([]byte("c"))}}
	elements := [][]byte{l[0].Data, l[1].Data, l[2].Data}
	before := recordOf(l...)
	isUnchanged := func() {
		t.Helper()
		for _, f := range l {
			if !bytes.Equal(f.Data[len(f.Data):cap(f.Data)][:30], repeated(170, 30)) {
				t.Error("spare capacity was changed")
			}
		}
		if !bytes.Equal(recordOf(l...), before) {
			t.Error("an argument was changed")
		}
	}
	b, _ := fields.Put(l)
	spoil(b)
	b, _ = fields.PutList(elements)
	spoil(b)
	isUnchanged()
	for _, tag := range []int{1, 3, 4} {
		b, _ = fields.Get(l, tag)
		spoil(b)
		isUnchanged()
	}
	b = spare(before)
	first, _ := fields.Take(b)
	second, _ := fields.Take(b)
	for i := range first {
		spoil(first[i].Data)
		if !sameFields(first[i+1:], l[i+1:]) || !sameFields(second, l) || !bytes.Equal(b[:len(before)+30], append(slices.Clone(before), repeated(170, 30)...)) {
			t.Errorf("the data of field %d shares memory", i)
		}
	}
	b = spare(listOf(elements...))
	list, _ := fields.TakeList(b)
	for i := range list {
		spoil(list[i])
		if !sameElements(list[i+1:], elements[i+1:]) || !bytes.Equal(b[:len(b)+30], append(listOf(elements...), repeated(170, 30)...)) {
			t.Errorf("element %d shares memory", i)
		}
	}
	isUnchanged()
}
