package seal_test

import (
	"bytes"
	"math"
	"math/big"
	"slices"
	"strings"
	"testing"

	"chargenet/seal"
)

// source is a sequence of numbers that are the same in every run.
type source uint64

func (s *source) next(n int) int {
	*s = *s*6364136223846793005 + 1442695040888963407
	return int(uint64(*s) >> 33 % uint64(n))
}

func (s *source) word() uint64 {
	return uint64(s.next(1<<31))<<40 ^ uint64(s.next(1<<31))<<20 ^ uint64(s.next(1<<31))
}

func (s *source) bytes(n int) []byte {
	b := make([]byte, n)
	for i := range b {
		b[i] = byte(s.next(256))
	}
	return b
}

// number is a number of 64 bits. Its operations are those of mathematical integers, taken modulo 2^64.
type number struct{ big.Int }

func (n *number) add(m *number) {
	n.Add(&n.Int, &m.Int)
	n.SetBit(&n.Int, 64, 0)
}

func (n *number) xor(m *number) {
	n.Xor(&n.Int, &m.Int)
}

func (n *number) rotate(by uint) {
	n.Lsh(&n.Int, by)
	low := new(big.Int).Rsh(&n.Int, 64)
	n.Xor(&n.Int, new(big.Int).Lsh(low, 64))
	n.Or(&n.Int, low)
}

func numberOf(text string) *number {
	n := new(number)
	n.SetString(text, 16)
	return n
}

// littleEndian is the number of 8 bytes, the least significant one first.
func littleEndian(b []byte) *number {
	b = slices.Clone(b)
	slices.Reverse(b)
	n := new(number)
	n.SetBytes(b)
	return n
}

// mixed performs rounds as the paper on SipHash draws them: two halves at a time.
func mixed(v [4]*number, rounds int) {
	for range rounds {
		v[0].add(v[1])
		v[2].add(v[3])
		v[1].rotate(13)
		v[3].rotate(16)
		v[1].xor(v[0])
		v[3].xor(v[2])
		v[0].rotate(32)
		v[2].add(v[1])
		v[0].add(v[3])
		v[1].rotate(17)
		v[3].rotate(21)
		v[1].xor(v[2])
		v[3].xor(v[0])
		v[2].rotate(32)
	}
}

// sipHash is SipHash-2-4 of b with a key of 16 bytes.
func sipHash(key, b []byte) uint64 {
	v := [4]*number{numberOf("736f6d6570736575"), numberOf("646f72616e646f6d"), numberOf("6c7967656e657261"), numberOf("7465646279746573")}
	for i := range v {
		v[i].xor(littleEndian(key[i%2*8:][:8]))
	}
	padded := append(slices.Clone(b), make([]byte, 7-len(b)%8)...)
	padded = append(padded, byte(len(b)%256))
	for i := 0; i < len(padded); i += 8 {
		m := littleEndian(padded[i : i+8])
		v[3].xor(m)
		mixed(v, 2)
		v[0].xor(m)
	}
	v[2].xor(numberOf("ff"))
	mixed(v, 4)
	for _, other := range v[1:] {
		v[0].xor(other)
	}
	return v[0].Uint64()
}

// keyBytes are the 16 bytes of the key of SipHash that a key of this layer means.
func keyBytes(key uint64) []byte {
	b := make([]byte, 16)
	for i := range 8 {
		b[i] = byte(key >> (8 * i))
		b[8+i] = b[i] ^ []byte{0x95, 0xe9, 0xd1, 0x5b, 0x95, 0xe9, 0xd1, 0x5b}[i]
	}
	return b
}

// hashed is what Sum must be.
func hashed(key uint64, b []byte) uint64 {
	return sipHash(keyBytes(key), b)
}

// keys are keys of few and many bits.
func keys() []uint64 {
	s := source(1)
	l := []uint64{0, math.MaxUint64, 1, 7, 1 << 63, 0x5bd1e9955bd1e995, s.word(), s.word()}
	for i := range 64 {
		l = append(l, 1<<i)
	}
	return l
}

// inputs are inputs of all lengths up to 40 and around 256, with bytes of 0, of 255 and of all kinds.
func inputs() [][]byte {
	s := source(2)
	l := [][]byte{nil}
	lengths := []int{63, 64, 65, 127, 128, 129, 248, 254, 255, 256, 257, 264, 511, 512, 513, 1000}
	for n := range 41 {
		lengths = append(lengths, n)
	}
	for _, n := range lengths {
		l = append(l, make([]byte, n), bytes.Repeat([]byte{255}, n), s.bytes(n), s.bytes(n))
	}
	return l
}

// counted are the bytes from 0 on.
func counted(n int) []byte {
	b := make([]byte, n)
	for i := range b {
		b[i] = byte(i)
	}
	return b
}

// P8.4: the vectors that are published for SipHash-2-4 hold for the reference with which Sum is compared.

func TestVectors(t *testing.T) {
	for n, want := range []uint64{0x726fdb47dd0e0e31, 0x74f839c593dc67fd, 0x0d6c8009d9a94f5a, 0x85676696d7fb7e2d} {
		if got := sipHash(counted(16), counted(n)); got != want {
			t.Errorf("SipHash of %d bytes: %x, not %x", n, got, want)
		}
	}
	if got := sipHash(counted(16), counted(15)); got != 0xa129ca6149be45e5 {
		t.Errorf("SipHash of 15 bytes: %x", got)
	}
}

// P8.1

func TestSum(t *testing.T) {
	for _, key := range keys() {
		for _, b := range inputs() {
			if got := seal.Sum(key, b); got != hashed(key, b) {
				t.Fatalf("Sum(%x, %v): %x, not %x", key, b, got, hashed(key, b))
			}
		}
	}
}

func TestSumOfMany(t *testing.T) {
	s := source(3)
	for range 2000 {
		key, b := s.word(), s.bytes(s.next(60))
		if got := seal.Sum(key, b); got != hashed(key, b) {
			t.Fatalf("Sum(%x, %v): %x, not %x", key, b, got, hashed(key, b))
		}
	}
	long := s.bytes(1 << 15)
	if seal.Sum(9, long) != hashed(9, long) {
		t.Error("Sum of many bytes is wrong")
	}
}

func TestNoBytes(t *testing.T) {
	for _, key := range keys() {
		if seal.Sum(key, nil) != seal.Sum(key, []byte{}) {
			t.Errorf("Sum(%x) of nil and of no byte differ", key)
		}
	}
}

// TestDifferences changes one bit of an input or of a key, and the length of an input.
func TestDifferences(t *testing.T) {
	s := source(4)
	for _, n := range []int{0, 1, 7, 8, 9, 15, 16, 17, 255, 256, 257} {
		for _, b := range [][]byte{make([]byte, n), bytes.Repeat([]byte{255}, n), s.bytes(n)} {
			seen := map[uint64]bool{seal.Sum(5, b): true}
			count := 1
			look := func(key uint64, b []byte) {
				sum := seal.Sum(key, b)
				if sum != hashed(key, b) {
					t.Fatalf("Sum(%x, %v): %x", key, b, sum)
				}
				seen[sum] = true
				count++
			}
			for i := range 8 * n {
				b[i/8] ^= 1 << (i % 8)
				look(5, b)
				b[i/8] ^= 1 << (i % 8)
			}
			for i := range 64 {
				look(5^1<<i, b)
			}
			for more := 1; more <= 9; more++ {
				look(5, slices.Concat(b, make([]byte, more)))
				look(5, slices.Concat(make([]byte, more), b, []byte{1}))
			}
			if len(seen) != count {
				t.Errorf("of %d inputs near %v, two have the same hash", count, b)
			}
		}
	}
}

// TestLengths hashes zeros: the inputs differ in their length only, also in lengths that are equal modulo 256.
func TestLengths(t *testing.T) {
	seen := map[uint64]int{}
	for n := range 600 {
		sum := seal.Sum(0, make([]byte, n))
		if before, ok := seen[sum]; ok {
			t.Errorf("%d and %d zeros have the same hash", before, n)
		}
		seen[sum] = n
	}
}

// P8.2, P8.5

func TestDerive(t *testing.T) {
	if seal.Derive(7, "ab") != seal.Sum(7, []byte{97, 98}) || seal.Derive(7, "ab") != hashed(7, []byte("ab")) {
		t.Error("Derive(7, ab) is not Sum(7, [97, 98])")
	}
	for _, key := range keys() {
		for _, label := range []string{"", "a", "ab", "meter", "12345678", "a\x00", "\x00", "\xff\xfe\x80", "ä漢", strings.Repeat("label", 60)} {
			if got := seal.Derive(key, label); got != hashed(key, []byte(label)) || got != seal.Sum(key, []byte(label)) {
				t.Fatalf("Derive(%x, %q): %x, not %x", key, label, got, hashed(key, []byte(label)))
			}
		}
	}
	for _, b := range inputs() {
		if got := seal.Derive(3, string(b)); got != hashed(3, b) {
			t.Fatalf("Derive(3, %q): %x, not %x", b, got, hashed(3, b))
		}
	}
}

// P8.3, P8.5

func TestChain(t *testing.T) {
	x, y := []byte("first"), []byte("second")
	if seal.Chain(seal.Sum(1, x), y) != seal.Sum(seal.Sum(1, x), y) || seal.Chain(seal.Sum(1, x), y) != hashed(hashed(1, x), y) {
		t.Error("Chain(Sum(1, x), y) is not Sum(Sum(1, x), y)")
	}
	for _, key := range keys() {
		for _, b := range [][]byte{nil, {}, {0}, x, y, make([]byte, 16), bytes.Repeat([]byte{255}, 255)} {
			if got := seal.Chain(key, b); got != hashed(key, b) || got != seal.Sum(key, b) {
				t.Fatalf("Chain(%x, %v): %x, not %x", key, b, got, hashed(key, b))
			}
		}
	}
}

// R5: arguments stay as they are.

func TestMemory(t *testing.T) {
	for _, b := range inputs() {
		with := append(slices.Clone(b), bytes.Repeat([]byte{170}, 20)...)
		before := slices.Clone(with)
		seal.Sum(1, with[:len(b)])
		seal.Chain(1, with[:len(b)])
		if !bytes.Equal(with, before) {
			t.Fatalf("an argument of %d bytes was changed", len(b))
		}
		if seal.Sum(1, with[:len(b)]) != seal.Sum(1, b) {
			t.Fatalf("the hash of %d bytes depends on the bytes behind them", len(b))
		}
	}
}
