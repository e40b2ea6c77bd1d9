package mix

import (
	"bytes"
	"encoding/binary"
	"math"
	"math/big"
	"math/bits"
	"slices"
	"testing"
)

// numbers are small ones, those around every power of two, those around the constants, and some without a pattern.
func numbers() []uint64 {
	l := []uint64{A, B, C, A - 1, A + 1, -A & math.MaxUint64, math.MaxUint64 - 1, math.MaxUint64, 0x5555555555555555, 0xaaaaaaaaaaaaaaaa}
	for x := range uint64(300) {
		l = append(l, x)
	}
	for i := 9; i < 64; i++ {
		l = append(l, 1<<i-1, 1<<i, 1<<i+1, -(1 << i))
	}
	x := uint64(88172645463325252)
	for range 500 {
		x ^= x << 13
		x ^= x >> 7
		x ^= x << 17
		l = append(l, x)
	}
	slices.Sort(l)
	return slices.Compact(l)
}

// seeds are some seeds, among them the least and the greatest one.
func seeds() []uint64 {
	return []uint64{0, 1, 2, 5, 7, 255, 256, 1<<32 - 1, 1 << 32, 1 << 63, A, B, -A & math.MaxUint64, 0x0123456789abcdef, math.MaxUint64 - 1, math.MaxUint64}
}

// texts are byte strings of all lengths around those of some groups, in several patterns.
func texts() [][]byte {
	var l [][]byte
	for n := range 42 {
		up, down := make([]byte, n), make([]byte, n)
		for i := range n {
			up[i], down[i] = byte(i+1), byte(250-7*i)
		}
		l = append(l, up, down, make([]byte, n), bytes.Repeat([]byte{255}, n))
	}
	return append(l, bytes.Repeat([]byte("handcart"), 500), bytes.Repeat([]byte("cup"), 777))
}

// mixed returns the result of mixing x, step by step with numbers of any size that are reduced modulo 2^64.
func mixed(x uint64) uint64 {
	whole := new(big.Int).Lsh(big.NewInt(1), 64)
	z := new(big.Int).SetUint64(x)
	shift := func(n uint) { z.Xor(z, new(big.Int).Rsh(z, n)) }
	multiply := func(f uint64) { z.Mod(z.Mul(z, new(big.Int).SetUint64(f)), whole) }
	shift(30)
	multiply(0xbf58476d1ce4e5b9)
	shift(27)
	multiply(0x94d049bb133111eb)
	shift(31)
	return z.Uint64()
}

// word returns what P401 says of Word.
func word(seed, x uint64) uint64 {
	sum, _ := bits.Add64(seed^x, 0x9e3779b97f4a7c15, 0)
	return mixed(sum)
}

// sum returns what P402 says of Sum, with all of the padding laid down ahead.
func sum(seed uint64, b []byte) uint64 {
	h := word(seed, uint64(len(b)))
	for padded := append(bytes.Clone(b), make([]byte, -len(b)&7)...); len(padded) > 0; padded = padded[8:] {
		h = word(bits.RotateLeft64(h, 23), binary.LittleEndian.Uint64(padded))
	}
	return h
}

// The constants are part of the chapter.
func TestConstants(t *testing.T) {
	if A != uint64(11400714819323198485) || B != uint64(13787848793156543929) || C != uint64(10723151780598845931) {
		t.Errorf("A, B, C = %d, %d, %d", uint64(A), uint64(B), uint64(C))
	}
}

// P401: Word.
func TestWord(t *testing.T) {
	for _, c := range []struct{ seed, x, want uint64 }{
		// The first results of SplitMix64 from 0 and from 1234567, to which it adds A each time.
		{0, 0, 0xe220a8397b1dcdaf}, {0, A, 0x6e789e6aa1b965f4}, {A, 0, 0x6e789e6aa1b965f4}, {0, 0x3c6ef372fe94f82a, 0x06c45d188009454f},
		{1234567, 0, 6457827717110365317}, {0, 1234567, 6457827717110365317}, {0, 1234567 + A, 3203168211198807973},
		{0, 1, 0x910a2dec89025cc1}, {1, 0, 0x910a2dec89025cc1}, {5, 77, 0x8e64bfa85c308c9a}, {77, 5, 0x8e64bfa85c308c9a},
		{0, math.MaxUint64, 0xe4d971771b652c20}, {math.MaxUint64, 0, 0xe4d971771b652c20}, {math.MaxUint64, math.MaxUint64, 0xe220a8397b1dcdaf},
		{0, 1 << 63, 0x481ec0a212a9f3db}, {1 << 63, 0, 0x481ec0a212a9f3db}, {1 << 63, 1 << 63, 0xe220a8397b1dcdaf},
		// The sum wraps around to 0, which mixing leaves as it is.
		{0, 0x61c8864680b583eb, 0}, {0x61c8864680b583eb, 0, 0}, {math.MaxUint64, 0x9e3779b97f4a7c14, 0},
	} {
		if got := Word(c.seed, c.x); got != c.want {
			t.Errorf("Word(%#x, %#x) = %#x, not %#x", c.seed, c.x, got, c.want)
		}
	}
	if got := Word(0, 0); got != mixed(A) {
		t.Errorf("Word(0, 0) = %#x, not the result of mixing A", got)
	}
	for _, seed := range seeds() {
		for _, x := range numbers() {
			if got, want := Word(seed, x), word(seed, x); got != want {
				t.Fatalf("Word(%#x, %#x) = %#x, not %#x", seed, x, got, want)
			}
		}
	}
}

// P401: Unword.
func TestUnword(t *testing.T) {
	for _, c := range []struct{ seed, y, want uint64 }{
		{0, 0xe220a8397b1dcdaf, 0}, {0, 0x6e789e6aa1b965f4, A}, {A, 0x6e789e6aa1b965f4, 0}, {1234567, 6457827717110365317, 0}, {0, 6457827717110365317, 1234567},
		{5, 0x8e64bfa85c308c9a, 77}, {77, 0x8e64bfa85c308c9a, 5}, {0, 0, 0x61c8864680b583eb}, {0x61c8864680b583eb, 0, 0},
		{0, 0xe4d971771b652c20, math.MaxUint64}, {math.MaxUint64, 0xe4d971771b652c20, 0}, {1 << 63, 0x481ec0a212a9f3db, 0}, {math.MaxUint64, 0xe220a8397b1dcdaf, math.MaxUint64},
	} {
		if got := Unword(c.seed, c.y); got != c.want {
			t.Errorf("Unword(%#x, %#x) = %#x, not %#x", c.seed, c.y, got, c.want)
		}
	}
	if got := Unword(5, Word(5, 77)); got != 77 {
		t.Errorf("Unword(5, Word(5, 77)) = %d", got)
	}
	for _, seed := range seeds() {
		for _, x := range numbers() {
			if got := Unword(seed, word(seed, x)); got != x {
				t.Fatalf("Unword(%#x, Word(%#x, %#x)) = %#x", seed, seed, x, got)
			}
			if got := word(seed, Unword(seed, x)); got != x {
				t.Fatalf("Word(%#x, Unword(%#x, %#x)) = %#x", seed, seed, x, got)
			}
		}
	}
}

// P402: Sum.
func TestSum(t *testing.T) {
	var all []byte
	for i := range 256 {
		all = append(all, byte(i))
	}
	for _, c := range []struct {
		seed uint64
		b    []byte
		want uint64
	}{
		{0, nil, 0xe220a8397b1dcdaf}, {0, []byte{}, 0xe220a8397b1dcdaf}, {9, nil, 0xaeaf52febe706064},
		{0, []byte{0}, 0x39f1fc010cb8de60}, {0, []byte{0, 0}, 0x4bff981fe117ea6a}, {9, []byte{1}, 0xd4b582cfb28c829d}, {9, []byte{1, 0}, 0x52ef4f2f9a95e3e8},
		{0, []byte("a"), 0x833d0ca0153da110}, {1, []byte("a"), 0x03b06c160608bfef}, {0, []byte("abcdefg"), 0x2e5292b6330d167b}, {0, []byte("abcdefgh"), 0x6ebfb088e5d8f642}, {0, []byte("abcdefghi"), 0xabc1057425434806},
		{7, []byte("abcdefgh1"), 0xf05c6c5bb54e88b0}, {7, []byte("abcdefgh2"), 0xfb3507bd96566b33}, {3, []byte("handcart stores shopping carts"), 0x99199164ae2befa8},
		{math.MaxUint64, bytes.Repeat([]byte{255}, 16), 0x081e12859a09a9a9}, {0, make([]byte, 24), 0xf97057a98681f987}, {0, all, 0x765c0f10a2ff4320},
	} {
		if got := Sum(c.seed, c.b); got != c.want {
			t.Errorf("Sum(%d, %q) = %#x, not %#x", c.seed, c.b, got, c.want)
		}
	}
	for _, seed := range seeds() {
		for _, b := range texts() {
			if got, want := Sum(seed, b), sum(seed, b); got != want {
				t.Fatalf("Sum(%#x, %v) = %#x, not %#x", seed, b, got, want)
			}
		}
	}
}

// P402: the last group is padded with zeros whatever lies behind the bytes, and nothing there is modified.
func TestSumPadding(t *testing.T) {
	for n := range 40 {
		row := bytes.Repeat([]byte{0xa5}, 64)
		short := bytes.Repeat([]byte{0xa5}, n)
		if got, want := Sum(3, row[:n]), sum(3, short); got != want {
			t.Errorf("Sum of %d bytes with others behind them = %#x, not %#x", n, got, want)
		}
		if !bytes.Equal(row, bytes.Repeat([]byte{0xa5}, 64)) {
			t.Errorf("Sum of %d bytes modified its argument: %v", n, row)
		}
	}
}

// P402: words can be left before its end, as every range over a function.
func TestWordsLeft(t *testing.T) {
	for n := range 4 {
		var got []uint64
		for x := range words([]byte("abcdefghABCDEFGH!")) {
			if len(got) == n {
				break
			}
			got = append(got, x)
		}
		if want := []uint64{0x6867666564636261, 0x4847464544434241, 0x21}[:n]; !slices.Equal(got, want) {
			t.Errorf("the first %d words: %#x, not %#x", n, got, want)
		}
	}
}

// P403: Below.
func TestBelow(t *testing.T) {
	for _, c := range []struct {
		x    uint64
		n    int
		want int
	}{
		{17, 5, 2}, {17, 0, 0}, {17, -3, 0}, {17, 1, 0}, {17, 2, 1}, {17, 16, 1}, {17, 17, 0}, {17, 18, 17}, {0, 1, 0}, {0, 5, 0}, {4, 5, 4}, {5, 5, 0}, {6, 5, 1},
		{0, 0, 0}, {0, -1, 0}, {17, -1, 0}, {17, -5, 0}, {17, math.MinInt, 0}, {17, math.MinInt + 1, 0}, {17, math.MaxInt, 17},
		{math.MaxUint64, 0, 0}, {math.MaxUint64, -1, 0}, {math.MaxUint64, -7, 0}, {math.MaxUint64, math.MinInt, 0}, {math.MaxUint64, 1, 0}, {math.MaxUint64, 2, 1}, {math.MaxUint64, 10, 5},
		{math.MaxUint64, math.MaxInt, 1}, {math.MaxUint64 - 1, math.MaxInt, 0}, {math.MaxUint64 - 2, math.MaxInt, math.MaxInt - 1}, {math.MaxUint64, 1 << 62, 1<<62 - 1}, {math.MaxUint64, math.MaxInt - 1, 3},
		{1 << 63, math.MaxInt, 1}, {1<<63 - 1, math.MaxInt, 0}, {1<<63 - 2, math.MaxInt, math.MaxInt - 1}, {1 << 63, 10, 8}, {1 << 63, 1 << 62, 0}, {1 << 32, 1<<32 - 1, 1}, {1<<40 + 9, 1 << 33, 9},
	} {
		if got := Below(c.x, c.n); got != c.want {
			t.Errorf("Below(%d, %d) = %d, not %d", c.x, c.n, got, c.want)
		}
	}
	for _, x := range numbers() {
		for n := -20; n < 40; n++ {
			want := int64(0)
			if n > 0 {
				want = new(big.Int).Mod(new(big.Int).SetUint64(x), big.NewInt(int64(n))).Int64()
			}
			if got := Below(x, n); int64(got) != want {
				t.Fatalf("Below(%d, %d) = %d, not %d", x, n, got, want)
			}
		}
	}
}

// P404: for a fixed seed Word is injective, and for a fixed number it is injective in the seed.
func TestWordInjective(t *testing.T) {
	for _, fixed := range seeds() {
		ofNumber, ofSeed := map[uint64]uint64{}, map[uint64]uint64{}
		for _, x := range numbers() {
			if other, ok := ofNumber[Word(fixed, x)]; ok {
				t.Fatalf("Word(%#x, %#x) = Word(%#x, %#x)", fixed, x, fixed, other)
			}
			if other, ok := ofSeed[Word(x, fixed)]; ok {
				t.Fatalf("Word(%#x, %#x) = Word(%#x, %#x)", x, fixed, other, fixed)
			}
			ofNumber[Word(fixed, x)], ofSeed[Word(x, fixed)] = x, x
		}
	}
}

// P404: two byte strings of the same length that differ in a single group have different hashes.
func TestSumDiffers(t *testing.T) {
	for _, seed := range seeds() {
		for _, b := range texts()[:168] {
			h := Sum(seed, b)
			for from := 0; from < len(b); from += 8 {
				for _, other := range changed(b, from, min(from+8, len(b))) {
					if Sum(seed, other) == h {
						t.Fatalf("Sum(%#x, %v) = Sum(%#x, %v)", seed, b, seed, other)
					}
				}
			}
		}
	}
}

// changed returns byte strings that differ from b just between from and to: in each bit, in each byte, and in all bytes.
func changed(b []byte, from, to int) [][]byte {
	var l [][]byte
	every := bytes.Clone(b)
	for i := from; i < to; i++ {
		for n := range 8 {
			one := bytes.Clone(b)
			one[i] ^= 1 << n
			l = append(l, one)
		}
		one := bytes.Clone(b)
		one[i] ^= 255
		every[i] ^= 255
		l = append(l, one)
	}
	return append(l, every)
}

// P404: all pairs of the strings of one group that are two bytes long.
func TestSumPairs(t *testing.T) {
	seen := map[uint64]int{}
	for n := range 1 << 16 {
		h := Sum(11, []byte{byte(n), byte(n >> 8)})
		if other, ok := seen[h]; ok {
			t.Fatalf("the strings %#x and %#x have the hash %#x", n, other, h)
		}
		seen[h] = n
	}
}
