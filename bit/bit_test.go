package bit

import (
	"fmt"
	"math"
	"math/big"
	"slices"
	"strconv"
	"strings"
	"testing"
)

// numbers are all small ones, all with one or two bits, with one run of ones, their complements, and some without a pattern.
func numbers() []uint64 {
	var l []uint64
	for x := range uint64(300) {
		l = append(l, x)
	}
	for i := range 64 {
		for j := range i + 1 {
			l = append(l, 1<<i|1<<j, 1<<i-1<<j)
		}
	}
	x := uint64(88172645463325252)
	for range 300 {
		x ^= x << 13
		x ^= x >> 7
		x ^= x << 17
		l = append(l, x)
	}
	for _, x := range slices.Clone(l) {
		l = append(l, ^x)
	}
	slices.Sort(l)
	return slices.Compact(l)
}

// distances are the numbers of bits at and beyond all bounds.
func distances() []int {
	l := []int{math.MinInt, math.MinInt + 1, math.MinInt + 63, math.MinInt + 64, math.MinInt + 65, math.MinInt32, math.MaxInt32, 1 << 32, 1<<32 + 5, math.MaxInt - 64, math.MaxInt - 63, math.MaxInt - 1, math.MaxInt}
	for n := -130; n <= 130; n++ {
		l = append(l, n)
	}
	return l
}

// digits returns the bits of x as text, from bit 63 down to bit 0.
func digits(x uint64) string {
	return fmt.Sprintf("%064b", x)
}

// number returns the number with these bits.
func number(digits string) uint64 {
	if digits == "" {
		return 0
	}
	x, err := strconv.ParseUint(digits, 2, 64)
	if err != nil {
		panic(err)
	}
	return x
}

// lowest returns the last n bits of a text of bits.
func lowest(bits string, n int) string {
	n = min(max(n, 0), len(bits))
	return bits[len(bits)-n:]
}

// without returns a text of bits without its last n bits.
func without(bits string, n int) string {
	n = min(max(n, 0), len(bits))
	return bits[:len(bits)-n]
}

// P201: Low.
func TestLow(t *testing.T) {
	for _, c := range []struct {
		x    uint64
		n    int
		want uint64
	}{
		{0xabcd, 8, 0xcd}, {0xff, 3, 7}, {5, 1, 1}, {4, 1, 0}, {0, 64, 0},
		{math.MaxUint64, 1, 1}, {math.MaxUint64, 0, 0}, {math.MaxUint64, -1, 0}, {math.MaxUint64, math.MinInt, 0},
		{math.MaxUint64, 62, 1<<62 - 1}, {math.MaxUint64, 63, 1<<63 - 1}, {math.MaxUint64, 64, math.MaxUint64},
		{math.MaxUint64, 65, math.MaxUint64}, {math.MaxUint64, 128, math.MaxUint64}, {math.MaxUint64, math.MaxInt, math.MaxUint64},
		{1 << 63, 63, 0}, {1 << 63, 64, 1 << 63}, {1 << 62, 62, 0}, {1 << 62, 63, 1 << 62},
	} {
		if got := Low(c.x, c.n); got != c.want {
			t.Errorf("Low(%#x, %d) = %#x, not %#x", c.x, c.n, got, c.want)
		}
	}
	for _, x := range numbers() {
		bits := digits(x)
		for _, n := range distances() {
			if got, want := Low(x, n), number(lowest(bits, n)); got != want {
				t.Fatalf("Low(%#x, %d) = %#x, not %#x", x, n, got, want)
			}
		}
	}
}

// P201: Part.
func TestPart(t *testing.T) {
	for _, c := range []struct {
		x       uint64
		from, n int
		want    uint64
	}{
		{0xabcd, 4, 8, 0xbc}, {0xabcd, 0, 4, 0xd}, {0xabcd, 12, 64, 0xa}, {0xabcd, 16, 64, 0},
		{0xabcd, -1, 8, 0xcd}, {0xabcd, math.MinInt, 8, 0xcd}, {0xabcd, -8, 16, 0xabcd}, {0xabcd, 4, 0, 0}, {0xabcd, 4, -1, 0}, {0xabcd, 4, math.MinInt, 0},
		{math.MaxUint64, 63, 1, 1}, {math.MaxUint64, 63, 2, 1}, {1 << 63, 63, math.MaxInt, 1}, {1 << 62, 63, 64, 0},
		{math.MaxUint64, 64, 1, 0}, {math.MaxUint64, 65, 64, 0}, {math.MaxUint64, 128, 64, 0}, {math.MaxUint64, math.MaxInt, math.MaxInt, 0},
		{math.MaxUint64, 1, 64, 1<<63 - 1}, {math.MaxUint64, 1, 63, 1<<63 - 1}, {math.MaxUint64, 1, 62, 1<<62 - 1}, {math.MaxUint64, math.MinInt, math.MaxInt, math.MaxUint64},
	} {
		if got := Part(c.x, c.from, c.n); got != c.want {
			t.Errorf("Part(%#x, %d, %d) = %#x, not %#x", c.x, c.from, c.n, got, c.want)
		}
	}
	all := numbers()
	for i := 0; i < len(all); i += 100 {
		bits := digits(all[i])
		for _, from := range distances() {
			for _, n := range distances() {
				want := number(lowest(without(bits, from), n))
				if got := Part(all[i], from, n); got != want {
					t.Fatalf("Part(%#x, %d, %d) = %#x, not %#x", all[i], from, n, got, want)
				}
			}
		}
	}
}

// P202: Rot.
func TestRot(t *testing.T) {
	for _, c := range []struct {
		x    uint64
		n    int
		want uint64
	}{
		{1, -1, 1 << 63}, {1, 1, 2}, {1, 63, 1 << 63}, {1, 0, 1}, {1 << 63, 1, 1}, {3, 63, 1<<63 | 1}, {0xabcd, -8, 0xcd<<56 | 0xab},
		{3, 127, 1<<63 | 1}, {3, 64, 3}, {3, -64, 3}, {3, 65, 6}, {3, -65, 1<<63 | 1}, {3, 640, 3}, {1, math.MinInt, 1},
		{1, math.MinInt + 1, 2}, {1, math.MaxInt, 1 << 63}, {0, 17, 0}, {math.MaxUint64, -17, math.MaxUint64},
	} {
		if got := Rot(c.x, c.n); got != c.want {
			t.Errorf("Rot(%#x, %d) = %#x, not %#x", c.x, c.n, got, c.want)
		}
	}
	for _, x := range numbers() {
		bits := digits(x)
		for _, n := range distances() {
			left := int(new(big.Int).Mod(big.NewInt(int64(n)), big.NewInt(64)).Int64())
			if got, want := Rot(x, n), number(bits[left:]+bits[:left]); got != want {
				t.Fatalf("Rot(%#x, %d) = %#x, not %#x", x, n, got, want)
			}
		}
	}
}

// P202: Turn.
func TestTurn(t *testing.T) {
	for _, c := range []struct{ x, want uint64 }{
		{0, 0}, {1, 1 << 63}, {1 << 63, 1}, {6, 3 << 61}, {math.MaxUint64, math.MaxUint64},
		{0x0123456789abcdef, 0xf7b3d591e6a2c480}, {0xffffffff, 0xffffffff << 32}, {0x5555555555555555, 0xaaaaaaaaaaaaaaaa},
	} {
		if got := Turn(c.x); got != c.want {
			t.Errorf("Turn(%#x) = %#x, not %#x", c.x, got, c.want)
		}
	}
	for _, x := range numbers() {
		bits := []byte(digits(x))
		slices.Reverse(bits)
		if got, want := Turn(x), number(string(bits)); got != want {
			t.Fatalf("Turn(%#x) = %#x, not %#x", x, got, want)
		}
	}
}

// P203: Halves and Whole.
func TestHalves(t *testing.T) {
	for _, c := range []struct {
		x      uint64
		hi, lo uint32
	}{
		{0, 0, 0}, {1, 0, 1}, {0x100000002, 1, 2}, {0x0123456789abcdef, 0x01234567, 0x89abcdef}, {1 << 32, 1, 0}, {1<<32 - 1, 0, math.MaxUint32},
		{1 << 31, 0, 1 << 31}, {1 << 63, 1 << 31, 0}, {math.MaxUint64, math.MaxUint32, math.MaxUint32}, {math.MaxUint32 << 32, math.MaxUint32, 0},
	} {
		if hi, lo := Halves(c.x); hi != c.hi || lo != c.lo {
			t.Errorf("Halves(%#x) = %#x, %#x, not %#x, %#x", c.x, hi, lo, c.hi, c.lo)
		}
		if got := Whole(c.hi, c.lo); got != c.x {
			t.Errorf("Whole(%#x, %#x) = %#x, not %#x", c.hi, c.lo, got, c.x)
		}
	}
	for _, x := range numbers() {
		bits := digits(x)
		hi, lo := Halves(x)
		if got := fmt.Sprintf("%032b%032b", hi, lo); got != bits {
			t.Fatalf("Halves(%#x) = %#x, %#x", x, hi, lo)
		}
		if got := digits(Whole(hi, lo)); got != bits {
			t.Fatalf("Whole(%#x, %#x) = %s", hi, lo, got)
		}
	}
}

// P204: Trail, Len and Ones.
func TestCounts(t *testing.T) {
	for _, c := range []struct {
		x                uint64
		trail, len, ones int
	}{
		{0, 64, 0, 0}, {1, 0, 1, 1}, {2, 1, 2, 1}, {3, 0, 2, 2}, {8, 3, 4, 1}, {255, 0, 8, 8}, {256, 8, 9, 1}, {0xabc0, 6, 16, 7},
		{1 << 62, 62, 63, 1}, {1<<63 - 1, 0, 63, 63}, {1 << 63, 63, 64, 1}, {1<<63 | 1, 0, 64, 2}, {3 << 62, 62, 64, 2},
		{1 << 32, 32, 33, 1}, {math.MaxUint64 - 1, 1, 64, 63}, {math.MaxUint64, 0, 64, 64},
	} {
		if got := Trail(c.x); got != c.trail {
			t.Errorf("Trail(%#x) = %d, not %d", c.x, got, c.trail)
		}
		if got := Len(c.x); got != c.len {
			t.Errorf("Len(%#x) = %d, not %d", c.x, got, c.len)
		}
		if got := Ones(c.x); got != c.ones {
			t.Errorf("Ones(%#x) = %d, not %d", c.x, got, c.ones)
		}
	}
	for _, x := range numbers() {
		bits := digits(x)
		if got, want := Trail(x), 64-len(strings.TrimRight(bits, "0")); got != want {
			t.Errorf("Trail(%#x) = %d, not %d", x, got, want)
		}
		if got, want := Len(x), len(strings.TrimLeft(bits, "0")); got != want {
			t.Errorf("Len(%#x) = %d, not %d", x, got, want)
		}
		if got, want := Ones(x), strings.Count(bits, "1"); got != want {
			t.Errorf("Ones(%#x) = %d, not %d", x, got, want)
		}
	}
}

// zig returns what the chapter says of Zig, with numbers of any size.
func zig(n int64) uint64 {
	twice := new(big.Int).Mul(big.NewInt(2), big.NewInt(n))
	if n < 0 {
		twice.Neg(twice)
		twice.Sub(twice, big.NewInt(1))
	}
	return twice.Uint64()
}

// P205: Zig and Zag.
func TestZig(t *testing.T) {
	for _, c := range []struct {
		n int64
		x uint64
	}{
		{0, 0}, {-1, 1}, {1, 2}, {-2, 3}, {2, 4}, {-3, 5}, {3, 6}, {1000, 2000}, {-1000, 1999},
		{math.MaxInt32, 1<<32 - 2}, {math.MinInt32, 1<<32 - 1}, {1 << 32, 1 << 33}, {-1 << 32, 1<<33 - 1},
		{math.MaxInt64 - 1, math.MaxUint64 - 3}, {math.MinInt64 + 1, math.MaxUint64 - 2}, {math.MaxInt64, math.MaxUint64 - 1}, {math.MinInt64, math.MaxUint64},
	} {
		if got := Zig(c.n); got != c.x {
			t.Errorf("Zig(%d) = %d, not %d", c.n, got, c.x)
		}
		if got := Zag(c.x); got != c.n {
			t.Errorf("Zag(%d) = %d, not %d", c.x, got, c.n)
		}
	}
	for _, x := range numbers() {
		n := int64(x)
		want := zig(n)
		if got := Zig(n); got != want {
			t.Errorf("Zig(%d) = %d, not %d", n, got, want)
		}
		if got := Zag(want); got != n {
			t.Errorf("Zag(%d) = %d, not %d", want, got, n)
		}
	}
}

// P206: what inverts what.
func TestInverses(t *testing.T) {
	for _, x := range numbers() {
		if got := Zig(Zag(x)); got != x {
			t.Errorf("Zig(Zag(%d)) = %d", x, got)
		}
		if got := Zag(Zig(int64(x))); got != int64(x) {
			t.Errorf("Zag(Zig(%d)) = %d", int64(x), got)
		}
		hi, lo := Halves(x)
		if got := Whole(hi, lo); got != x {
			t.Errorf("Whole(Halves(%#x)) = %#x", x, got)
		}
		if h, l := Halves(Whole(lo, hi)); h != lo || l != hi {
			t.Errorf("Halves(Whole(%#x, %#x)) = %#x, %#x", lo, hi, h, l)
		}
		if got := Turn(Turn(x)); got != x {
			t.Errorf("Turn(Turn(%#x)) = %#x", x, got)
		}
		if got, want := Len(x), 64-Trail(Turn(x)); got != want {
			t.Errorf("Len(%#x) = %d, not %d as Turn and Trail say", x, got, want)
		}
	}
}

// P206: rotating there and back; Low and Part make up the number.
func TestDistances(t *testing.T) {
	for _, x := range numbers() {
		for _, n := range distances() {
			// The negative of the least int is that int again, which is the same modulo 64.
			if got := Rot(Rot(x, n), -n); got != x {
				t.Fatalf("%#x rotated by %d and back is %#x", x, n, got)
			}
			low, rest := Low(x, n), Part(x, n, 64)
			if n >= 0 && n < 64 && (rest<<n|low != x || rest<<n&low != 0) || n < 0 && (low != 0 || rest != x) || n > 63 && (low != x || rest != 0) {
				t.Fatalf("Low(%#x, %d) = %#x and Part from there on = %#x are not the whole", x, n, low, rest)
			}
		}
	}
}
