package pack

import (
	"bytes"
	"encoding/binary"
	"math"
	"math/big"
	"slices"
	"testing"

	"handcart/api"
)

// numbers are all small ones, those around every power of two, those with one run of ones, and some without a pattern.
func numbers() []uint64 {
	var l []uint64
	for x := range uint64(70000) {
		l = append(l, x)
	}
	for i := range 64 {
		for j := range i + 1 {
			l = append(l, 1<<i-1<<j, 1<<i|1<<j)
		}
		l = append(l, 1<<i-1, 1<<i, 1<<i+1, -(1 << i))
	}
	x := uint64(88172645463325252)
	for i := range 2000 {
		x ^= x << 13
		x ^= x >> 7
		x ^= x << 17
		l = append(l, x, x>>(i%64))
	}
	return append(l, math.MaxUint64)
}

// noWidths are the widths that no encoding has: those next to the bounds, the farthest ones, and those that are valid modulo a power of two.
func noWidths() []int {
	return []int{0, -1, -2, -7, -8, -9, 9, 10, 11, 16, 17, 64, 255, 256, 257, 1<<32 + 1, 1<<61 + 1, -1<<61 + 1, math.MinInt, math.MinInt + 1, math.MinInt + 8, math.MaxInt - 1, math.MaxInt}
}

// fixed returns the fixed encoding of x as another library makes it.
func fixed(x uint64, width int) []byte {
	return binary.LittleEndian.AppendUint64(nil, x)[:width]
}

// within reports, with numbers of any size, whether x is less than 256 to the power of width.
func within(x uint64, width int) bool {
	bound := new(big.Int).Exp(big.NewInt(256), big.NewInt(int64(width)), nil)
	return new(big.Int).SetUint64(x).Cmp(bound) < 0
}

// P301: Put.
func TestPut(t *testing.T) {
	for _, c := range []struct {
		x     uint64
		width int
		want  []byte
	}{
		{0, 1, []byte{0}}, {0, 8, make([]byte, 8)}, {1, 1, []byte{1}}, {255, 1, []byte{255}}, {256, 1, []byte{0}}, {256, 2, []byte{0, 1}},
		{0x0201, 2, []byte{1, 2}}, {0x123456, 1, []byte{0x56}}, {0x123456, 2, []byte{0x56, 0x34}}, {0x123456, 3, []byte{0x56, 0x34, 0x12}}, {0x123456, 4, []byte{0x56, 0x34, 0x12, 0}},
		{0x0807060504030201, 8, []byte{1, 2, 3, 4, 5, 6, 7, 8}}, {0x0807060504030201, 7, []byte{1, 2, 3, 4, 5, 6, 7}}, {0x0807060504030201, 5, []byte{1, 2, 3, 4, 5}},
		{math.MaxUint64, 8, bytes.Repeat([]byte{255}, 8)}, {math.MaxUint64, 1, []byte{255}}, {1 << 63, 8, []byte{0, 0, 0, 0, 0, 0, 0, 128}}, {1 << 63, 7, make([]byte, 7)},
	} {
		if got := Put(c.x, c.width); !bytes.Equal(got, c.want) {
			t.Errorf("Put(%#x, %d) = %v, not %v", c.x, c.width, got, c.want)
		}
	}
	for _, x := range numbers() {
		for width := 1; width <= 8; width++ {
			if got, want := Put(x, width), fixed(x, width); !bytes.Equal(got, want) {
				t.Fatalf("Put(%#x, %d) = %v, not %v", x, width, got, want)
			}
		}
	}
	for _, width := range noWidths() {
		for _, x := range []uint64{0, 1, 255, math.MaxUint64} {
			if got := Put(x, width); len(got) != 0 {
				t.Errorf("Put(%#x, %d) = %v, not empty", x, width, got)
			}
		}
	}
}

// P301: Fits.
func TestFits(t *testing.T) {
	for _, c := range []struct {
		x     uint64
		width int
		want  bool
	}{
		{0, 1, true}, {255, 1, true}, {256, 1, false}, {256, 2, true}, {1<<16 - 1, 2, true}, {1 << 16, 2, false}, {1<<24 - 1, 3, true}, {1 << 24, 3, false},
		{1<<32 - 1, 4, true}, {1 << 32, 4, false}, {1<<40 - 1, 5, true}, {1 << 40, 5, false}, {1<<48 - 1, 6, true}, {1 << 48, 6, false},
		{1<<56 - 1, 7, true}, {1 << 56, 7, false}, {1 << 56, 8, true}, {math.MaxUint64, 7, false}, {math.MaxUint64, 8, true}, {math.MaxUint64, 1, false}, {1 << 63, 1, false},
	} {
		if got := Fits(c.x, c.width); got != c.want {
			t.Errorf("Fits(%#x, %d) = %v", c.x, c.width, got)
		}
	}
	for i, x := range numbers() {
		if i%7 != 0 && x > 300 && x < 65000 {
			continue
		}
		for width := 1; width <= 8; width++ {
			if got, want := Fits(x, width), within(x, width); got != want {
				t.Fatalf("Fits(%#x, %d) = %v", x, width, got)
			}
		}
	}
	for _, width := range noWidths() {
		for _, x := range []uint64{0, 1, 255, math.MaxUint64} {
			if Fits(x, width) {
				t.Errorf("Fits(%#x, %d)", x, width)
			}
		}
	}
}

// P301: Get.
func TestGet(t *testing.T) {
	for _, c := range []struct {
		b    []byte
		want uint64
		err  api.Errno
	}{
		{nil, 0, api.ErrForm}, {[]byte{}, 0, api.ErrForm}, {make([]byte, 9), 0, api.ErrForm}, {[]byte{1, 2, 3, 4, 5, 6, 7, 8, 9}, 0, api.ErrForm},
		{bytes.Repeat([]byte{1}, 16), 0, api.ErrForm}, {bytes.Repeat([]byte{1}, 257), 0, api.ErrForm}, {bytes.Repeat([]byte{1}, 1<<16+1), 0, api.ErrForm},
		{[]byte{0}, 0, api.OK}, {[]byte{7}, 7, api.OK}, {[]byte{255}, 255, api.OK}, {[]byte{1, 2}, 513, api.OK}, {[]byte{1, 0}, 1, api.OK}, {[]byte{0, 1}, 256, api.OK}, {[]byte{1, 2, 3}, 0x030201, api.OK},
		{[]byte{1, 2, 3, 4, 5, 6, 7, 8}, 0x0807060504030201, api.OK}, {[]byte{1, 2, 3, 4, 5, 6, 7}, 0x07060504030201, api.OK},
		{bytes.Repeat([]byte{255}, 8), math.MaxUint64, api.OK}, {[]byte{0, 0, 0, 0, 0, 0, 0, 128}, 1 << 63, api.OK}, {make([]byte, 8), 0, api.OK},
	} {
		if got, err := Get(c.b); got != c.want || err != c.err {
			t.Errorf("Get(%v) = %d, %d, not %d, %d", c.b, got, err, c.want, c.err)
		}
	}
	for _, x := range numbers() {
		all := binary.LittleEndian.AppendUint64(nil, x)
		for width := 1; width <= 8; width++ {
			want := binary.LittleEndian.Uint64(append(slices.Clone(all[:width]), make([]byte, 8-width)...))
			if got, err := Get(all[:width]); got != want || err != api.OK {
				t.Fatalf("Get(%v) = %d, %d, not %d", all[:width], got, err, want)
			}
		}
	}
}

// P302: Var and Size.
func TestVar(t *testing.T) {
	for _, c := range []struct {
		x    uint64
		want []byte
	}{
		{0, []byte{0}}, {1, []byte{1}}, {127, []byte{127}}, {128, []byte{128, 1}}, {255, []byte{255, 1}}, {300, []byte{172, 2}},
		{1<<14 - 1, []byte{255, 127}}, {1 << 14, []byte{128, 128, 1}}, {1<<21 - 1, []byte{255, 255, 127}}, {1 << 21, []byte{128, 128, 128, 1}},
		{1<<32 - 1, []byte{255, 255, 255, 255, 15}}, {1 << 62, []byte{128, 128, 128, 128, 128, 128, 128, 128, 64}},
		{1<<63 - 1, []byte{255, 255, 255, 255, 255, 255, 255, 255, 127}}, {1 << 63, []byte{128, 128, 128, 128, 128, 128, 128, 128, 128, 1}},
		{math.MaxUint64, []byte{255, 255, 255, 255, 255, 255, 255, 255, 255, 1}},
	} {
		if got := Var(c.x); !bytes.Equal(got, c.want) {
			t.Errorf("Var(%d) = %v, not %v", c.x, got, c.want)
		}
		if got := Size(c.x); got != len(c.want) {
			t.Errorf("Size(%d) = %d, not %d", c.x, got, len(c.want))
		}
	}
	for _, x := range numbers() {
		want := binary.AppendUvarint(nil, x)
		if got := Var(x); !bytes.Equal(got, want) {
			t.Fatalf("Var(%d) = %v, not %v", x, got, want)
		}
		if got := Size(x); got != len(want) {
			t.Fatalf("Size(%d) = %d, not %d", x, got, len(want))
		}
	}
	// The number of groups changes just at the powers of 2^7, and never beyond ten.
	for groups := 1; groups < 10; groups++ {
		x := uint64(1) << (7 * groups)
		if Size(x-1) != groups || Size(x) != groups+1 {
			t.Errorf("Size(%d) = %d, Size(%d) = %d", x-1, Size(x-1), x, Size(x))
		}
	}
}

// P302: Unvar, ordinary bytes and each error.
func TestUnvar(t *testing.T) {
	nine := bytes.Repeat([]byte{255}, 9)
	empty := bytes.Repeat([]byte{128}, 9)
	behind := func(b []byte, more ...byte) []byte { return append(slices.Clone(b), more...) }
	for _, c := range []struct {
		b    []byte
		x    uint64
		size int
		err  api.Errno
	}{
		{[]byte{0}, 0, 1, api.OK}, {[]byte{1}, 1, 1, api.OK}, {[]byte{127}, 127, 1, api.OK}, {[]byte{128, 1}, 128, 2, api.OK}, {[]byte{172, 2}, 300, 2, api.OK},
		{[]byte{0, 0}, 0, 1, api.OK}, {[]byte{0, 128}, 0, 1, api.OK}, {[]byte{5, 255}, 5, 1, api.OK}, {[]byte{172, 2, 9}, 300, 2, api.OK}, {[]byte{172, 2, 128, 0}, 300, 2, api.OK},
		{nil, 0, 0, api.ErrShort}, {[]byte{}, 0, 0, api.ErrShort}, {[]byte{128}, 0, 0, api.ErrShort}, {[]byte{255}, 0, 0, api.ErrShort}, {[]byte{255, 128}, 0, 0, api.ErrShort},
		{nine, 0, 0, api.ErrShort}, {empty, 0, 0, api.ErrShort},
		{[]byte{128, 0}, 0, 0, api.ErrForm}, {[]byte{255, 0}, 0, 0, api.ErrForm}, {[]byte{128, 128, 0}, 0, 0, api.ErrForm}, {[]byte{128, 0, 5}, 0, 0, api.ErrForm}, {[]byte{129, 128, 0, 128}, 0, 0, api.ErrForm},
		{behind(nine[:8], 0), 0, 0, api.ErrForm}, {behind(empty[:8], 0), 0, 0, api.ErrForm}, {behind(nine, 0), 0, 0, api.ErrForm}, {behind(empty, 0), 0, 0, api.ErrForm}, {behind(nine, 0, 255), 0, 0, api.ErrForm},
		{behind(nine[:8], 127), 1<<63 - 1, 9, api.OK}, {behind(nine[:8], 1), 1<<57 - 1, 9, api.OK}, {behind(nine, 1), math.MaxUint64, 10, api.OK}, {behind(empty, 1), 1 << 63, 10, api.OK}, {behind(nine, 1, 255, 0), math.MaxUint64, 10, api.OK},
		{behind(nine, 2), 0, 0, api.ErrBig}, {behind(empty, 2), 0, 0, api.ErrBig}, {behind(empty, 3), 0, 0, api.ErrBig}, {behind(empty, 64), 0, 0, api.ErrBig}, {behind(nine, 127), 0, 0, api.ErrBig}, {behind(nine, 2, 1), 0, 0, api.ErrBig},
		{behind(nine, 128), 0, 0, api.ErrBig}, {behind(empty, 128), 0, 0, api.ErrBig}, {behind(empty, 129), 0, 0, api.ErrBig}, {behind(nine, 255), 0, 0, api.ErrBig},
		{behind(empty, 128, 0), 0, 0, api.ErrBig}, {behind(empty, 128, 1), 0, 0, api.ErrBig}, {behind(empty, 129, 0), 0, 0, api.ErrBig}, {bytes.Repeat([]byte{128}, 11), 0, 0, api.ErrBig}, {bytes.Repeat([]byte{255}, 1000), 0, 0, api.ErrBig},
	} {
		if x, size, err := Unvar(c.b); x != c.x || size != c.size || err != c.err {
			t.Errorf("Unvar(%v) = %d, %d, %d, not %d, %d, %d", c.b, x, size, err, c.x, c.size, c.err)
		}
	}
}

// unvar says of b what the chapter says of Unvar, with numbers of any size, for ever longer beginnings of b.
func unvar(b []byte) (uint64, int, api.Errno) {
	sum := new(big.Int)
	for i, c := range b {
		group := new(big.Int).SetInt64(int64(c % 128))
		sum.Add(sum, group.Lsh(group, uint(7*i)))
		if c >= 128 {
			if i+1 == 10 {
				return 0, 0, api.ErrBig
			}
			continue
		}
		if fewest := max(1, (sum.BitLen()+6)/7); i+1 > fewest {
			return 0, 0, api.ErrForm
		}
		if !sum.IsUint64() {
			return 0, 0, api.ErrBig
		}
		return sum.Uint64(), i + 1, api.OK
	}
	return 0, 0, api.ErrShort
}

// texts calls visit with all byte strings of up to two bytes, and with many longer ones of up to twelve bytes: runs of groups that are not last, any byte behind them, and something behind that.
func texts(visit func(b []byte)) {
	visit(nil)
	for c := range 256 {
		visit([]byte{byte(c)})
		for d := range 256 {
			visit([]byte{byte(c), byte(d)})
		}
	}
	for _, run := range []byte{128, 129, 192, 213, 254, 255} {
		for length := 1; length <= 11; length++ {
			for c := range 256 {
				b := append(bytes.Repeat([]byte{run}, length), byte(c))
				visit(b)
				visit(append(slices.Clone(b), 0))
				visit(append(slices.Clone(b), 1, 2))
				visit(append(slices.Clone(b), 128))
				b[0] ^= 1
				visit(b)
			}
		}
	}
}

// P302: Unvar, compared with the chapter's words.
func TestUnvarByWords(t *testing.T) {
	texts(func(b []byte) {
		x, size, err := Unvar(b)
		wantX, wantSize, wantErr := unvar(b)
		if x != wantX || size != wantSize || err != wantErr {
			t.Fatalf("Unvar(%v) = %d, %d, %d, not %d, %d, %d", b, x, size, err, wantX, wantSize, wantErr)
		}
	})
}

// P303: Get inverts Put for just the numbers that fit.
func TestGetInvertsPut(t *testing.T) {
	for _, x := range numbers() {
		for width := -1; width <= 10; width++ {
			got, err := Get(Put(x, width))
			if valid := width >= 1 && width <= 8; valid != (err == api.OK) {
				t.Fatalf("Get(Put(%#x, %d)): error %d", x, width, err)
			}
			if (err == api.OK && got == x) != Fits(x, width) {
				t.Fatalf("Get(Put(%#x, %d)) = %#x, but Fits is %v", x, width, got, Fits(x, width))
			}
		}
	}
}

// P303: Unvar inverts Var, whatever bytes follow.
func TestUnvarInvertsVar(t *testing.T) {
	followers := [][]byte{nil, {0}, {1}, {127}, {128}, {255}, {128, 0}, {0, 0, 0}, bytes.Repeat([]byte{255}, 20), bytes.Repeat([]byte{128}, 20)}
	for _, x := range numbers() {
		b := Var(x)
		for _, more := range followers {
			got, size, err := Unvar(append(slices.Clone(b), more...))
			if got != x || size != len(b) || err != api.OK {
				t.Fatalf("Unvar(Var(%d) and %v) = %d, %d, %d", x, more, got, size, err)
			}
		}
		for cut := range b {
			if got, size, err := Unvar(b[:cut]); got != 0 || size != 0 || err != api.ErrShort {
				t.Fatalf("Unvar(%v) = %d, %d, %d", b[:cut], got, size, err)
			}
		}
	}
}

// P303: Var of a number that Unvar returns is the beginning of the bytes that were read.
func TestVarOfUnvar(t *testing.T) {
	texts(func(b []byte) {
		x, size, err := Unvar(b)
		if err != api.OK {
			return
		}
		if got := Var(x); size != len(got) || !bytes.HasPrefix(b, got) {
			t.Fatalf("Unvar(%v) = %d, %d, but Var(%d) = %v", b, x, size, x, got)
		}
	})
}

// Rule 4: what is read stays as it is, with all that lies behind it.
func TestArgumentsStay(t *testing.T) {
	whole := []byte{172, 130, 3, 4, 5, 6, 7, 8, 9, 10, 11, 12}
	before := slices.Clone(whole)
	for n := range whole {
		Get(whole[:n])
		Unvar(whole[:n])
	}
	if !bytes.Equal(whole, before) {
		t.Errorf("%v has become %v", before, whole)
	}
}

// Answers are new memory: changing one changes no later one.
func TestAnswersAreNew(t *testing.T) {
	for _, write := range []func() []byte{
		func() []byte { return Put(0x0807060504030201, 8) },
		func() []byte { return Var(300) },
		func() []byte { return Var(0) },
	} {
		first := write()
		want := slices.Clone(first)
		for i := range first {
			first[i]++
		}
		if got := write(); !bytes.Equal(got, want) {
			t.Errorf("%v, not %v", got, want)
		}
	}
}
