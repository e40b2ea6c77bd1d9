package crc

import (
	"bytes"
	"math/big"
	"testing"

	"handcart/api"
)

// known are checksums that crc_hqx of Python's binascii computes, ahead of the first byte 0xffff.
func known() []struct {
	b    []byte
	want uint16
} {
	all := make([]byte, 256)
	for i := range all {
		all[i] = byte(i)
	}
	return []struct {
		b    []byte
		want uint16
	}{
		{nil, 0xffff},
		{[]byte{}, 0xffff},
		{[]byte{0}, 0xe1f0},
		{[]byte{1}, 0xf1d1},
		{[]byte{0x80}, 0x7078},
		{[]byte{0xff}, 0xff00},
		{[]byte{0, 0}, 0x1d0f},
		{[]byte{0xff, 0xff}, 0},
		{[]byte{1, 2, 3}, 0xadad},
		{make([]byte, 4), 0x84c0},
		{[]byte{0xff, 0xff, 0, 0}, 0},
		{[]byte("A"), 0xb915},
		{[]byte("abc"), 0x514a},
		{[]byte("1234"), 0x5349},
		{[]byte("123456789"), 0x29b1},
		{[]byte("handcart"), 0xd83b},
		{all, 0x3fbd},
		{bytes.Repeat([]byte("cup"), 1000), 0x7a49},
		{make([]byte, 65536), 0x1d0f},
	}
}

// texts are byte strings of small lengths, in several patterns.
func texts() [][]byte {
	var l [][]byte
	for n := range 20 {
		up, down := make([]byte, n), make([]byte, n)
		for i := range n {
			up[i], down[i] = byte(i+1), byte(250-7*i)
		}
		l = append(l, up, down, make([]byte, n), bytes.Repeat([]byte{255}, n))
	}
	return l
}

// registers are 0, those with one bit or all but one, and some without a pattern.
func registers() []uint16 {
	l := []uint16{0, 0xffff, 0x1d0f, 0x1234, 0xfedc, Poly, 0x00ff, 0xff00, 0x5555, 0xaaaa}
	for i := range 16 {
		l = append(l, 1<<i, ^uint16(1<<i))
	}
	return l
}

// bitwise returns the register after b, bit by bit as the chapter defines it.
func bitwise(register uint16, b []byte) uint16 {
	for _, c := range b {
		upper, lower := byte(register/256)^c, byte(register%256)
		wide := uint32(upper)*256 + uint32(lower)
		for range 8 {
			wide *= 2
			if wide >= 0x10000 {
				wide = (wide - 0x10000) ^ 0x1021
			}
		}
		register = uint16(wide)
	}
	return register
}

// divided returns the register after b as the remainder of a division of polynomials.
func divided(register uint16, b []byte) uint16 {
	dividend := new(big.Int).Lsh(new(big.Int).SetBytes(b), 16)
	dividend.Xor(dividend, new(big.Int).Lsh(big.NewInt(int64(register)), uint(8*len(b))))
	for n := dividend.BitLen(); n > 16; n = dividend.BitLen() {
		dividend.Xor(dividend, new(big.Int).Lsh(big.NewInt(0x11021), uint(n-17)))
	}
	return uint16(dividend.Uint64())
}

// turned returns b with those bits changed that are 1 in the lowest bits of pattern, of which the lowest one meets bit at of b (the highest bit of each byte first).
func turned(b []byte, pattern uint32, at int) []byte {
	b = bytes.Clone(b)
	for ; pattern > 0; pattern, at = pattern>>1, at-1 {
		if pattern&1 == 1 {
			b[at/8] ^= 0x80 >> (at % 8)
		}
	}
	return b
}

// The constant is part of the chapter.
func TestPoly(t *testing.T) {
	if Poly != 4129 {
		t.Errorf("Poly = %d", Poly)
	}
}

// P501: Sum.
func TestSum(t *testing.T) {
	for _, c := range known() {
		if got := Sum(c.b); got != c.want {
			t.Errorf("Sum(%.12x.. of %d) = %#04x, not %#04x", c.b, len(c.b), got, c.want)
		}
	}
	for _, b := range texts() {
		if got, want := Sum(b), bitwise(0xffff, b); got != want {
			t.Errorf("Sum(%x) = %#04x, not %#04x", b, got, want)
		}
		if got, want := Sum(b), divided(0xffff, b); got != want {
			t.Errorf("Sum(%x) = %#04x, but the remainder is %#04x", b, got, want)
		}
	}
}

// P501: Sum of all strings of one byte and of two, which are all different.
func TestSumOfShortStrings(t *testing.T) {
	seen := map[uint16][]byte{}
	for i := range 1 << 16 {
		b := []byte{byte(i >> 8), byte(i)}
		sum := Sum(b)
		if want := bitwise(0xffff, b); sum != want {
			t.Fatalf("Sum(%x) = %#04x, not %#04x", b, sum, want)
		}
		if other, ok := seen[sum]; ok {
			t.Fatalf("Sum(%x) = Sum(%x) = %#04x", b, other, sum)
		}
		seen[sum] = b
		if b[0] > 0 {
			continue
		}
		if got, want := Sum(b[1:]), bitwise(0xffff, b[1:]); got != want {
			t.Fatalf("Sum(%x) = %#04x, not %#04x", b[1:], got, want)
		}
	}
}

// P501: More.
func TestMore(t *testing.T) {
	for _, c := range []struct {
		sum  uint16
		b    string
		want uint16
	}{
		{0, "", 0}, {0x1234, "", 0x1234}, {0xffff, "", 0xffff},
		{0, "\x00", 0}, {0, "\x01", 0x1021}, {1, "\x00", 0x0100}, {1, "\x00\x00", 0x1021}, {0x8000, "\x00", 0x9188}, {0x00ff, "\x00", 0xff00},
		{0x8000, "\x80", 0}, {0xff00, "\xff", 0}, {0x29b1, "\x29\xb1", 0}, {0xffff, "\xff\xff", 0},
		{0x5349, "56789", 0x29b1}, {0xffff, "123456789", 0x29b1}, {0, "123456789", 0x31c3}, {0x1d0f, "123456789", 0xe5cc}, {0x1234, "abc", 0x7984}, {0x89f6, "56789", 0x7dc2},
	} {
		if got := More(c.sum, []byte(c.b)); got != c.want {
			t.Errorf("More(%#04x, %q) = %#04x, not %#04x", c.sum, c.b, got, c.want)
		}
	}
	if got := More(0x1234, nil); got != 0x1234 {
		t.Errorf("More(0x1234, nil) = %#04x", got)
	}
	for _, sum := range registers() {
		for c := range 256 {
			b := []byte{byte(c)}
			if got, want := More(sum, b), bitwise(sum, b); got != want {
				t.Fatalf("More(%#04x, %x) = %#04x, not %#04x", sum, b, got, want)
			}
		}
		for _, b := range texts() {
			if got, want := More(sum, b), divided(sum, b); got != want {
				t.Fatalf("More(%#04x, %x) = %#04x, not %#04x", sum, b, got, want)
			}
		}
	}
}

// P501: More from every register.
func TestMoreFromAll(t *testing.T) {
	for sum := range 1 << 16 {
		for _, b := range [][]byte{nil, {0x9a}, {0, 0, 1}} {
			if got, want := More(uint16(sum), b), bitwise(uint16(sum), b); got != want {
				t.Fatalf("More(%#04x, %x) = %#04x, not %#04x", sum, b, got, want)
			}
		}
	}
}

// P502: Seal.
func TestSeal(t *testing.T) {
	for _, c := range known() {
		want := append(bytes.Clone(c.b), byte(c.want>>8), byte(c.want))
		if got := Seal(c.b); !bytes.Equal(got, want) {
			t.Errorf("Seal(%.12x.. of %d) is not these bytes and %#04x", c.b, len(c.b), c.want)
		}
	}
	if got := Seal([]byte("123456789")); string(got) != "123456789\x29\xb1" {
		t.Errorf("Seal(123456789) = %x", got)
	}
}

// P502: Open.
func TestOpen(t *testing.T) {
	for _, c := range []struct {
		b    string
		want string
		err  api.Errno
	}{
		{"", "", api.ErrShort},
		{"\x00", "", api.ErrShort},
		{"\xff", "", api.ErrShort},
		{"\xff\xff", "", api.OK},
		{"\x00\x00", "", api.ErrSum},
		{"\xff\xfe", "", api.ErrSum},
		{"\xfe\xff", "", api.ErrSum},
		{"\x00\xe1\xf0", "\x00", api.OK},
		{"\x00\xf0\xe1", "", api.ErrSum},
		{"\x01\x02\x03", "", api.ErrSum},
		{"\xff\xff\x00\x00", "\xff\xff", api.OK},
		{"123456789\x29\xb1", "123456789", api.OK},
		{"123456789\xb1\x29", "", api.ErrSum},
		{"123456789\x29\xb0", "", api.ErrSum},
		{"123456789\x28\xb1", "", api.ErrSum},
		{"12345678\x29\xb1", "", api.ErrSum},
		{"123456789\x29\xb1\x01", "", api.ErrSum},
		{"123456789\x29\xb1\x00", "123456789\x29", api.OK}, // the upper byte of the sum clears itself, and the lower one moves up
		{"123456789\x29", "", api.ErrSum},
		{"123456789", "", api.ErrSum},
		{"123456789\x31\xc3", "", api.ErrSum}, // from a register of 0
	} {
		got, err := Open([]byte(c.b))
		if string(got) != c.want || err != c.err {
			t.Errorf("Open(%q) = %q, %d, not %q, %d", c.b, got, err, c.want, c.err)
		}
		if err != api.OK && got != nil {
			t.Errorf("Open(%q) = %v together with %d", c.b, got, err)
		}
	}
	if got, err := Open(nil); got != nil || err != api.ErrShort {
		t.Errorf("Open(nil) = %v, %d", got, err)
	}
}

// P502: of all sums behind the same bytes, Open takes exactly one.
func TestOpenTakesOneSum(t *testing.T) {
	for _, b := range [][]byte{nil, {0}, []byte("cup")} {
		for sum := range 1 << 16 {
			sealed := append(bytes.Clone(b), byte(sum>>8), byte(sum))
			got, err := Open(sealed)
			switch right := uint16(sum) == bitwise(0xffff, b); {
			case right && (err != api.OK || !bytes.Equal(got, b)):
				t.Fatalf("Open(%x) = %x, %d", sealed, got, err)
			case !right && (err != api.ErrSum || got != nil):
				t.Fatalf("Open(%x) = %x, %d, but its sum is wrong", sealed, got, err)
			}
		}
	}
}

// P503: a checksum part by part.
func TestPartByPart(t *testing.T) {
	for _, b := range texts() {
		for i := range len(b) + 1 {
			for j := i; j <= len(b); j++ {
				if got, want := More(More(Sum(b[:i]), b[i:j]), b[j:]), Sum(b); got != want {
					t.Fatalf("the checksum of %x, %x, %x is %#04x, not %#04x", b[:i], b[i:j], b[j:], got, want)
				}
			}
		}
	}
	for _, sum := range registers() {
		for _, b := range texts() {
			step := sum
			for _, c := range b {
				step = More(step, []byte{c})
			}
			if got := More(sum, b); got != step {
				t.Fatalf("More(%#04x, %x) = %#04x, but %#04x byte by byte", sum, b, got, step)
			}
		}
	}
}

// P503: Open inverts Seal, and Seal inverts Open.
func TestOpenInvertsSeal(t *testing.T) {
	l := texts()
	for _, c := range known() {
		l = append(l, c.b)
	}
	for _, b := range l {
		sealed := Seal(b)
		got, err := Open(sealed)
		if err != api.OK || !bytes.Equal(got, b) {
			t.Fatalf("Open(Seal(%.12x.. of %d)) = %.12x.. of %d, %d", b, len(b), got, len(got), err)
		}
		if again := Seal(got); !bytes.Equal(again, sealed) {
			t.Fatalf("Seal(Open(%.12x.. of %d)) is something else", sealed, len(sealed))
		}
		// What is sealed twice is opened twice.
		if got, err := Open(Seal(sealed)); err != api.OK || !bytes.Equal(got, sealed) {
			t.Fatalf("Open(Seal(Seal(%.12x.. of %d))) = %d", b, len(b), err)
		}
	}
}

// P503: all changes within 16 consecutive bits of short sealed bytes.
func TestChangesWithin16Bits(t *testing.T) {
	for _, b := range [][]byte{nil, {0x5a}, {0, 0}} {
		sealed := Seal(b)
		bits := 8 * len(sealed)
		for at := range bits {
			// The last bit that is changed is at: so each change comes up once.
			for pattern := uint32(1); pattern < 1<<min(16, at+1); pattern += 2 {
				if got, err := Open(turned(sealed, pattern, at)); err != api.ErrSum || got != nil {
					t.Fatalf("%x with %#04x changed up to bit %d: %x, %d", sealed, pattern, at, got, err)
				}
			}
		}
	}
}

// P503: some changes within 16 consecutive bits at every place of longer sealed bytes.
func TestChangesInLongerBytes(t *testing.T) {
	patterns := []uint32{1, 3, 5, 0x11, 0xff, 0x1021, 0x8001, 0x8811, 0xffff, 0xfffe >> 1, 0xa001, 0xd175, 0x8005, 0x9669}
	for _, b := range [][]byte{[]byte("123456789"), make([]byte, 40), bytes.Repeat([]byte{255}, 41), bytes.Repeat([]byte("handcart"), 20)} {
		sealed := Seal(b)
		for at := 15; at < 8*len(sealed); at++ {
			for _, pattern := range patterns {
				if got, err := Open(turned(sealed, pattern, at)); err != api.ErrSum || got != nil {
					t.Fatalf("%x with %#04x changed up to bit %d: %x, %d", sealed, pattern, at, got, err)
				}
			}
		}
	}
}

// P503: 17 consecutive bits are one too many: of the changes that reach from the first to the last of them, exactly the polynomial itself is not noticed.
func TestChangesWithin17Bits(t *testing.T) {
	for _, b := range [][]byte{{0x5a}, []byte("cup")} {
		sealed := Seal(b)
		for at := 16; at < 8*len(sealed); at++ {
			changed := turned(sealed, 0x11021, at)
			if got, err := Open(changed); err != api.OK || !bytes.Equal(got, changed[:len(b)]) {
				t.Errorf("%x with the polynomial changed up to bit %d: %x, %d", sealed, at, got, err)
			}
			for _, pattern := range []uint32{0x10001, 0x1ffff, 0x11023, 0x11121, 0x18005} {
				if _, err := Open(turned(sealed, pattern, at)); err != api.ErrSum {
					t.Errorf("%x with %#05x changed up to bit %d: %d", sealed, pattern, at, err)
				}
			}
		}
	}
}

// Rule 4: neither arguments nor their spare capacity are modified, and what is returned shares no memory with them.
func TestArgumentsStay(t *testing.T) {
	for _, text := range []string{"", "cup", "123456789", "\xff\xff", "123456789\x29\xb1", "123456789\x29\xb2"} {
		room := append([]byte(text), "spare capacity"...)
		before := bytes.Clone(room)
		b := room[:len(text)]
		Sum(b)
		More(7, b)
		sealed := Seal(b)
		opened, _ := Open(b)
		if !bytes.Equal(room, before) {
			t.Errorf("%q became %q", before, room)
		}
		for _, l := range [][]byte{append(sealed, "more"...), append(opened, "more"...), sealed, opened} {
			for i := range l {
				l[i] ^= 1
			}
		}
		if !bytes.Equal(room, before) {
			t.Errorf("what was returned for %q shares memory with it", text)
		}
	}
}

// Rule 5: the same arguments always lead to the same results.
func TestSameAgain(t *testing.T) {
	for _, b := range texts() {
		if Sum(b) != Sum(bytes.Clone(b)) || !bytes.Equal(Seal(b), Seal(bytes.Clone(b))) {
			t.Errorf("%x has two checksums", b)
		}
	}
}
