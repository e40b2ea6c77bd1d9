package name

import (
	"encoding/binary"
	"regexp"
	"slices"
	"strings"
	"testing"

	"handcart/api"
)

// form is the chapter's definition of a name, as an expression.
var form = regexp.MustCompile(`\A[a-z][a-z0-9-]{0,7}\z`)

// names are texts that are names, in increasing order.
func names() []string {
	return []string{
		"a", "a-", "a--------"[:8], "a-b", "a0", "a00", "a9", "aa", "aaaaaaa", "aaaaaaaa", "aaaaaaab", "ab", "abcdefg", "abcdefgh",
		"b", "cart-7", "cup", "cups", "m-9-z", "tea", "tea-9", "z", "z-------", "z9999999", "zz", "zzzzzzzz",
	}
}

// strangers are texts that are not names.
func strangers() []string {
	return []string{
		"", "0", "9", "-", "9a", "0a", "-a", "--", "A", "Z", "aB", "Ab", "abcdefgH", " ", " a", "a ", "a b", "a\n", "\na", "a_b", "a.b", "a/", "a:", "a`", "a{",
		"`", "{", "a@", "a[", "a,", "a+", "abcdefghi", "aaaaaaaaa", "abcdefgh-", "abcdefgh ", "abcdefgh9z", "123456789", strings.Repeat("a", 16), strings.Repeat("a", 100000),
		"\x00", "a\x00", "a\x00\x00\x00\x00\x00\x00\x00", "abcdefg\x00", "abcdefgh\x00", "a\x00b", "\x00a", "a\x00\x00b", "\x00\x00\x00\x00\x00\x00\x00\x00",
		"é", "aé", "ä", "a\xff", "\xff", "a\x80", "\xe1", "ａ", "a\x7f", "a\x1f",
	}
}

// padded returns the bytes of s in an api.Name, byte by byte.
func padded(s string) api.Name {
	var n api.Name
	for i := range min(len(s), len(n)) {
		n[i] = s[i]
	}
	return n
}

// right is Right by the form of what stands ahead of the zero bytes at the end.
func right(n api.Name) bool {
	return form.MatchString(strings.TrimRight(string(n[:]), "\x00"))
}

// variants are arrays with each byte at each place, within a name of each length and behind it, and the same for the zero array.
func variants() []api.Name {
	var l []api.Name
	for length := range api.MaxName + 1 {
		base := padded("k-9zq0-a"[:length])
		for place := range base {
			for c := range 256 {
				n := base
				n[place] = byte(c)
				l = append(l, n)
			}
		}
	}
	return l
}

// edges are arrays at the ends of the order, with zero bytes ahead and inside, and with bytes from 128 on.
func edges() []api.Name {
	return []api.Name{
		{},
		{0, 0, 0, 0, 0, 0, 0, 1},
		{0, 0, 0, 0, 0, 0, 1, 0},
		{0, 'a'},
		{1},
		{'-'},
		{'0'},
		{'a'},
		{'a', 0, 0, 0, 0, 0, 0, 'z'},
		{'a', 0, 'b'},
		{'a', 0, 'c'},
		{'a', '-'},
		{'a', '0'},
		{'a', 'a'},
		{'a', 'b', 0, 'a'},
		{'a', 'b', 'c', 'd', 'e', 'f', 'g', 'h'},
		{'z', 'z', 'z', 'z', 'z', 'z', 'z', 'z'},
		{0x7f, 0xff, 0xff, 0xff, 0xff, 0xff, 0xff, 0xff},
		{0x80},
		{0x80, 0, 0, 0, 0, 0, 0, 1},
		{0xff},
		{0xff, 0xff, 0xff, 0xff, 0xff, 0xff, 0xff, 0xfe},
		{0xff, 0xff, 0xff, 0xff, 0xff, 0xff, 0xff, 0xff},
	}
}

// checkOf holds Of(s) against whether s is a name.
func checkOf(t *testing.T, s string, is bool) {
	t.Helper()
	n, err := Of(s)
	want, wantErr := padded(s), api.OK
	if !is {
		want, wantErr = api.Name{}, api.ErrForm
	}
	if n != want || err != wantErr {
		t.Errorf("Of(%q): %v, %v, not %v, %v", s, n, err, want, wantErr)
	}
}

func TestP601Of(t *testing.T) {
	for _, s := range names() {
		checkOf(t, s, true)
	}
	for _, s := range strangers() {
		checkOf(t, s, false)
	}
}

func TestP601OfOneAndTwoBytes(t *testing.T) {
	for a := range 256 {
		one := string([]byte{byte(a)})
		checkOf(t, one, 'a' <= a && a <= 'z')
		for b := range 256 {
			two := one + string([]byte{byte(b)})
			checkOf(t, two, form.MatchString(two))
		}
	}
}

// TestP601OfLengths: names have 1 to 8 bytes, and each byte is checked, also those behind the eighth one.
func TestP601OfLengths(t *testing.T) {
	for length := range 20 {
		s := strings.Repeat("b", length)
		checkOf(t, s, 1 <= length && length <= 8)
		for place := range length {
			for c := range 256 {
				b := []byte(s)
				b[place] = byte(c)
				checkOf(t, string(b), form.Match(b))
			}
		}
	}
}

func TestP601Text(t *testing.T) {
	for _, c := range []struct {
		n    api.Name
		want string
	}{
		{api.Name{}, ""},
		{api.Name{'a'}, "a"},
		{api.Name{'t', 'e', 'a', '-', '9'}, "tea-9"},
		{api.Name{'a', 'b', 'c', 'd', 'e', 'f', 'g'}, "abcdefg"},
		{api.Name{'a', 'b', 'c', 'd', 'e', 'f', 'g', 'h'}, "abcdefgh"},
		{api.Name{'a', 0, 'b'}, "a"},
		{api.Name{'a', 'b', 0, 0, 0, 0, 0, 'c'}, "ab"},
		{api.Name{0, 'a', 'b'}, ""},
		{api.Name{0, 0, 0, 0, 0, 0, 0, 'a'}, ""},
		{api.Name{'9', 'A', ' ', '\n'}, "9A \n"},
		{api.Name{0xff, 0x80, 1}, "\xff\x80\x01"},
		{api.Name{0xff, 0xff, 0xff, 0xff, 0xff, 0xff, 0xff, 0xff}, "\xff\xff\xff\xff\xff\xff\xff\xff"},
		{api.Name{' ', 'a', ' '}, " a "},
	} {
		if got := Text(c.n); got != c.want {
			t.Errorf("Text(%v): %q, not %q", c.n, got, c.want)
		}
	}
	for _, n := range slices.Concat(variants(), edges()) {
		want := string(n[:])
		if i := strings.IndexByte(want, 0); i >= 0 {
			want = want[:i]
		}
		if got := Text(n); got != want {
			t.Errorf("Text(%v): %q, not %q", n, got, want)
		}
	}
}

func TestP601Right(t *testing.T) {
	for _, s := range names() {
		if !Right(padded(s)) {
			t.Errorf("Right(%q): false", s)
		}
	}
	for _, n := range []api.Name{
		{},
		{'9'},
		{'0', 'a'},
		{'-'},
		{'-', 'a'},
		{'A'},
		{'a', 'B'},
		{'a', 0, 'b'},
		{'a', 0, 0, 0, 0, 0, 0, 'b'},
		{'a', 0, 0, 0, 0, 0, 0, 1},
		{'a', 0, ' '},
		{0, 'a'},
		{0, 0, 0, 0, 0, 0, 0, 'a'},
		{'a', ' '},
		{'a', 'b', 'c', 'd', 'e', 'f', 'g', 'H'},
		{'a', 'b', 'c', 'd', 'e', 'f', 'g', 0xff},
		{0xe1},
		{'a', 0x80},
	} {
		if Right(n) {
			t.Errorf("Right(%v): true", n)
		}
	}
	for _, n := range slices.Concat(variants(), edges()) {
		if got := Right(n); got != right(n) {
			t.Errorf("Right(%v): %v", n, got)
		}
	}
}

func TestP601Some(t *testing.T) {
	if Some(api.Name{}) {
		t.Error("Some of zero bytes: true")
	}
	for place := range api.MaxName {
		for c := 1; c < 256; c++ {
			var n api.Name
			n[place] = byte(c)
			if !Some(n) {
				t.Errorf("Some(%v): false", n)
			}
		}
	}
	for _, s := range names() {
		if !Some(padded(s)) {
			t.Errorf("Some(%q): false", s)
		}
	}
}

// checkOrder holds Less of all pairs of l against their places in l.
func checkOrder(t *testing.T, l []api.Name) {
	t.Helper()
	for i, a := range l {
		for j, b := range l {
			if got := Less(a, b); got != (i < j) {
				t.Errorf("Less(%v, %v): %v", a, b, got)
			}
		}
	}
}

func TestP602Less(t *testing.T) {
	var l []api.Name
	for _, s := range names() {
		l = append(l, padded(s))
	}
	checkOrder(t, l)
	checkOrder(t, edges())
}

// TestP602LessAtEachPlace: the first byte that differs decides, whatever follows it.
func TestP602LessAtEachPlace(t *testing.T) {
	for place := range api.MaxName {
		for c := range 255 {
			a, b := padded("mmmmmmmm"), padded("mmmmmmmm")
			a[place], b[place] = byte(c), byte(c+1)
			for i := place + 1; i < api.MaxName; i++ {
				a[i], b[i] = 255, 0
			}
			checkOrder(t, []api.Name{a, b})
		}
	}
}

func TestP602Number(t *testing.T) {
	for _, c := range []struct {
		n    api.Name
		want uint64
	}{
		{api.Name{}, 0},
		{api.Name{'a'}, 0x6100000000000000},
		{api.Name{'a', 'b'}, 0x6162000000000000},
		{api.Name{'a', 'b', 'c', 'd', 'e', 'f', 'g', 'h'}, 0x6162636465666768},
		{api.Name{'t', 'e', 'a', '-', '9'}, 0x7465612d39000000},
		{api.Name{'z', 'z', 'z', 'z', 'z', 'z', 'z', 'z'}, 0x7a7a7a7a7a7a7a7a},
		{api.Name{0, 0, 0, 0, 0, 0, 0, 1}, 1},
		{api.Name{0, 0, 0, 0, 0, 0, 1, 0}, 256},
		{api.Name{0x80}, 1 << 63},
		{api.Name{1, 2, 3, 4, 5, 6, 7, 8}, 0x0102030405060708},
		{api.Name{0xff, 0xff, 0xff, 0xff, 0xff, 0xff, 0xff, 0xff}, 1<<64 - 1},
	} {
		if got := Number(c.n); got != c.want {
			t.Errorf("Number(%v): %#x, not %#x", c.n, got, c.want)
		}
	}
	for _, n := range slices.Concat(variants(), edges()) {
		if got, want := Number(n), binary.BigEndian.Uint64(n[:]); got != want {
			t.Errorf("Number(%v): %#x, not %#x", n, got, want)
		}
	}
}

// checkFrom holds From(x) against whether the bytes of x, the most significant one first, are a name.
func checkFrom(t *testing.T, x uint64) {
	t.Helper()
	var want api.Name
	wantErr := api.OK
	binary.BigEndian.PutUint64(want[:], x)
	if !right(want) {
		want, wantErr = api.Name{}, api.ErrForm
	}
	if n, err := From(x); n != want || err != wantErr {
		t.Errorf("From(%#x): %v, %v, not %v, %v", x, n, err, want, wantErr)
	}
}

func TestP602From(t *testing.T) {
	for _, c := range []struct {
		x    uint64
		want string
		err  api.Errno
	}{
		{0x6100000000000000, "a", api.OK},
		{0x6162000000000000, "ab", api.OK},
		{0x6162636465666768, "abcdefgh", api.OK},
		{0x7465612d39000000, "tea-9", api.OK},
		{0x7a7a7a7a7a7a7a7a, "zzzzzzzz", api.OK},
		{0, "", api.ErrForm},
		{1, "", api.ErrForm},
		{0x61, "", api.ErrForm},
		{0x6100620000000000, "", api.ErrForm},
		{0x6100000000000001, "", api.ErrForm},
		{0x6100000000000061, "", api.ErrForm},
		{0x0061000000000000, "", api.ErrForm},
		{0x6000000000000000, "", api.ErrForm},
		{0x60ffffffffffffff, "", api.ErrForm},
		{0x7b00000000000000, "", api.ErrForm},
		{0x3900000000000000, "", api.ErrForm},
		{0x2d61000000000000, "", api.ErrForm},
		{0x4100000000000000, "", api.ErrForm},
		{0x6142000000000000, "", api.ErrForm},
		{0x616263646566677b, "", api.ErrForm},
		{0xe100000000000000, "", api.ErrForm},
		{1 << 63, "", api.ErrForm},
		{1<<64 - 1, "", api.ErrForm},
	} {
		n, err := From(c.x)
		if n != padded(c.want) || err != c.err {
			t.Errorf("From(%#x): %v, %v, not %q, %v", c.x, n, err, c.want, c.err)
		}
		checkFrom(t, c.x)
	}
	for _, n := range slices.Concat(variants(), edges()) {
		checkFrom(t, binary.BigEndian.Uint64(n[:]))
		checkFrom(t, binary.LittleEndian.Uint64(n[:]))
	}
}

// TestP603Inverse: Of inverts Text, and From inverts Number, where n is a name; where it is not, From tells.
func TestP603Inverse(t *testing.T) {
	count := 0
	for _, n := range slices.Concat(variants(), edges()) {
		got, err := From(Number(n))
		if !Right(n) {
			if err != api.ErrForm || Some(got) {
				t.Errorf("From(Number(%v)): %v, %v", n, got, err)
			}
			continue
		}
		count++
		if got != n || err != api.OK {
			t.Errorf("From(Number(%v)): %v, %v", n, got, err)
		}
		if back, err := Of(Text(n)); back != n || err != api.OK {
			t.Errorf("Of(Text(%v)): %v, %v", n, back, err)
		}
	}
	if count < 1000 {
		t.Errorf("only %d names", count)
	}
}

// TestP603Strings: what Of accepts, Text gives back, and Right holds for it.
func TestP603Strings(t *testing.T) {
	for _, s := range slices.Concat(names(), strangers()) {
		n, err := Of(s)
		if err == api.OK && (Text(n) != s || !Right(n)) {
			t.Errorf("Of(%q): %v", s, n)
		}
		if err != api.OK && (Some(n) || slices.Contains(names(), s)) {
			t.Errorf("Of(%q): %v, %v", s, n, err)
		}
	}
}

// TestP603Order: Less orders names, and all other arrays, as Number does.
func TestP603Order(t *testing.T) {
	l := edges()
	for _, s := range names() {
		l = append(l, padded(s))
	}
	for i, n := range variants() {
		if i%13 == 0 {
			l = append(l, n)
		}
	}
	for _, a := range l {
		for _, b := range l {
			if Less(a, b) != (Number(a) < Number(b)) {
				t.Errorf("Less(%v, %v): %v", a, b, Less(a, b))
			}
		}
	}
}
