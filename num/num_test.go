package num

import (
	"math"
	"math/big"
	"regexp"
	"slices"
	"strings"
	"testing"

	"handcart/api"
)

// edges are the numbers at which signs, lengths and overflow change.
func edges() []int {
	l := []int{math.MinInt, math.MinInt + 1, math.MinInt + 9, math.MaxInt - 9, math.MaxInt - 1, math.MaxInt, 0}
	for p := 1; ; p *= 10 {
		l = append(l, p-1, p, p+1, 1-p, -p, -p-1)
		if p > math.MaxInt/10 {
			return l
		}
	}
}

// texts calls visit with every text of at most most bytes of the alphabet.
func texts(alphabet string, most int, visit func(s string)) {
	var grow func(s string)
	grow = func(s string) {
		visit(s)
		if len(s) == most {
			return
		}
		for i := range len(alphabet) {
			grow(s + alphabet[i:i+1])
		}
	}
	grow("")
}

// P101: Print.
func TestPrint(t *testing.T) {
	for _, c := range []struct {
		n    int
		want string
	}{
		{0, "0"}, {7, "7"}, {-7, "-7"}, {10, "10"}, {-100, "-100"}, {1234567890, "1234567890"},
		{math.MaxInt64, "9223372036854775807"}, {math.MinInt64, "-9223372036854775808"},
	} {
		if got := Print(c.n); got != c.want {
			t.Errorf("Print(%d) = %q, not %q", c.n, got, c.want)
		}
	}
	for _, n := range edges() {
		if got, want := Print(n), big.NewInt(int64(n)).String(); got != want {
			t.Errorf("Print(%d) = %q, not %q", n, got, want)
		}
	}
}

type parsed struct {
	s           string
	least, most int
	n           int
	err         api.Errno
}

func checkParse(t *testing.T, cases []parsed) {
	t.Helper()
	for _, c := range cases {
		if n, err := Parse(c.s, c.least, c.most); n != c.n || err != c.err {
			t.Errorf("Parse(%q, %d, %d) = %d, %d, not %d, %d", c.s, c.least, c.most, n, err, c.n, c.err)
		}
	}
}

// P101: Parse, where s is the digits of a number.
func TestParseRange(t *testing.T) {
	least, most := math.MinInt, math.MaxInt
	checkParse(t, []parsed{
		{"0", 0, 0, 0, api.OK},
		{"7", 0, 9, 7, api.OK},
		{"-7", -7, 0, -7, api.OK},
		{"-8", -7, 0, 0, api.ErrRange},
		{"9", 0, 9, 9, api.OK},
		{"10", 0, 9, 0, api.ErrRange},
		{"-1", 0, 9, 0, api.ErrRange},
		{"0", 1, 9, 0, api.ErrRange},
		{"5", 5, 5, 5, api.OK},
		{"5", 6, 4, 0, api.ErrRange},
		{"5", 5, 4, 0, api.ErrRange},
		{"5", most, least, 0, api.ErrRange},
		{"0", least, most, 0, api.OK},
		{"9223372036854775807", least, most, math.MaxInt64, api.OK},
		{"9223372036854775807", least, most - 1, 0, api.ErrRange},
		{"9223372036854775808", least, most, 0, api.ErrRange},
		{"9223372036854775809", least, most, 0, api.ErrRange},
		{"9223372036854775810", least, most, 0, api.ErrRange},
		{"-9223372036854775808", least, most, math.MinInt64, api.OK},
		{"-9223372036854775808", least + 1, most, 0, api.ErrRange},
		{"-9223372036854775809", least, most, 0, api.ErrRange},
		{"-9223372036854775810", least, most, 0, api.ErrRange},
		// These are small numbers modulo 2^64, or modulo 2^63.
		{"18446744073709551616", least, most, 0, api.ErrRange},
		{"18446744073709551621", least, most, 0, api.ErrRange},
		{"-18446744073709551615", least, most, 0, api.ErrRange},
		{"92233720368547758080", least, most, 0, api.ErrRange},
		{"1" + strings.Repeat("0", 1000), least, most, 0, api.ErrRange},
		{"-1" + strings.Repeat("0", 1000), least, most, 0, api.ErrRange},
	})
}

// P101: Parse, where s is not the digits of a number. The range is empty: the form counts first.
func TestParseForm(t *testing.T) {
	for _, s := range []string{
		"", "-", "--1", "-0", "+0", "+1", "00", "07", "-07", "-00", "0-", "1-", "1-2", "x", "1x", "x1", "1x1",
		" 1", "1 ", "1 2", "\t1", "1\t", "1\n", "\n", "1_000", "1,000", "0x1", "0b1", "1e3", "1.0", "1.", ".1",
		"\x001", "1\x00", "/", ":", "1/", "1:", "\xff", "\xb2", "\u0661", "\uff11", "\u22121", "nan",
		strings.Repeat("9", 100) + "x", "-" + strings.Repeat("9", 100) + " ", strings.Repeat("0", 100),
		"09223372036854775808", "-09223372036854775809",
	} {
		checkParse(t, []parsed{
			{s, math.MinInt, math.MaxInt, 0, api.ErrForm},
			{s, 1, 0, 0, api.ErrForm},
		})
	}
	for c := range 256 {
		s := string([]byte{byte(c)})
		want := api.ErrForm
		if strings.Contains("0123456789", s) {
			want = api.OK
		}
		for _, padded := range []string{s, "1" + s, "-1" + s, "1" + s + "1"} {
			if _, err := Parse(padded, math.MinInt, math.MaxInt); err != want {
				t.Errorf("Parse(%q): error %d, not %d", padded, err, want)
			}
		}
	}
}

// P101: all short texts, and numbers of every length around the bounds of int, against a second definition of digits.
func TestParseAgainstDefinition(t *testing.T) {
	digits := regexp.MustCompile(`\A(0|-?[1-9][0-9]*)\z`)
	check := func(s string, least, most int) {
		n, err := Parse(s, least, most)
		wantN, want := 0, api.ErrForm
		if digits.MatchString(s) {
			want = api.ErrRange
			b, _ := new(big.Int).SetString(s, 10)
			if b.IsInt64() && int(b.Int64()) >= least && int(b.Int64()) <= most {
				wantN, want = int(b.Int64()), api.OK
			}
		}
		if n != wantN || err != want {
			t.Fatalf("Parse(%q, %d, %d) = %d, %d, not %d, %d", s, least, most, n, err, wantN, want)
		}
	}
	texts("-0159 x\n", 5, func(s string) { check(s, -105, 51) })
	for _, n := range edges() {
		for _, m := range edges() {
			check(Print(n), m, math.MaxInt)
			check(Print(n), math.MinInt, m)
		}
		for d := range 10 {
			check(Print(n)+Print(d), math.MinInt, math.MaxInt)
		}
	}
}

func checkTexts(t *testing.T, what, s string, got, want []string) {
	t.Helper()
	if !slices.Equal(got, want) {
		t.Fatalf("%s(%q) = %q, not %q", what, s, got, want)
	}
}

// P102: Words.
func TestWords(t *testing.T) {
	for _, c := range []struct {
		s    string
		want []string
	}{
		{"  a bc", []string{"a", "bc"}},
		{"", nil},
		{" ", nil},
		{"\t", nil},
		{" \t \t", nil},
		{"a", []string{"a"}},
		{"a ", []string{"a"}},
		{"\ta\t", []string{"a"}},
		{"a\tb \tc", []string{"a", "b", "c"}},
		{"b a b", []string{"b", "a", "b"}},
		// Only the bytes 32 and 9 are blanks.
		{"a\nb", []string{"a\nb"}},
		{"\n", []string{"\n"}},
		{"a\rb\vc\fd\x00e", []string{"a\rb\vc\fd\x00e"}},
		{"a\u00a0b\u2003c\u0085d", []string{"a\u00a0b\u2003c\u0085d"}},
		{"\xff \xa0\x85 \xc2", []string{"\xff", "\xa0\x85", "\xc2"}},
	} {
		checkTexts(t, "Words", c.s, Words(c.s), c.want)
	}
	for c := range 256 {
		s := "a" + string([]byte{byte(c)}) + "b"
		want := []string{s}
		if c == 32 || c == 9 {
			want = []string{"a", "b"}
		}
		checkTexts(t, "Words", s, Words(s), want)
	}
	texts("a \t\nb", 6, func(s string) {
		want := strings.FieldsFunc(s, func(r rune) bool { return r == 32 || r == 9 })
		checkTexts(t, "Words", s, Words(s), want)
	})
}

// P102: Lines.
func TestLines(t *testing.T) {
	for _, c := range []struct {
		s    string
		want []string
	}{
		{"", nil},
		{"a", []string{"a"}},
		{"a\n", []string{"a"}},
		{"\n", []string{""}},
		{"\n\n", []string{"", ""}},
		{"a\n\n", []string{"a", ""}},
		{"\na", []string{"", "a"}},
		{"a\n\nb", []string{"a", "", "b"}},
		{"a\nb\n", []string{"a", "b"}},
		{" \n\t", []string{" ", "\t"}},
		// Only the byte 10 ends a line.
		{"a\r\nb\r", []string{"a\r", "b\r"}},
		{"a\u2028b\u0085c", []string{"a\u2028b\u0085c"}},
	} {
		checkTexts(t, "Lines", c.s, Lines(c.s), c.want)
	}
	for c := range 256 {
		s := "a" + string([]byte{byte(c)}) + "b"
		want := []string{s}
		if c == 10 {
			want = []string{"a", "b"}
		}
		checkTexts(t, "Lines", s, Lines(s), want)
	}
	texts("a \n\r", 6, func(s string) {
		var want []string
		for line := range strings.SplitAfterSeq(s, "\n") {
			if line != "" {
				want = append(want, strings.TrimSuffix(line, "\n"))
			}
		}
		checkTexts(t, "Lines", s, Lines(s), want)
	})
}

// P103: Join.
func TestJoin(t *testing.T) {
	for _, c := range []struct {
		l    []int
		want string
	}{
		{nil, ""},
		{[]int{}, ""},
		{[]int{0}, "0"},
		{[]int{-7}, "-7"},
		{[]int{3, -1, 20}, "3 -1 20"},
		{[]int{2, 1, 2}, "2 1 2"},
		{[]int{math.MinInt64, math.MaxInt64}, "-9223372036854775808 9223372036854775807"},
	} {
		if got := Join(c.l); got != c.want {
			t.Errorf("Join(%v) = %q, not %q", c.l, got, c.want)
		}
	}
}

// P103: Split.
func TestSplit(t *testing.T) {
	for _, c := range []struct {
		s           string
		least, most int
		want        []int
		index       int
		err         api.Errno
	}{
		{"", 0, 9, nil, 0, api.OK},
		{" \t ", 0, 9, nil, 0, api.OK},
		{"", 9, 0, nil, 0, api.OK},
		{"4", 0, 9, []int{4}, 0, api.OK},
		{" 1\t2  3 ", 0, 9, []int{1, 2, 3}, 0, api.OK},
		{"9 0 9", 0, 9, []int{9, 0, 9}, 0, api.OK},
		{"x", 0, 9, nil, 0, api.ErrForm},
		{"10", 0, 9, nil, 0, api.ErrRange},
		{"1 2 x 4", 0, 9, nil, 2, api.ErrForm},
		{"1 -1 x", 0, 9, nil, 1, api.ErrRange},
		{"1 x -1", 0, 9, nil, 1, api.ErrForm},
		{"1 2 3 10", 0, 9, nil, 3, api.ErrRange},
		{"  1 \t 07", 0, 9, nil, 1, api.ErrForm},
		{"1\n2", 0, 9, nil, 0, api.ErrForm},
		{"1 2\n", 0, 9, nil, 1, api.ErrForm},
		{"1 99999999999999999999", 0, 9, nil, 1, api.ErrRange},
		{"5 5", 6, 4, nil, 0, api.ErrRange},
	} {
		got, index, err := Split(c.s, c.least, c.most)
		if !slices.Equal(got, c.want) || index != c.index || err != c.err {
			t.Errorf("Split(%q, %d, %d) = %v, %d, %d, not %v, %d, %d", c.s, c.least, c.most, got, index, err, c.want, c.index, c.err)
		}
	}
}

// P104: Parse inverts Print, whatever range contains the number.
func TestParseInvertsPrint(t *testing.T) {
	check := func(n int) {
		s := Print(n)
		checkParse(t, []parsed{
			{s, math.MinInt, math.MaxInt, n, api.OK},
			{s, n, n, n, api.OK},
		})
	}
	for n := -2000; n <= 2000; n++ {
		check(n)
	}
	for _, n := range edges() {
		check(n)
	}
}

// P104: printing a parsed number yields the original text.
func TestPrintInvertsParse(t *testing.T) {
	numbers := 0
	texts("-+0129 x", 5, func(s string) {
		n, err := Parse(s, math.MinInt, math.MaxInt)
		if err != api.OK {
			return
		}
		numbers++
		if Print(n) != s {
			t.Fatalf("Print(Parse(%q)) = %q", s, Print(n))
		}
	})
	// 0, and for each length the 3 first digits, the 4 following ones and 2 signs; 5 bytes with a sign have 4 digits.
	if want := 1 + 2*(3+12+48+192) + 768; numbers != want {
		t.Errorf("%d texts are numbers, not %d", numbers, want)
	}
}

// P104: Split inverts Join.
func TestSplitInvertsJoin(t *testing.T) {
	lists := [][]int{nil, {0}, {-1}, {1, 1}, {3, -1, 20}, edges()}
	for _, a := range edges() {
		for _, b := range edges() {
			lists = append(lists, []int{a, b})
		}
	}
	for _, l := range lists {
		got, index, err := Split(Join(l), math.MinInt, math.MaxInt)
		if !slices.Equal(got, l) || index != 0 || err != api.OK {
			t.Errorf("Split(Join(%v)) = %v, %d, %d", l, got, index, err)
		}
	}
}

// Rule 4: arguments keep their elements and their spare capacity.
func TestJoinLeavesArgument(t *testing.T) {
	l := []int{3, -1, 20, 77}
	Join(l[:2])
	if !slices.Equal(l, []int{3, -1, 20, 77}) {
		t.Errorf("Join changed its argument to %v", l)
	}
}
