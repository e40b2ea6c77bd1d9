// Package num is layer 1: numbers as digits, and the words of a line. See shared/doc/01-num.md.
package num

import (
	"math"
	"strconv"
	"strings"

	"handcart/api"
)

// Print returns the digits of n.
func Print(n int) string {
	return strconv.Itoa(n)
}

// Parse returns the number whose digits are s. A number beyond every int is still a number: it is out of range, not malformed.
func Parse(s string, least, most int) (int, api.Errno) {
	digits, negative := strings.CutPrefix(s, "-")
	if !areDigits(digits) || negative && digits == "0" {
		return 0, api.ErrForm
	}
	n, fits := value(digits, negative)
	if !fits || n < least || n > most {
		return 0, api.ErrRange
	}
	return n, api.OK
}

// areDigits reports whether s is the digits of a number that has no sign.
func areDigits(s string) bool {
	if len(s) > 1 && s[0] == '0' {
		return false
	}
	for i := range len(s) {
		if s[i] < '0' || s[i] > '9' {
			return false
		}
	}
	return s != ""
}

// value returns the number with these digits and this sign, and whether it fits into an int.
// It counts downwards, because the least int has no positive counterpart.
func value(digits string, negative bool) (int, bool) {
	n, i := 0, 0
next:
	if i < len(digits) {
		digit := int(digits[i] - '0')
		if n < (math.MinInt+digit)/10 {
			return 0, false
		}
		n = n*10 - digit
		i++
		goto next
	}
	if negative {
		return n, true
	}
	if n == math.MinInt {
		return 0, false
	}
	return -n, true
}

// Words returns what lies between the blanks of s.
func Words(s string) []string {
	blank := func(c byte) bool { return c == ' ' || c == '\t' }
	filled := func(word string, last bool) bool { return word != "" }
	return cut(s, blank, filled)
}

// Lines returns the lines of s. Only the last piece can be no line at all: the one behind a final byte 10, or that of the empty text.
func Lines(s string) []string {
	end := func(c byte) bool { return c == '\n' }
	isLine := func(line string, last bool) bool { return line != "" || !last }
	return cut(s, end, isLine)
}

// cut returns the pieces of s between the bytes that separate, as far as keep accepts them; last is true for the piece that ends with s.
func cut(s string, separates func(c byte) bool, keep func(piece string, last bool) bool) []string {
	var pieces []string
	start := 0
	for i := range len(s) {
		if !separates(s[i]) {
			continue
		}
		if piece := s[start:i]; keep(piece, false) {
			pieces = append(pieces, piece)
		}
		start = i + 1
	}
	if piece := s[start:]; keep(piece, true) {
		pieces = append(pieces, piece)
	}
	return pieces
}

// Join returns the digits of the numbers, separated by single blanks.
func Join(l []int) string {
	return spaced(l...)
}

// spaced prints its numbers with a single blank between neighbors.
func spaced(numbers ...int) string {
	var text strings.Builder
	for i, n := range numbers {
		if i > 0 {
			text.WriteByte(' ')
		}
		text.WriteString(Print(n))
	}
	return text.String()
}

// Split returns the numbers that the words of s are the digits of, or the first error with the index of its word.
func Split(s string, least, most int) ([]int, int, api.Errno) {
	var numbers []int
	for i, word := range Words(s) {
		n, err := Parse(word, least, most)
		if err != api.OK {
			return nil, i, err
		}
		numbers = append(numbers, n)
	}
	return numbers, 0, api.OK
}
