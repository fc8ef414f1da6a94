// Package octet is layer 1: see shared/doc/01-octet.md.
package octet

import (
	"iter"
	"strings"
)

// The kinds of bytes.
const (
	White   = 0
	Delim   = 1
	Regular = 2
)

// Kind tells which kind a byte is of.
func Kind(c byte) int {
	switch c {
	case 0, 9, 10, 12, 13, 32:
		return White
	case '(', ')', '<', '>', '[', ']', '{', '}', '/', '%':
		return Delim
	}
	return Regular
}

// Digit is a number's hexadecimal digit.
func Digit(n int) byte {
	switch {
	case 0 <= n && n <= 9:
		return '0' + byte(n)
	case 10 <= n && n <= 15:
		return 'A' + byte(n-10)
	}
	return 0
}

// Hex is a hexadecimal digit's number.
func Hex(c byte) int {
	switch {
	case '0' <= c && c <= '9':
		return int(c - '0')
	case 'A' <= c && c <= 'F':
		return int(c-'A') + 10
	case 'a' <= c && c <= 'f':
		return int(c-'a') + 10
	}
	return -1
}

// Span tells how many bytes are of some kinds.
func Span(s string, at int, kinds ...int) int {
	if at < 0 || at >= len(s) {
		return 0
	}
	n := 0
bytes:
	for ; n < len(s)-at; n++ {
		for _, kind := range kinds {
			if Kind(s[at+n]) == kind {
				continue bytes
			}
		}
		break bytes
	}
	return n
}

// Ends tells how long the end of a line is that stands there.
func Ends(s string, at int) int {
	switch {
	case at < 0 || at >= len(s):
		return 0
	case strings.HasPrefix(s[at:], "\r\n"):
		return 2
	case s[at] == '\r' || s[at] == '\n':
		return 1
	}
	return 0
}

// Lines tells where lines begin.
func Lines(s string) iter.Seq[int] {
	return func(yield func(int) bool) {
		for at := 0; at < len(s); at = behindLine(s, at) {
			if !yield(at) {
				return
			}
		}
	}
}

// behindLine is the place behind the first end of a line from a place on, or the text's end.
func behindLine(s string, at int) int {
	for at < len(s) {
		if n := Ends(s, at); n > 0 {
			return at + n
		}
		at++
	}
	return at
}

// Line tells where a line begins that begins with a word.
func Line(s string, from int, word string) int {
	// Whether a line begins at a place hangs on that byte and the one ahead of it alone,
	// so what stands further ahead is left out: to look for one line behind the other costs no more than to look once.
	ahead := min(max(from, 1)-1, len(s))
	for at := range Lines(s[ahead:]) {
		if place := ahead + at; place >= from && strings.HasPrefix(s[place:], word) {
			return place
		}
	}
	return -1
}
