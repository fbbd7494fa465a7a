package impl

import (
	"iter"
	"strconv"
	"strings"
)

const MaxText = 8000

const (
	// Every number of at most this many digits is within ReadDec's range, so
	// the length alone keeps the sum from overflowing.
	decDigits = 12
	hexDigits = "0123456789abcdef"
)

func DecText(n int) string { return strconv.Itoa(n) }

func ReadDec(s string) int {
	if s == "" || len(s) > decDigits || s[0] == '0' && len(s) > 1 {
		return -1
	}
	n := 0
	for _, c := range s {
		if c < '0' || c > '9' {
			return -1
		}
		n = n*10 + int(c-'0')
	}
	return n
}

func HexText(s string) string {
	out := make([]byte, 0, 2*len(s))
	for i := range len(s) {
		out = append(out, hexDigits[s[i]>>4], hexDigits[s[i]&15])
	}
	return string(out)
}

func ReadHex(s string) (string, bool) {
	if len(s)%2 != 0 {
		return "", false
	}
	out := make([]byte, 0, len(s)/2)
	for i := 0; i < len(s); i += 2 {
		high := strings.IndexByte(hexDigits, s[i])
		low := strings.IndexByte(hexDigits, s[i+1])
		if high < 0 || low < 0 {
			return "", false
		}
		out = append(out, byte(high<<4|low))
	}
	return string(out), true
}

func CutAt(s string, sep byte) (string, string, bool) {
	// strings.Cut would need sep as a string, which for a byte above 127 is
	// easily mistaken for a character of two bytes.
	i := strings.IndexByte(s, sep)
	if i < 0 {
		return s, "", false
	}
	return s[:i], s[i+1:], true
}

func SplitAt(s string, sep byte) []string {
	var list []string
	for part := range partsOf(s, sep) {
		list = append(list, part)
	}
	return list
}

func partsOf(s string, sep byte) iter.Seq[string] {
	return func(yield func(string) bool) {
		rest, more := s, s != ""
		for more {
			var part string
			part, rest, more = CutAt(rest, sep)
			if !yield(part) {
				return
			}
		}
	}
}

// Lower works on bytes: decoding to characters would replace bytes that are
// not valid UTF-8.
func Lower(s string) string {
	out := []byte(s)
	for i, c := range out {
		if 'A' <= c && c <= 'Z' {
			out[i] = c - 'A' + 'a'
		}
	}
	return string(out)
}

func Words(s string) []string {
	var list []string
	start := 0
	for i, c := range s {
		if c == ' ' || c == '\t' {
			list = addWord(list, s[start:i])
			start = i + 1
		}
	}
	return addWord(list, s[start:])
}

// addWord leaves out the empty strings that stand between adjacent blanks.
func addWord(list []string, word string) []string {
	if word == "" {
		return list
	}
	return append(list, word)
}

func Before(a string, b string) bool { return a < b }
