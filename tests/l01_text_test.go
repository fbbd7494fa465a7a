package tests

import (
	"math"
	"slices"
	"strings"
	"testing"

	"loop.example/g00716/impl"
)

const maxDec = 999999999999

func TestDecText(t *testing.T) {
	for _, c := range []struct {
		n    int
		text string
	}{
		{0, "0"}, {7, "7"}, {10, "10"}, {120, "120"}, {-1, "-1"}, {-120, "-120"},
		{maxDec, "999999999999"}, {maxDec + 1, "1000000000000"}, {-maxDec, "-999999999999"},
		{math.MaxInt64, "9223372036854775807"}, {math.MinInt64, "-9223372036854775808"},
	} {
		if got := impl.DecText(c.n); got != c.text {
			t.Errorf("DecText(%d) = %q, want %q", c.n, got, c.text)
		}
	}
}

func TestReadDecRecoversNumbers(t *testing.T) {
	var numbers []int
	for n := range 20000 {
		numbers = append(numbers, n, maxDec-n)
	}
	for power := 1; power <= maxDec; power *= 10 {
		for digit := 1; digit <= 9; digit++ {
			numbers = append(numbers, digit*power-1, digit*power, digit*power+1)
		}
	}
	numbers = append(numbers, 123456789012, 987654321098, math.MaxInt32+1, math.MaxUint32+1)
	for _, n := range numbers {
		if got := impl.ReadDec(impl.DecText(n)); got != n {
			t.Errorf("ReadDec(DecText(%d)) = %d", n, got)
		}
	}
}

func TestReadDecRejectsNumbersOutOfRange(t *testing.T) {
	for _, n := range []int{-1, -7, -120, -maxDec, maxDec + 1, maxDec + 2, 10 * maxDec, math.MaxInt64, math.MinInt64} {
		if got := impl.ReadDec(impl.DecText(n)); got != -1 {
			t.Errorf("ReadDec(DecText(%d)) = %d, want -1", n, got)
		}
	}
}

func TestReadDecRejectsOtherTexts(t *testing.T) {
	for _, s := range []string{
		"", "-", "+", "-0", "+0", "+1", "--1", "00", "01", "012", "000000000000", "099999999999",
		"1000000000000", "9999999999999", "0000000000001", "9223372036854775807", "9223372036854775808",
		"18446744073709551615", "18446744073709551616", "18446744073709551617", "340282366920938463463374607431768211457",
		" 1", "1 ", "1\n", "\t1", "1a", "a1", "1.0", "1e3", "1_0", "1,0", "0x1", "1/", "1:", "/", ":",
		"1\x00", "\x001", "\xb1", "1\xff", "\u00b2", "\u0661", "\uff11",
	} {
		if got := impl.ReadDec(s); got != -1 {
			t.Errorf("ReadDec(%q) = %d, want -1", s, got)
		}
	}
	for length := 13; length <= 200; length++ {
		for _, digit := range []string{"0", "1", "9"} {
			if got := impl.ReadDec(strings.Repeat(digit, length)); got != -1 {
				t.Errorf("ReadDec of %d digits %s = %d, want -1", length, digit, got)
			}
		}
	}
}

// A text is a number only if it is that number's DecText, however the text came about.
func TestReadDecIsInverseOfDecText(t *testing.T) {
	texts := append(stringsOver("019+- a\xb9", 4), oddTexts()...)
	for _, s := range texts {
		n := impl.ReadDec(s)
		if n < -1 || n > maxDec || n >= 0 && impl.DecText(n) != s {
			t.Errorf("ReadDec(%q) = %d", s, n)
		}
	}
}

func TestHexText(t *testing.T) {
	for _, c := range [][2]string{
		{"", ""}, {"\x00", "00"}, {"\x00\xffA", "00ff41"}, {"\x0f\xf0\x9a\xa9", "0ff09aa9"}, {"\xc3\xa4", "c3a4"}, {"az", "617a"},
	} {
		if got := impl.HexText(c[0]); got != c[1] {
			t.Errorf("HexText(%q) = %q, want %q", c[0], got, c[1])
		}
	}
}

func TestReadHexRecoversStrings(t *testing.T) {
	texts := append(oddTexts(), stringsOver("\x00\x7f\x80\xffa", 4)...)
	texts = append(texts, strings.Repeat(everyByte(), 40))
	for _, s := range texts {
		if got, ok := impl.ReadHex(impl.HexText(s)); !ok || got != s {
			t.Errorf("ReadHex(HexText(%q)) = %q, %v", s, got, ok)
		}
	}
}

func TestReadHexRejectsOtherTexts(t *testing.T) {
	for _, s := range []string{
		"0", "a", "00f", "00f0a", "0g", "g0", "FF", "fF", "Ff", "0A", "A0", "00FF41", " 00", "00 ", "0 0", "0x", "0x00",
		"-1", "+1", "\x00\x00", "0\x00", "\xff\xff", "0\xb0", "\u00e4", "\uff11", "00\n", "00ff4G", "0:", "0/", "0`", "0@",
	} {
		if got, ok := impl.ReadHex(s); ok || got != "" {
			t.Errorf("ReadHex(%q) = %q, %v, want none", s, got, ok)
		}
	}
}

func TestReadHexIsInverseOfHexText(t *testing.T) {
	texts := stringsOver(everyByte(), 2)
	texts = append(texts, stringsOver("09afAFg", 4)...)
	encodings := map[string]bool{"": true}
	for i := range 256 {
		encodings[impl.HexText(string([]byte{byte(i)}))] = true
	}
	for _, s := range texts {
		got, ok := impl.ReadHex(s)
		if ok && impl.HexText(got) != s || !ok && got != "" {
			t.Errorf("ReadHex(%q) = %q, %v", s, got, ok)
		}
		if len(s) <= 2 && ok != encodings[s] {
			t.Errorf("ReadHex(%q) = %v, want %v", s, ok, encodings[s])
		}
	}
}

func TestCutAt(t *testing.T) {
	for _, c := range []struct {
		s             string
		sep           byte
		before, after string
		found         bool
	}{
		{"a=b=c", '=', "a", "b=c", true},
		{"abc", '=', "abc", "", false},
		{"", '=', "", "", false},
		{"=", '=', "", "", true},
		{"=a", '=', "", "a", true},
		{"a=", '=', "a", "", true},
		{"==", '=', "", "=", true},
		{"a\x00b", 0, "a", "b", true},
		{"a\xffb\xff", 0xff, "a", "b\xff", true},
		{"\xc3\xa4", 0xa4, "\xc3", "", true},
		{"\xc3\xa4", 0xc3, "", "\xa4", true},
		{"\xc3\xa4", 0xe4, "\xc3\xa4", "", false},
		{"a\ufffdb", 0xff, "a\ufffdb", "", false},
	} {
		before, after, found := impl.CutAt(c.s, c.sep)
		if before != c.before || after != c.after || found != c.found {
			t.Errorf("CutAt(%q, %q) = %q, %q, %v", c.s, c.sep, before, after, found)
		}
	}
}

func TestCutPartsAreJoinedAgain(t *testing.T) {
	forTextsAndSeps(func(s string, sep byte, mark string) {
		before, after, found := impl.CutAt(s, sep)
		if found != strings.Contains(s, mark) || strings.Contains(before, mark) {
			t.Errorf("CutAt(%q, %q) = %q, %q, %v", s, sep, before, after, found)
		}
		if found && before+mark+after != s || !found && (before != s || after != "") {
			t.Errorf("CutAt(%q, %q) = %q, %q, %v", s, sep, before, after, found)
		}
	})
}

func TestSplitAt(t *testing.T) {
	for _, c := range []struct {
		s    string
		sep  byte
		want []string
	}{
		{"", '&', nil},
		{"a", '&', []string{"a"}},
		{"abc", '&', []string{"abc"}},
		{"&", '&', []string{"", ""}},
		{"&&", '&', []string{"", "", ""}},
		{"a&&b&", '&', []string{"a", "", "b", ""}},
		{"&a", '&', []string{"", "a"}},
		{"a&", '&', []string{"a", ""}},
		{" a & b ", '&', []string{" a ", " b "}},
		{"a\x00b", 0, []string{"a", "b"}},
		{"\xff\xffa", 0xff, []string{"", "", "a"}},
		{"\xc3\xa4\xc3\xb6", 0xc3, []string{"", "\xa4", "\xb6"}},
		{"\xc3\xa4", 0xe4, []string{"\xc3\xa4"}},
		{"a\r\nb\n", '\n', []string{"a\r", "b", ""}},
	} {
		if got := impl.SplitAt(c.s, c.sep); !slices.Equal(got, c.want) {
			t.Errorf("SplitAt(%q, %q) = %q, want %q", c.s, c.sep, got, c.want)
		}
	}
}

func TestSplitPartsAreJoinedAgain(t *testing.T) {
	forTextsAndSeps(func(s string, sep byte, mark string) {
		got := impl.SplitAt(s, sep)
		if s == "" {
			if len(got) != 0 {
				t.Errorf("SplitAt of the empty string = %q", got)
			}
			return
		}
		if strings.Join(got, mark) != s || len(got) != strings.Count(s, mark)+1 {
			t.Errorf("SplitAt(%q, %q) = %q", s, sep, got)
		}
	})
}

func TestJoinedPartsAreRecovered(t *testing.T) {
	parts := []string{"", "a", "bc", "\x00", "\xff\x80", "\u00e4", " ", "="}
	for _, a := range parts {
		for _, b := range parts {
			for _, c := range parts {
				list := []string{a, b, c}
				if got := impl.SplitAt(strings.Join(list, "&"), '&'); !slices.Equal(got, list) {
					t.Errorf("parts %q come back as %q", list, got)
				}
				if x, y, ok := impl.CutAt(a+"&"+b+"&"+c, '&'); !ok || x != a || y != b+"&"+c {
					t.Errorf("parts %q are cut into %q and %q", list, x, y)
				}
			}
		}
	}
}

// forTextsAndSeps also gives check the separator as a string of one byte.
func forTextsAndSeps(check func(s string, sep byte, mark string)) {
	texts := append(stringsOver("&=a\xff\x00", 4), oddTexts()...)
	for _, s := range texts {
		for _, sep := range []byte{'&', '=', 'a', 'z', ' ', '\n', 0, 0x80, 0xa4, 0xc3, 0xe4, 0xff} {
			check(s, sep, string([]byte{sep}))
		}
	}
}

func TestLower(t *testing.T) {
	for _, c := range [][2]string{
		{"", ""}, {"AbZ@[\xc4", "abz@[\xc4"}, {"Content-Length", "content-length"},
		{"\u00c4\u0130\u212a", "\u00c4\u0130\u212a"}, {"A\xff\x00Z", "a\xff\x00z"},
	} {
		if got := impl.Lower(c[0]); got != c[1] {
			t.Errorf("Lower(%q) = %q, want %q", c[0], got, c[1])
		}
	}
}

func TestLowerOfEveryByte(t *testing.T) {
	for i := range 256 {
		want := byte(i)
		if at := strings.IndexByte("ABCDEFGHIJKLMNOPQRSTUVWXYZ", want); at >= 0 {
			want = "abcdefghijklmnopqrstuvwxyz"[at]
		}
		if got := impl.Lower("A" + string([]byte{byte(i)}) + "Z"); got != "a"+string([]byte{want})+"z" {
			t.Errorf("Lower of byte %d = %q", i, got)
		}
	}
}

func TestWords(t *testing.T) {
	for _, c := range []struct {
		s    string
		want []string
	}{
		{"", nil}, {" ", nil}, {"\t", nil}, {" \t \t", nil},
		{"a", []string{"a"}},
		{" a\tbc  d", []string{"a", "bc", "d"}},
		{"a b ", []string{"a", "b"}},
		{"\t\ta\t\tb\t\t", []string{"a", "b"}},
		{"a\nb c\r", []string{"a\nb", "c\r"}},
		{"a\v\fb", []string{"a\v\fb"}},
		{"a\x00 \xff\xfe", []string{"a\x00", "\xff\xfe"}},
		{"a\u00a0b\u2003c\u3000d", []string{"a\u00a0b\u2003c\u3000d"}},
		{"\xc0\xa0 \xc0\x89", []string{"\xc0\xa0", "\xc0\x89"}},
		{"\xe2 \x80\t\xc3", []string{"\xe2", "\x80", "\xc3"}},
	} {
		if got := impl.Words(c.s); !slices.Equal(got, c.want) {
			t.Errorf("Words(%q) = %q, want %q", c.s, got, c.want)
		}
	}
}

func TestWordsAreMaximal(t *testing.T) {
	for _, s := range append(stringsOver(" \ta\n\xe2", 5), oddTexts()...) {
		rest := s
		for _, word := range impl.Words(s) {
			rest = strings.TrimLeft(rest, " \t")
			if word == "" || strings.ContainsAny(word, " \t") || !strings.HasPrefix(rest, word) {
				t.Errorf("Words(%q) has %q", s, word)
				break
			}
			rest = rest[len(word):]
			if rest != "" && rest[0] != ' ' && rest[0] != '\t' {
				t.Errorf("Words(%q) has %q, which is not maximal", s, word)
			}
		}
		if strings.Trim(rest, " \t") != "" {
			t.Errorf("Words(%q) leaves out %q", s, rest)
		}
	}
}

func TestBefore(t *testing.T) {
	for _, c := range []struct {
		a, b string
		want bool
	}{
		{"", "", false}, {"", "a", true}, {"a", "", false}, {"", "\x00", true},
		{"a", "ab", true}, {"ab", "a", false}, {"a", "a", false}, {"a", "a\x00", true},
		{"Z", "a", true}, {"a", "Z", false}, {"a", "b", true}, {"ab", "b", true}, {"b", "ab", false},
		{"10", "9", true}, {"\x7f", "\x80", true}, {"\x80", "\x7f", false}, {"z", "\xc3\xa4", true},
		{"\xff", "\xc3\xa4", false}, {"\xee\x80\x80", "\xf0\x9f\x98\x80", true}, {"\xff", "\xfe", false}, {"\xfe", "\xff", true},
	} {
		if got := impl.Before(c.a, c.b); got != c.want {
			t.Errorf("Before(%q, %q) = %v", c.a, c.b, got)
		}
	}
}

func TestBeforeIsTotalOrder(t *testing.T) {
	texts := append(stringsOver("\x00A\x7f\x80\xff", 3), oddTexts()...)
	slices.Sort(texts)
	texts = slices.Compact(texts)
	for i, a := range texts {
		for j, b := range texts {
			if got := impl.Before(a, b); got != (i < j) {
				t.Errorf("Before(%q, %q) = %v", a, b, got)
			}
		}
	}
}

// Promise 21 for chapter 1: the lists of two calls are separate memory, and strings beyond every limit return.
func TestListsOfTextsAreNewMemory(t *testing.T) {
	for _, list := range []func() []string{
		func() []string { return impl.SplitAt("a&b&c", '&') },
		func() []string { return impl.Words("a b c") },
	} {
		first := list()
		_ = append(first[:1], "x", "y")
		first[0] = "z"
		if got := list(); !slices.Equal(got, []string{"a", "b", "c"}) {
			t.Errorf("a changed result shows in the next one: %q", got)
		}
	}
}

func TestLongTextsReturn(t *testing.T) {
	const size = 300000
	for _, unit := range []string{"a", "7", "0", " ", "&", "\x00", "\xff", "A ", "a&", "\xe2\x80"} {
		s := strings.Repeat(unit, size)
		if got, ok := impl.ReadHex(impl.HexText(s)); !ok || got != s {
			t.Errorf("hexadecimals of %d times %q", size, unit)
		}
		if got := impl.ReadDec(s); got != -1 {
			t.Errorf("ReadDec of %d times %q = %d", size, unit, got)
		}
		if strings.Join(impl.SplitAt(s, '&'), "&") != s {
			t.Errorf("SplitAt of %d times %q", size, unit)
		}
		if a, b, ok := impl.CutAt(s, '&'); ok && a+"&"+b != s || !ok && a != s {
			t.Errorf("CutAt of %d times %q", size, unit)
		}
		if got := impl.Words(s); strings.Join(got, "") != strings.ReplaceAll(s, " ", "") {
			t.Errorf("Words of %d times %q", size, unit)
		}
		if impl.Before(s, s) || !impl.Before(s, s+"\x00") || len(impl.Lower(s)) != len(s) {
			t.Errorf("Before or Lower of %d times %q", size, unit)
		}
	}
}
