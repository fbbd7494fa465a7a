package tests

import (
	"encoding/base64"
	"fmt"
	"slices"
	"strings"
	"testing"

	"loop.example/g00716/impl"
)

const (
	plainBytes = "ABCDEFGHIJKLMNOPQRSTUVWXYZabcdefghijklmnopqrstuvwxyz0123456789-_.~"
	b64Bytes   = "ABCDEFGHIJKLMNOPQRSTUVWXYZabcdefghijklmnopqrstuvwxyz0123456789-_"
)

func TestPct(t *testing.T) {
	for _, c := range [][2]string{
		{"", ""}, {plainBytes, plainBytes}, {" ", "%20"}, {"+", "%2B"}, {"%", "%25"}, {"%41", "%2541"},
		{"a&b=c", "a%26b%3Dc"}, {"\x00\x0f\xf0\xff", "%00%0F%F0%FF"}, {"\u00e4", "%C3%A4"}, {"a\r\nb", "a%0D%0Ab"},
		{"@[`{/:,", "%40%5B%60%7B%2F%3A%2C"}, {"\xab\xcd\xef", "%AB%CD%EF"},
	} {
		if got := impl.Pct(c[0]); got != c[1] {
			t.Errorf("Pct(%q) = %q, want %q", c[0], got, c[1])
		}
	}
}

func TestPctOfEveryByte(t *testing.T) {
	for i := range 256 {
		s := string([]byte{byte(i)})
		want := s
		if !strings.Contains(plainBytes, s) {
			want = fmt.Sprintf("%%%02X", i)
		}
		if got := impl.Pct("x" + s + "y"); got != "x"+want+"y" {
			t.Errorf("Pct of byte %d = %q, want %q between x and y", i, got, want)
		}
	}
}

func TestUnPctRecoversStrings(t *testing.T) {
	texts := append(oddTexts(), stringsOver("%4f+ \xff", 4)...)
	texts = append(texts, stringsOver(everyByte(), 2)...)
	for _, s := range texts {
		if got, ok := impl.UnPct(impl.Pct(s)); !ok || got != s {
			t.Errorf("UnPct(Pct(%q)) = %q, %v", s, got, ok)
		}
	}
}

func TestUnPct(t *testing.T) {
	for _, c := range [][2]string{
		{"", ""}, {"abc", "abc"}, {"+", "+"}, {"a b+c", "a b+c"}, {"&=?#", "&=?#"}, {"\x00\xff\xc3\xa4", "\x00\xff\xc3\xa4"},
		{"%41", "A"}, {"%4141", "A41"}, {"%34", "4"}, {"%25", "%"}, {"%2541", "%41"}, {"%25%32%35", "%25"},
		{"%00%0f%F0%ff%FF%fF%Ff", "\x00\x0f\xf0\xff\xff\xff\xff"}, {"x%aB%Cdy", "x\xab\xcdy"},
		{"%c3%A4", "\u00e4"}, {"%2b%2B", "++"}, {"a%2fb%2F", "a/b/"}, {"\xff%ff\xff", "\xff\xff\xff"},
	} {
		if got, ok := impl.UnPct(c[0]); !ok || got != c[1] {
			t.Errorf("UnPct(%q) = %q, %v, want %q", c[0], got, ok, c[1])
		}
	}
}

func TestUnPctRejectsIncompleteSequences(t *testing.T) {
	for _, s := range []string{
		"%", "%4", "%f", "a%", "a%4", "%41%", "%41%4", "%%", "%%%", "%%41", "%4%41", "%4%", "%25%", "%%25", "% ", "%41% ",
		"%4g", "%g4", "%G4", "%4G", "%gg", "%-1", "%+1", "%1+", "% 1", "%1 ", "%0x", "%x0", "%:0", "%0:", "%/0", "%0/",
		"%@0", "%0@", "%`0", "%0`", "%\x000", "%0\x00", "%\xb10", "%0\xb1", "%\xff\xff", "%\u00e4", "%\uff11", "%u0041", "%\n41",
	} {
		for _, tail := range []string{"", "z", "z%41"} {
			if got, ok := impl.UnPct(s + tail); ok || got != "" {
				t.Errorf("UnPct(%q) = %q, %v, want none", s+tail, got, ok)
			}
		}
	}
}

// Every pair of bytes after a `%`, and every single one.
func TestUnPctOfEveryPairOfBytes(t *testing.T) {
	const digits = "0123456789abcdefABCDEF"
	for _, pair := range stringsOver(everyByte(), 2) {
		var want string
		if len(pair) == 2 && strings.Trim(pair, digits) == "" {
			var c byte
			fmt.Sscanf(pair, "%x", &c)
			want = string([]byte{c})
		}
		got, ok := impl.UnPct("%" + pair)
		if ok != (want != "") || got != want {
			t.Errorf("UnPct of %% and %q = %q, %v, want %q", pair, got, ok, want)
		}
	}
}

func TestPutForm(t *testing.T) {
	for _, c := range []struct {
		list []impl.Pair
		form string
	}{
		{nil, ""},
		{[]impl.Pair{}, ""},
		{pairsOf("", ""), "="},
		{pairsOf("", "", "", ""), "=&="},
		{pairsOf("a", ""), "a="},
		{pairsOf("", "b"), "=b"},
		{pairsOf("a", "1", "x y", "a&b=c"), "a=1&x%20y=a%26b%3Dc"},
		{pairsOf("+", "%", "\xff", "\u00e4"), "%2B=%25&%FF=%C3%A4"},
		{pairsOf("a", "1", "a", "2", "a", "1"), "a=1&a=2&a=1"},
	} {
		if got := impl.PutForm(c.list); got != c.form {
			t.Errorf("PutForm(%q) = %q, want %q", c.list, got, c.form)
		}
	}
}

func TestGetForm(t *testing.T) {
	for _, c := range []struct {
		form string
		list []impl.Pair
	}{
		{"", nil},
		{"=", pairsOf("", "")},
		{"=&=", pairsOf("", "", "", "")},
		{"a=", pairsOf("a", "")},
		{"=a", pairsOf("", "a")},
		{"a=b=c", pairsOf("a", "b=c")},
		{"==", pairsOf("", "=")},
		{"a==", pairsOf("a", "=")},
		{"a=b==&c=", pairsOf("a", "b==", "c", "")},
		{"+=+", pairsOf(" ", " ")},
		{"x+y=a++b", pairsOf("x y", "a  b")},
		{"%2B=%2b", pairsOf("+", "+")},
		{"a%2B+b=%2B+%2b", pairsOf("a+ b", "+ +")},
		{"a=%252B", pairsOf("a", "%2B")},
		{"a%3Db=%26&c%3d=d", pairsOf("a=b", "&", "c=", "d")},
		{"a=1&a=2&a=1", pairsOf("a", "1", "a", "2", "a", "1")},
		{"\xff=\x00 ;", pairsOf("\xff", "\x00 ;")},
		{"%ff=%Ff", pairsOf("\xff", "\xff")},
		{"a=1;b=2", pairsOf("a", "1;b=2")},
	} {
		if got, ok := impl.GetForm(c.form); !ok || !slices.Equal(got, c.list) {
			t.Errorf("GetForm(%q) = %q, %v, want %q", c.form, got, ok, c.list)
		}
	}
}

func TestGetFormRejectsOtherTexts(t *testing.T) {
	for _, bad := range []string{
		"a", "+", "%3D", "a%3Db", "%", "%=", "=%", "a%=b", "%4=", "=%4", "a=%4", "a=%g4", "%4g=a", "a=b=%", "a=%%41",
		"%3=D", "a=%+1", "a=%1+", "%+1=a", "%2=B", "a=%2 B", "\x00", "\xff",
	} {
		for _, form := range []string{bad, "a=1&" + bad, bad + "&a=1", "a=1&" + bad + "&b=2"} {
			if got, ok := impl.GetForm(form); ok || len(got) != 0 {
				t.Errorf("GetForm(%q) = %q, %v, want none", form, got, ok)
			}
		}
	}
	for _, form := range []string{"&", "&&", "a=1&", "&a=1", "a=1&&b=2", "=&", "&=", "a=%&", "a=%4&1=", "a=%&41="} {
		if got, ok := impl.GetForm(form); ok || len(got) != 0 {
			t.Errorf("GetForm(%q) = %q, %v, want none", form, got, ok)
		}
	}
}

func TestGetFormRecoversPairs(t *testing.T) {
	texts := append(oddTexts(), "a", "+", "%", "&", "=", " ", "%2B", "a=b&c", "%zz")
	for _, key := range texts {
		for _, value := range texts {
			for _, list := range [][]impl.Pair{
				pairsOf(key, value),
				pairsOf(key, value, value, key),
				pairsOf(key, value, "", "", key, value, key, ""),
			} {
				if got, ok := impl.GetForm(impl.PutForm(list)); !ok || !slices.Equal(got, list) {
					t.Errorf("pairs %q come back as %q, %v", list, got, ok)
				}
			}
		}
	}
}

func TestGetFormRecoversEachNumberOfPairs(t *testing.T) {
	var list []impl.Pair
	for n := range 100 {
		form := impl.PutForm(list)
		if n > 0 && strings.Count(form, "&") != n-1 {
			t.Errorf("PutForm of %d pairs = %q", n, form)
		}
		got, ok := impl.GetForm(form)
		if ok != (n <= 30) || ok && !slices.Equal(got, list) || !ok && len(got) != 0 {
			t.Errorf("%d pairs come back as %d, %v", n, len(got), ok)
		}
		list = append(list, impl.Pair{Key: fmt.Sprint("k", n%7), Value: strings.Repeat("v", n)})
	}
}

func TestGetFormCountsAllPairs(t *testing.T) {
	for _, part := range []string{"=", "a=", "=a", "a=b=c", "%41=+"} {
		if got, ok := impl.GetForm(strings.Repeat(part+"&", 29) + part); !ok || len(got) != 30 {
			t.Errorf("30 times %q: %d pairs, %v", part, len(got), ok)
		}
		for _, form := range []string{
			strings.Repeat(part+"&", 30) + part, strings.Repeat(part+"&", 30), strings.Repeat(part+"&", 30) + "%=",
			"a&" + strings.Repeat(part+"&", 29) + part, strings.Repeat(part+"&", 29) + "a", strings.Repeat(part+"&", 29) + "a=%",
		} {
			if got, ok := impl.GetForm(form); ok || len(got) != 0 {
				t.Errorf("GetForm(%q) = %d pairs, %v, want none", form, len(got), ok)
			}
		}
	}
}

// What GetForm reads is recovered, however the form was written.
func TestGetFormAgreesWithPutForm(t *testing.T) {
	for _, s := range append(stringsOver("a=&+%4", 5), oddTexts()...) {
		list, ok := impl.GetForm(s)
		want := true
		for part := range strings.SplitSeq(s, "&") {
			// A comma ends a sequence just as the = between key and value does.
			_, decodes := impl.UnPct(strings.ReplaceAll(part, "=", ","))
			want = want && strings.Contains(part, "=") && decodes
		}
		want = want || s == ""
		if ok != want || !ok && len(list) != 0 || ok && s != "" && len(list) != strings.Count(s, "&")+1 {
			t.Errorf("GetForm(%q) = %q, %v, want %v", s, list, ok, want)
		}
		if again, fine := impl.GetForm(impl.PutForm(list)); !fine || !slices.Equal(again, list) {
			t.Errorf("the pairs %q of %q come back as %q, %v", list, s, again, fine)
		}
	}
}

func TestValue(t *testing.T) {
	list := pairsOf("a", "1", "", "none", "b", "", "a", "2", "b", "3", "\xff", "4", "A", "5", "ab", "6")
	for _, c := range []struct {
		list  []impl.Pair
		key   string
		value string
		found bool
	}{
		{list, "a", "1", true}, {list, "", "none", true}, {list, "b", "", true}, {list, "\xff", "4", true},
		{list, "A", "5", true}, {list, "ab", "6", true},
		{list, "B", "", false}, {list, "1", "", false}, {list, "a ", "", false}, {list, "abc", "", false},
		{list, "\ufffd", "", false}, {list, "none", "", false}, {list[1:], "a", "2", true}, {list[:1], "b", "", false},
		{nil, "a", "", false}, {nil, "", "", false}, {[]impl.Pair{}, "", "", false},
	} {
		if got, ok := impl.Value(c.list, c.key); ok != c.found || got != c.value {
			t.Errorf("Value(%q, %q) = %q, %v, want %q, %v", c.list, c.key, got, ok, c.value, c.found)
		}
	}
}

func TestB64(t *testing.T) {
	for _, c := range [][2]string{
		{"", ""}, {"f", "Zg"}, {"fo", "Zm8"}, {"foo", "Zm9v"}, {"foob", "Zm9vYg"}, {"fooba", "Zm9vYmE"}, {"foobar", "Zm9vYmFy"},
		{"\x00", "AA"}, {"\x00\x00", "AAA"}, {"\x00\x00\x00", "AAAA"}, {"\xff", "_w"}, {"\xff\xff", "__8"}, {"\xff\xff\xff", "____"},
		{"\xff\xfe", "__4"}, {"\xfb", "-w"}, {"\xfb\xef\xbe", "----"}, {"\u00e4", "w6Q"},
		{"\x00\x10\x83\x10\x51\x87\x20\x92\x8b\x30\xd3\x8f\x41\x14\x93\x51\x55\x97\x61\x96\x9b\x71\xd7\x9f" +
			"\x82\x18\xa3\x92\x59\xa7\xa2\x9a\xab\xb2\xdb\xaf\xc3\x1c\xb3\xd3\x5d\xb7\xe3\x9e\xbb\xf3\xdf\xbf", b64Bytes},
	} {
		if got := impl.B64(c[0]); got != c[1] {
			t.Errorf("B64(%q) = %q, want %q", c[0], got, c[1])
		}
		if got, ok := impl.UnB64(c[1]); !ok || got != c[0] {
			t.Errorf("UnB64(%q) = %q, %v, want %q", c[1], got, ok, c[0])
		}
	}
}

func TestUnB64RecoversStrings(t *testing.T) {
	texts := append(oddTexts(), stringsOver(everyByte(), 2)...)
	texts = append(texts, stringsOver("\x00\x01\x80\xff\x55", 5)...)
	for n := range 300 {
		texts = append(texts, strings.Repeat(everyByte(), 2)[n:2*n%200+n])
	}
	for _, s := range texts {
		code := impl.B64(s)
		if want := base64.RawURLEncoding.EncodeToString([]byte(s)); code != want {
			t.Errorf("B64(%q) = %q, want %q", s, code, want)
		}
		if got, ok := impl.UnB64(code); !ok || got != s {
			t.Errorf("UnB64(B64(%q)) = %q, %v", s, got, ok)
		}
	}
}

func TestUnB64RejectsOtherTexts(t *testing.T) {
	for _, s := range []string{
		"A", "Z", "_", "AAAAA", "Zm9vY", "Zm9vYmFyA", // one letter more than whole groups
		"Zh", "Zv", "AB", "_x", "__", "-_", "Zm9vYh", // two letters with appended bits that aren't zero
		"Zm9", "Zm-", "AAB", "AAD", "___", "Zm9vYmF", // three letters, likewise
		"=", "Zg=", "Zg==", "Zm8=", "Zm9v=", "Zm9v====", "=Zg", "Z=g", "====",
		"+w", "/w", "Zm+v", "Zm/v", "Z g", "Zg ", " Zg", "Zg\n", "Zm9v\n", "Zm9v\r\n", "Zm\n9v", "\nZm9v", "Zm9v\x00", "\x00",
		"Zm9.", "Zm9~", "Zm9%", "Zm9,", "Zm9@", "Zm9[", "Zm9`", "Zm9{", "Zm9:", "Zm9^", "AAA\x80", "AAA\xc1", "\xff\xff\xff\xff",
		"AA\u00e4", "\uff21\uff21",
	} {
		if got, ok := impl.UnB64(s); ok || got != "" {
			t.Errorf("UnB64(%q) = %q, %v, want none", s, got, ok)
		}
	}
}

// All texts of at most two bytes, and all of three letters: as many are accepted as there are strings of their length.
func TestUnB64IsInverseOfB64(t *testing.T) {
	count := map[int]int{}
	check := func(s string) {
		got, ok := impl.UnB64(s)
		if ok {
			count[len(s)]++
		}
		if ok && impl.B64(got) != s || !ok && got != "" {
			t.Errorf("UnB64(%q) = %q, %v", s, got, ok)
		}
	}
	for _, s := range stringsOver(everyByte(), 2) {
		check(s)
	}
	for _, s := range stringsOver(b64Bytes, 3) {
		if len(s) == 3 {
			check(s)
		}
	}
	for length, want := range []int{1, 0, 256, 256 * 256} {
		if count[length] != want {
			t.Errorf("UnB64 accepts %d texts of length %d, want %d", count[length], length, want)
		}
	}
	for _, s := range append(stringsOver("AQgwz9-_+=", 5), oddTexts()...) {
		check(s)
	}
}

func TestUnB64OfEveryByteAtEveryPlace(t *testing.T) {
	for place := range 8 {
		for i := range 256 {
			code := []byte("AAAAAAAA")
			code[place] = byte(i)
			got, ok := impl.UnB64(string(code))
			if want := strings.IndexByte(b64Bytes, byte(i)) >= 0; ok != want || ok && impl.B64(got) != string(code) || !ok && got != "" {
				t.Errorf("UnB64(%q) = %q, %v", code, got, ok)
			}
		}
	}
}

// Promise 21 for chapter 2: arguments stay as they are, results are separate memory, and strings of any length return.
func TestFormArgumentsStay(t *testing.T) {
	whole := pairsOf("a", "1", "x y", "a&b", "+", "%", "spare", "room")
	before := slices.Clone(whole)
	list := whole[:2]
	impl.PutForm(list)
	impl.Value(list, "x y")
	impl.Value(list, "spare")
	if !slices.Equal(whole, before) {
		t.Errorf("the list became %q", whole)
	}
}

func TestFormsAreNewMemory(t *testing.T) {
	want := pairsOf("a", "1", "b", "2", "c", "3")
	first, _ := impl.GetForm("a=1&b=2&c=3")
	second, _ := impl.GetForm("a=1&b=2&c=3")
	_ = append(first[:1], pairsOf("x", "y", "x", "y", "x", "y")...)
	first[0] = impl.Pair{Key: "z", Value: "z"}
	third, _ := impl.GetForm("a=1&b=2&c=3")
	if !slices.Equal(second, want) || !slices.Equal(third, want) {
		t.Errorf("a changed form shows in another one: %q, %q", second, third)
	}
}

func TestLongCodesReturn(t *testing.T) {
	const size = 100000
	for _, unit := range []string{"a", "A", "%", "%4", "%41", "+", "&", "=", "a=&", "a=b", "\x00", "\xff", "AQ", "\xe2\x80"} {
		s := strings.Repeat(unit, size)
		if got, ok := impl.UnPct(impl.Pct(s)); !ok || got != s {
			t.Errorf("percent encoding of %d times %q", size, unit)
		}
		if got, ok := impl.UnB64(impl.B64(s)); !ok || got != s {
			t.Errorf("base64url of %d times %q", size, unit)
		}
		list := pairsOf(s, s, s, "")
		if got, ok := impl.GetForm(impl.PutForm(list)); !ok || !slices.Equal(got, list) {
			t.Errorf("form of %d times %q", size, unit)
		}
		if got, ok := impl.UnPct(s); !ok && got != "" {
			t.Errorf("UnPct of %d times %q", size, unit)
		}
		if got, ok := impl.GetForm(s); !ok && len(got) != 0 {
			t.Errorf("GetForm of %d times %q", size, unit)
		}
		if got, ok := impl.UnB64(s); ok && impl.B64(got) != s || !ok && got != "" {
			t.Errorf("UnB64 of %d times %q", size, unit)
		}
	}
	many := make([]impl.Pair, size)
	if form := impl.PutForm(many); len(form) != 2*size-1 {
		t.Errorf("PutForm of %d pairs has %d bytes", size, len(form))
	}
	if _, ok := impl.Value(many, "a"); ok {
		t.Errorf("Value finds a key among %d empty ones", size)
	}
}
