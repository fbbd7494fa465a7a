package tests

import "loop.example/g00716/impl"

// stringsOver returns all strings of at most n bytes over the given bytes.
func stringsOver(letters string, n int) []string {
	all := []string{""}
	last := all
	for range n {
		var next []string
		for _, s := range last {
			for i := range len(letters) {
				next = append(next, s+letters[i:i+1])
			}
		}
		all = append(all, next...)
		last = next
	}
	return all
}

// everyByte returns the string of all 256 bytes, most of which are not UTF-8.
func everyByte() string {
	out := make([]byte, 256)
	for i := range out {
		out[i] = byte(i)
	}
	return string(out)
}

// oddTexts holds strings that a function on characters instead of bytes, on
// signed bytes or on terminated strings would get wrong.
func oddTexts() []string {
	return []string{
		"", "\x00", "a\x00b", "\x7f", "\x80", "\xc3", "\xc3\xa4", "\xff", "\xff\xfe",
		"\xc0\xa0", "\xed\xa0\x80", "\u00a0", "\ufffd", "\U0001f600", "A\xc4Z", "a\r\nb", "\ufeffa", everyByte(),
	}
}

// pairsOf returns the pairs of the given keys and values, which alternate.
func pairsOf(texts ...string) []impl.Pair {
	var list []impl.Pair
	for i := 0; i+1 < len(texts); i += 2 {
		list = append(list, impl.Pair{Key: texts[i], Value: texts[i+1]})
	}
	return list
}
