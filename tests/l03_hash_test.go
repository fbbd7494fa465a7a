package tests

import (
	"crypto/hmac"
	"crypto/sha256"
	"math"
	"slices"
	"strings"
	"testing"

	"loop.example/g00716/impl"
)

const maxTimes = 50

func TestShaKnownValues(t *testing.T) {
	for _, c := range [][2]string{
		{"", "e3b0c44298fc1c149afbf4c8996fb92427ae41e4649b934ca495991b7852b855"},
		{"abc", "ba7816bf8f01cfea414140de5dae2223b00361a396177a9cb410ff61f20015ad"},
		{"abcdbcdecdefdefgefghfghighijhijkijkljklmklmnlmnomnopnopq", "248d6a61d20638b8e5c026930c3e6039a33ce45964ff2167f6ecedd419db06c1"},
		{strings.Repeat("a", 55), "9f4390f8d30c2dd92ec9f095b65e2b9ae9b0a925a5258e241c9f1e910f734318"},
		{strings.Repeat("a", 56), "b35439a4ac6f0948b6d6f9e3c6af0f5f590ce20f1bde7090ef7970686ec6738a"},
		{strings.Repeat("a", 63), "7d3e74a05d7db15bce4ad9ec0658ea98e3f06eeecf16b4c6fff2da457ddc2f34"},
		{strings.Repeat("a", 64), "ffe054fe7ae0cb6dc65c3af9b61d5209f439851db43d0ba5997337df154668eb"},
		{strings.Repeat("a", 65), "635361c48bb9eab14198e76ea8ab7f1a41685d6ad62aa9146d301d4f17eb0ae0"},
		{strings.Repeat("a", 119), "31eba51c313a5c08226adf18d4a359cfdfd8d2e816b13f4af952f7ea6584dcfb"},
		{strings.Repeat("a", 120), "2f3d335432c70b580af0e8e1b3674a7c020d683aa5f73aaaedfdc55af904c21c"},
		{strings.Repeat("a", 128), "6836cf13bac400e9105071cd6af47084dfacad4e5e302c94bfed24e013afb73e"},
		{strings.Repeat("a", 1000000), "cdc76e5c9914fb9281a1c7e284d73e67f1809a48a497200e046d39ccc7112cd0"},
		{"\x00", "6e340b9cffb37a989ca544e6bb780a2c78901d3fb33738768511a30617afa01d"},
		{"\x80", "76be8b528d0075f7aae98d6fa57a6d3c83ae480a8469e668d7b0af968995ac71"},
		{"\u00e4", "33e6d73fee82904c8d7afb78de1154d1e8dc2a0edb08120e63df5b9385c2d9cc"},
		{strings.Repeat("\xff", 64), "8667e718294e9e0df1d30600ba3eeb201f764aad2dad72748643e4a285e1d1f7"},
		{everyByte(), "40aff2e9d2d8922e47afd4648e6967497158785fbd1da870e7110266bf944880"},
	} {
		if got := impl.HexText(impl.Sha(c[0])); got != c[1] {
			t.Errorf("Sha of %d bytes %.20q = %s, want %s", len(c[0]), c[0], got, c[1])
		}
	}
}

func TestShaOfEveryLength(t *testing.T) {
	for length := range 600 {
		for _, s := range messagesOf(length) {
			if got := impl.Sha(s); got != standardSha(s) {
				t.Errorf("Sha of %d bytes %.20q = %x", length, s, got)
			}
		}
	}
	for _, s := range oddTexts() {
		if got := impl.Sha(s); got != standardSha(s) {
			t.Errorf("Sha(%q) = %x", s, got)
		}
	}
}

func TestHashesDiffer(t *testing.T) {
	texts := append(oddTexts(), stringsOver(everyByte(), 1)...)
	texts = append(texts, stringsOver("\x00\x01\x80\xff", 5)...)
	for length := range 300 {
		texts = append(texts, messagesOf(length)...)
	}
	// What padding appends must not be confused with the message.
	for _, s := range []string{"", "a", strings.Repeat("a", 55), strings.Repeat("a", 64)} {
		texts = append(texts, s+"\x80", s+"\x80\x00", s+"\x80"+strings.Repeat("\x00", 63))
	}
	slices.Sort(texts)
	texts = slices.Compact(texts)
	hashes, underKey, underText := map[string]string{}, map[string]string{}, map[string]string{}
	for _, s := range texts {
		checkNew(t, "Sha", hashes, impl.Sha(s), s)
		checkNew(t, "Mac of key", underKey, impl.Mac("key", s), s)
		// Shorter keys are padded with zeros, and longer ones are hashed.
		if key := strings.TrimRight(s, "\x00"); key == s && len(s) <= 64 {
			checkNew(t, "Mac under it of text", underText, impl.Mac(s, "text"), s)
		}
	}
}

func TestHashesDifferInEveryBit(t *testing.T) {
	for _, length := range []int{1, 31, 55, 56, 64, 65, 128} {
		s := strings.Repeat("\x5a", length)
		hashes := map[string]string{impl.Sha(s): s}
		macs := map[string]string{impl.Mac("key", s): s}
		keyed := map[string]string{impl.Mac(s, "text"): s}
		for bit := range 8 * length {
			other := flipBit(s, bit)
			checkNew(t, "Sha", hashes, impl.Sha(other), other)
			checkNew(t, "Mac of key", macs, impl.Mac("key", other), other)
			checkNew(t, "Mac under it of text", keyed, impl.Mac(other, "text"), other)
		}
	}
}

func flipBit(s string, bit int) string {
	out := []byte(s)
	out[bit/8] ^= 1 << (bit % 8)
	return string(out)
}

func checkNew(t *testing.T, what string, seen map[string]string, hash string, s string) {
	t.Helper()
	if len(hash) != 32 {
		t.Errorf("%s for %.80q has %d bytes", what, s, len(hash))
	}
	if other, ok := seen[hash]; ok {
		t.Errorf("%s is the same for %.80q and %.80q", what, s, other)
	}
	seen[hash] = s
}

func TestMacKnownValues(t *testing.T) {
	counting := everyByte()[1:26]
	for _, c := range [][3]string{
		{"", "", "b613679a0814d9ec772f95d778c35fc5ff1697c493715653c6c712144292c5ad"},
		{"key", "", "5d5d139563c95b5967b9bd9a8c9b233a9dedb45072794cd232dc1b74832607d0"},
		{"key", "The quick brown fox jumps over the lazy dog", "f7bc83f430538424b13298e6aa6fb143ef4d59a14946175997479dbc2d1a3cd8"},
		{strings.Repeat("\x0b", 20), "Hi There", "b0344c61d8db38535ca8afceaf0bf12b881dc200c9833da726e9376c2e32cff7"},
		{"Jefe", "what do ya want for nothing?", "5bdcc146bf60754e6a042426089575c75a003f089d2739839dec58b964ec3843"},
		{strings.Repeat("\xaa", 20), strings.Repeat("\xdd", 50), "773ea91e36800e46854db8ebd09181a72959098b3ef8c122d9635514ced565fe"},
		{counting, strings.Repeat("\xcd", 50), "82558a389a443c0ea4cc819899f2083a85f0faa3e578f8077a2e3ff46729665b"},
		{strings.Repeat("k", 63), "x", "2c8e6c72fe7045b7a0a70b952f1c70abaa3951a6580a297f175296cb07b905c7"},
		{strings.Repeat("k", 64), "x", "f91c4c403625fb06910ef93999265bbd2d62baeaec6ff36455498cc124fe3e66"},
		{strings.Repeat("k", 65), "x", "75092ca3ee2b307470c227697b42b3e65376aa3bae98fb5a1f7b7536daa9588a"},
		{strings.Repeat("\xaa", 131), "Test Using Larger Than Block-Size Key - Hash Key First", "60e431591ee0b67f0d8a26aacbf5b77f8e0bc6213728c5140546040f0ee37f54"},
	} {
		if got := impl.HexText(impl.Mac(c[0], c[1])); got != c[2] {
			t.Errorf("Mac of key %.20q and %.20q = %s, want %s", c[0], c[1], got, c[2])
		}
	}
}

func TestMacOfEveryLength(t *testing.T) {
	for keyLength := range 140 {
		for _, key := range messagesOf(keyLength) {
			for _, length := range []int{0, 1, 54, 55, 56, 63, 64, 65, 119, 120, 128} {
				s := messagesOf(length)[0]
				if got := impl.Mac(key, s); got != standardMac(key, s) {
					t.Errorf("Mac of a key of %d bytes %.20q and %d bytes = %x", keyLength, key, length, got)
				}
			}
		}
	}
	for length := range 300 {
		for _, s := range messagesOf(length) {
			if got := impl.Mac("key", s); got != standardMac("key", s) {
				t.Errorf("Mac of key and %d bytes %.20q = %x", length, s, got)
			}
		}
	}
	for _, key := range oddTexts() {
		for _, s := range oddTexts() {
			if got := impl.Mac(key, s); got != standardMac(key, s) {
				t.Errorf("Mac(%q, %q) = %x", key, s, got)
			}
		}
	}
}

// Only a key of more than a block is hashed, and a shorter one is padded with zeros.
func TestMacOfPaddedAndHashedKeys(t *testing.T) {
	for length := range 130 {
		key := strings.Repeat("k", length)
		if got, hashed := impl.Mac(key, "x"), impl.Mac(impl.Sha(key), "x"); (got == hashed) != (length > 64) {
			t.Errorf("a key of %d bytes and its hash: %x and %x", length, got, hashed)
		}
		if got, padded := impl.Mac(key, "x"), impl.Mac(key+"\x00", "x"); (got == padded) != (length < 64) {
			t.Errorf("a key of %d bytes and one more zero: %x and %x", length, got, padded)
		}
	}
}

func TestStretchKnownValues(t *testing.T) {
	const (
		one       = "8685715f6d77d865828ec9b76cd32923e3a8b33a67da845133e204314f6bb10b"
		two       = "771842ed5d8fa9ea042ce84f5247dcf4407d4a233329b4728782a83d7b181635"
		three     = "7f6bb4a3a42afda38e5fe7f72b7ad192a34ce56d1886d802dc17e32f7d2b612a"
		fortyNine = "329baf02724df1264c497575ca35f69363f1d3bd507edf6a7f9612a6a17ecc0f"
		fifty     = "b6cb7b415ad137e4082b36dad9362d8144fea2c4c9b5507c4c74fd8152942f57"
	)
	for _, c := range []struct {
		times int
		hash  string
	}{
		{1, one}, {2, two}, {3, three}, {49, fortyNine}, {50, fifty},
		{0, one}, {-1, one}, {-5, one}, {-50, one}, {math.MinInt64, one}, {math.MinInt64 + 1, one},
		{51, fifty}, {52, fifty}, {99, fifty}, {1 << 32, fifty}, {1<<32 + 1, fifty}, {math.MaxInt64, fifty},
	} {
		if got := impl.HexText(impl.Stretch("secret", "salt", c.times)); got != c.hash {
			t.Errorf("Stretch %d times = %s, want %s", c.times, got, c.hash)
		}
	}
}

func TestStretchingOnceMore(t *testing.T) {
	texts := append(oddTexts(), strings.Repeat("k", 64), strings.Repeat("k", 65))
	for i, pass := range texts {
		salt := texts[len(texts)-1-i]
		want := ""
		seen := map[string]string{}
		for times := -1; times <= maxTimes+3; times++ {
			if times <= 1 {
				want = impl.Mac(pass, salt)
			} else if times <= maxTimes {
				want = impl.Mac(pass, want)
			}
			got := impl.Stretch(pass, salt, times)
			if got != want {
				t.Errorf("Stretch(%q, %q, %d) = %x, want %x", pass, salt, times, got, want)
			}
			if 1 <= times && times <= maxTimes {
				checkNew(t, "Stretch", seen, got, impl.DecText(times))
			}
		}
	}
}

func TestStretchDiffersForPasswordsAndSalts(t *testing.T) {
	seen := map[string]string{}
	for _, pass := range []string{"", "a", "b", "ab", "secret", "Secret", "secret ", "\xff"} {
		for _, salt := range []string{"", "a", "b", "ab", "salt", "\x00", "\x00\x00"} {
			for _, times := range []int{1, 4} {
				checkNew(t, "Stretch", seen, impl.Stretch(pass, salt, times), pass+"/"+salt+"/"+impl.DecText(times))
			}
		}
	}
}

func TestSameText(t *testing.T) {
	for _, c := range []struct {
		a, b string
		want bool
	}{
		{"", "", true}, {"a", "a", true}, {"\x00", "\x00", true}, {"\xff\xfe", "\xff\xfe", true},
		{"a", "b", false}, {"a", "A", false}, {"ab", "ba", false}, {"a", "\xe1", false}, {"\x7f", "\xff", false}, {"\x00", "\x80", false},
		{"", "a", false}, {"", "\x00", false}, {"a", "ab", false}, {"a", "a\x00", false}, {"b", "ab", false}, {"\x00", "\x00\x00", false},
		{"aa", "a", false}, {"\u00e4", "\xe4", false}, {"\xff", "\xfe", false}, {"\xff", "\ufffd", false},
	} {
		if got := impl.SameText(c.a, c.b); got != c.want {
			t.Errorf("SameText(%q, %q) = %v", c.a, c.b, got)
		}
		if got := impl.SameText(c.b, c.a); got != c.want {
			t.Errorf("SameText(%q, %q) = %v", c.b, c.a, got)
		}
	}
}

func TestSameTextOfAllPairs(t *testing.T) {
	texts := append(oddTexts(), stringsOver("\x00\x01a\x80\xff", 3)...)
	slices.Sort(texts)
	texts = slices.Compact(texts)
	for i, a := range texts {
		for j, b := range texts {
			if got := impl.SameText(a, b); got != (i == j) {
				t.Errorf("SameText(%q, %q) = %v", a, b, got)
			}
		}
	}
}

// A difference shows at every place, whatever the other bytes are, and a second
// one does not make up for it.
func TestSameTextSeesEveryByte(t *testing.T) {
	for _, length := range []int{1, 2, 31, 32, 33, 63, 64, 65, 127, 128, 129, 200} {
		for _, s := range messagesOf(length) {
			if !impl.SameText(s, strings.Clone(s)) {
				t.Errorf("SameText denies that %q is itself", s)
			}
			if impl.SameText(s, s[1:]) || impl.SameText(s[:length-1], s) || impl.SameText(s, s+s) {
				t.Errorf("SameText takes %q for a part of it", s)
			}
			for i := range length {
				other := flipBit(s, 8*i+i%8)
				if impl.SameText(s, other) || impl.SameText(other, s) {
					t.Errorf("SameText overlooks byte %d of %q", i, s)
				}
				for j := range i {
					if twice := flipBit(other, 8*j+i%8); impl.SameText(s, twice) {
						t.Errorf("SameText overlooks bytes %d and %d of %q", j, i, s)
					}
				}
			}
		}
	}
}

func TestNewName(t *testing.T) {
	for _, c := range []struct {
		seed string
		n    int
		name string
	}{
		{"seed", 0, "03c52f9668ff1b27"}, {"seed", 1, "615083988aa1b4fb"}, {"seed", 10, "fd83940d2eecf8bd"},
		{"seed", 1000000000, "fc8728836263c409"}, {"seed", -1, "2d91451250bea31c"}, {"seed", -120, "cca73a87dd283a1a"},
		{"seed", math.MaxInt64, "e9f88fa7c87b6ace"}, {"seed", math.MinInt64, "d906c3f1b14f2a0d"},
		{"", 0, "9979e4c3ee19965f"}, {"\xff", 0, "507a15a11eedb11c"},
	} {
		if got := impl.NewName(c.seed, c.n); got != c.name {
			t.Errorf("NewName(%q, %d) = %q, want %q", c.seed, c.n, got, c.name)
		}
	}
}

func TestNewNamesDiffer(t *testing.T) {
	seen := map[string]string{}
	for _, seed := range append(oddTexts(), "seed", "Seed", strings.Repeat("s", 65)) {
		for n := -500; n < 500; n++ {
			name := impl.NewName(seed, n)
			text, ok := impl.ReadHex(name)
			if !ok || len(text) != 8 || text != standardMac(seed, impl.DecText(n))[:8] {
				t.Errorf("NewName(%q, %d) = %q", seed, n, name)
			}
			// The seeds of nothing and of a zero byte are the same key.
			if other, found := seen[name]; found && seed != "\x00" {
				t.Errorf("NewName(%q, %d) = %q, as for %q", seed, n, name, other)
			}
			seen[name] = seed
		}
	}
}

// Promise 21 for chapter 3: no call shows in another one, and strings of any length return.
func TestHashesKeepNothing(t *testing.T) {
	sha, mac, stretch, name := impl.Sha("a"), impl.Mac("k", "a"), impl.Stretch("k", "a", 3), impl.NewName("k", 1)
	for _, s := range append(oddTexts(), strings.Repeat("z", 200)) {
		impl.Sha(s)
		impl.Mac(s, s)
		impl.Stretch(s, s, 2)
		impl.NewName(s, 2)
		impl.SameText(s, "a")
		if impl.Sha("a") != sha || impl.Mac("k", "a") != mac || impl.Stretch("k", "a", 3) != stretch || impl.NewName("k", 1) != name {
			t.Errorf("the hashes change after those of %q", s)
		}
	}
}

func TestHashesOfLongTextsReturn(t *testing.T) {
	const size = 300000
	for _, unit := range []string{"a", "\x00", "\x80", "\xff", "ab", "\xe2\x80"} {
		s := strings.Repeat(unit, size)
		if impl.Sha(s) != standardSha(s) {
			t.Errorf("Sha of %d times %q", size, unit)
		}
		if impl.Mac(s, s) != standardMac(s, s) || impl.Stretch(s, s, math.MaxInt64) == "" || impl.NewName(s, math.MinInt64) == "" {
			t.Errorf("Mac, Stretch or NewName of %d times %q", size, unit)
		}
		if !impl.SameText(s, strings.Clone(s)) || impl.SameText(s, s+"a") || impl.SameText(s[1:]+"?", s) {
			t.Errorf("SameText of %d times %q", size, unit)
		}
	}
}

// messagesOf returns messages of the given length: of equal bytes, of bytes
// above 127 and of all kinds of bytes.
func messagesOf(length int) []string {
	mixed := make([]byte, length)
	for i := range mixed {
		mixed[i] = byte(167*i + i*i/7 + length)
	}
	return []string{strings.Repeat("m", length), strings.Repeat("\xf0", length), string(mixed)}
}

func standardSha(s string) string {
	sum := sha256.Sum256([]byte(s))
	return string(sum[:])
}

func standardMac(key string, s string) string {
	mac := hmac.New(sha256.New, []byte(key))
	mac.Write([]byte(s))
	return string(mac.Sum(nil))
}
