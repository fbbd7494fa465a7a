package tests

import (
	"math"
	"regexp"
	"slices"
	"strconv"
	"strings"
	"testing"

	"loop.example/g00716/impl"
)

const (
	keyBytes      = "abcdefghijklmnopqrstuvwxyz0123456789_"
	maxFields     = 20
	maxFieldKey   = 30
	maxFieldText  = 300
	maxFieldNum   = 999999999999
	notationStart = `{"a":"`
	notationEnd   = `"}`
)

func textField(key string, text string) impl.Field { return impl.Field{Key: key, Text: text} }

func numField(key string, n int) impl.Field { return impl.Field{Key: key, Num: n, IsNum: true} }

// manyFields returns n valid fields of both kinds with distinct keys.
func manyFields(n int) []impl.Field {
	var list []impl.Field
	for i := range n {
		key := "k_" + strconv.Itoa(i)
		if i%3 == 0 {
			list = append(list, numField(key, i*i))
		} else {
			list = append(list, textField(key, strings.Repeat("\\", i)))
		}
	}
	return list
}

// fieldsOfLength returns a valid list whose notation has the given number of
// bytes, which is between 7400 and 8500.
func fieldsOfLength(t *testing.T, length int) []impl.Field {
	t.Helper()
	var list []impl.Field
	for i := range 12 {
		list = append(list, textField("long_"+strconv.Itoa(i), strings.Repeat(`"`, maxFieldText)))
	}
	for i := range 4 {
		list = append(list, textField("rest_"+strconv.Itoa(i), ""))
	}
	room := length - len(impl.PutFields(list))
	for i := range 4 {
		list[12+i].Text = strings.Repeat("x", (room+i)/4)
	}
	if got := len(impl.PutFields(list)); got != length {
		t.Fatalf("the notation has %d bytes instead of %d", got, length)
	}
	return list
}

func rightFields() []impl.Field {
	return []impl.Field{
		textField("a", ""), textField("z", "x"), textField("0", "0"), textField("9", "-1"), textField("_", "_"),
		textField(strings.Repeat("k", maxFieldKey), "x"), textField(keyBytes[:30], "x"), textField(keyBytes[10:], "x"),
		textField("a", " "), textField("a", "~"), textField("a", `"`), textField("a", `\`), textField("a", `\"`),
		textField("a", `"\`), textField("a", `\\""`), textField("a", `{"a":1}`), textField("a", "a,b:c"), textField("a", `\n`),
		textField("a", strings.Repeat("x", maxFieldText)), textField("a", strings.Repeat(`"`, maxFieldText)),
		textField("a", strings.Repeat(`\`, maxFieldText)), textField("a", " x "), textField("a", `","b":"`),
		numField("a", 0), numField("a", 1), numField("a", 9), numField("a", 10), numField("a", 99999999999),
		numField("a", 100000000000), numField("a", maxFieldNum-1), numField("a", maxFieldNum),
	}
}

func wrongFields() []impl.Field {
	list := []impl.Field{
		{}, textField("", "x"), numField("", 1), textField(strings.Repeat("k", maxFieldKey+1), "x"), numField(strings.Repeat("k", maxFieldKey+1), 1),
		textField("a", "\x1f"), textField("a", "\x7f"), textField("a", "\x00"), textField("a", "\n"), textField("a", "\t"), textField("a", "\x80"),
		textField("a", "\xff"), textField("a", "\u00e4"), textField("a", "xx\x1f"), textField("a", "\x7fxx"), textField("a", "x\x1fx"),
		textField("a", strings.Repeat("x", maxFieldText+1)), textField("a", strings.Repeat(`"`, maxFieldText+1)),
		numField("a", -1), numField("a", maxFieldNum+1), numField("a", math.MinInt), numField("a", math.MaxInt), numField("a", 1<<32*1000),
		{Key: "a", Text: "x", Num: 1, IsNum: true}, {Key: "a", Text: "x", IsNum: true}, {Key: "a", Text: "1", Num: 1, IsNum: true},
		{Key: "a", Text: " ", IsNum: true}, {Key: "a", Text: "x", Num: 1}, {Key: "a", Num: 1}, {Key: "a", Num: -1}, {Key: "a", Num: math.MinInt},
	}
	for i := range 256 {
		c := string([]byte{byte(i)})
		if !strings.Contains(keyBytes, c) {
			list = append(list, textField(c, "x"), numField("a"+c, 1), textField(c+"a", ""), numField("a"+c+"b", 1))
		}
	}
	return list
}

func TestFieldsOkOfOneField(t *testing.T) {
	for _, field := range rightFields() {
		if !impl.FieldsOk([]impl.Field{field}) {
			t.Errorf("FieldsOk rejects %+v", field)
		}
	}
	for _, field := range wrongFields() {
		if impl.FieldsOk([]impl.Field{field}) {
			t.Errorf("FieldsOk accepts %+v", field)
		}
		// The field is no more valid at the end of a list or at its start.
		other := textField("other", "x")
		if impl.FieldsOk([]impl.Field{other, field}) || impl.FieldsOk([]impl.Field{field, other}) {
			t.Errorf("FieldsOk accepts %+v beside another field", field)
		}
	}
}

func TestFieldsOkOfEveryByte(t *testing.T) {
	for i := range 256 {
		c := string([]byte{byte(i)})
		if got := impl.FieldsOk([]impl.Field{textField("a", "x"+c+"y")}); got != (i >= 32 && i <= 126) {
			t.Errorf("FieldsOk of byte %d in a Text = %v", i, got)
		}
		if got := impl.FieldsOk([]impl.Field{numField("x"+c+"y", 1)}); got != strings.Contains(keyBytes, c) {
			t.Errorf("FieldsOk of byte %d in a Key = %v", i, got)
		}
	}
}

func TestFieldsOkOfEachNumberOfFields(t *testing.T) {
	for n := range 30 {
		if got := impl.FieldsOk(manyFields(n)); got != (n <= maxFields) {
			t.Errorf("FieldsOk of %d fields = %v", n, got)
		}
	}
	if !impl.FieldsOk(nil) || !impl.FieldsOk([]impl.Field{}) {
		t.Error("FieldsOk rejects the empty list")
	}
}

func TestFieldsOkRejectsEveryKeyTwice(t *testing.T) {
	for n := 2; n <= maxFields; n++ {
		for i := range n {
			for j := range i {
				list := manyFields(n)
				list[i].Key = list[j].Key
				if impl.FieldsOk(list) || impl.PutFields(list) != "" {
					t.Fatalf("of %d fields, number %d has the Key of number %d, and the list is valid", n, i, j)
				}
			}
		}
	}
	for _, list := range [][]impl.Field{
		{textField("a", "x"), textField("a", "x")}, {textField("a", "x"), textField("a", "y")}, {textField("a", "1"), numField("a", 1)},
		{numField("a", 1), numField("b", 1), numField("a", 2)}, {textField("", "x"), textField("", "x")},
	} {
		if impl.FieldsOk(list) || impl.PutFields(list) != "" {
			t.Errorf("%+v is valid", list)
		}
	}
}

func TestPutFields(t *testing.T) {
	for _, c := range []struct {
		want string
		list []impl.Field
	}{
		{`{}`, nil},
		{`{}`, []impl.Field{}},
		{`{"a":""}`, []impl.Field{textField("a", "")}},
		{`{"a":"x y"}`, []impl.Field{textField("a", "x y")}},
		{`{"a":0}`, []impl.Field{numField("a", 0)}},
		{`{"a":"0"}`, []impl.Field{textField("a", "0")}},
		{`{"a":999999999999}`, []impl.Field{numField("a", maxFieldNum)}},
		{`{"a":"\""}`, []impl.Field{textField("a", `"`)}},
		{`{"a":"\\"}`, []impl.Field{textField("a", `\`)}},
		{`{"a":"\\\""}`, []impl.Field{textField("a", `\"`)}},
		{`{"a":"\"\\"}`, []impl.Field{textField("a", `"\`)}},
		{`{"a":"\\\\"}`, []impl.Field{textField("a", `\\`)}},
		{`{"a":"\\n/\\u0041"}`, []impl.Field{textField("a", `\n/\u0041`)}},
		{`{"a":"<&>'"}`, []impl.Field{textField("a", `<&>'`)}},
		{`{"b":1,"a":"2","_":3}`, []impl.Field{numField("b", 1), textField("a", "2"), numField("_", 3)}},
		{`{"a":"},{","0":"\",\""}`, []impl.Field{textField("a", "},{"), textField("0", `","`)}},
	} {
		if got := impl.PutFields(c.list); got != c.want {
			t.Errorf("PutFields(%+v) = %s, want %s", c.list, got, c.want)
		}
	}
}

func TestPutFieldsRejectsInvalidLists(t *testing.T) {
	for _, field := range wrongFields() {
		if got := impl.PutFields([]impl.Field{field}); got != "" {
			t.Errorf("PutFields of %+v = %q", field, got)
		}
		if got := impl.PutFields([]impl.Field{numField("n", 1), field}); got != "" {
			t.Errorf("PutFields of a list with %+v = %q", field, got)
		}
	}
	if got := impl.PutFields(manyFields(maxFields + 1)); got != "" {
		t.Errorf("PutFields of too many fields = %q", got)
	}
}

func checkRecovered(t *testing.T, list []impl.Field) {
	t.Helper()
	s := impl.PutFields(list)
	if got, ok := impl.GetFields(s); !ok || !slices.Equal(got, list) {
		t.Errorf("GetFields(%q) = %+v, %v, want %+v", s, got, ok, list)
	}
}

func TestGetFieldsRecoversLists(t *testing.T) {
	checkRecovered(t, nil)
	for _, field := range rightFields() {
		checkRecovered(t, []impl.Field{field})
		checkRecovered(t, []impl.Field{numField("n", 7), field})
		checkRecovered(t, []impl.Field{field, textField("t", `"`)})
	}
	for n := range maxFields + 1 {
		checkRecovered(t, manyFields(n))
	}
	for _, text := range stringsOver(`"\,:}n`, 5) {
		checkRecovered(t, []impl.Field{textField("a", text), textField("b", text)})
	}
	for i := 32; i <= 126; i++ {
		checkRecovered(t, []impl.Field{textField("a", string(rune(i)))})
	}
	for n := 1; n <= maxFieldNum; n = n*7 + 1 {
		checkRecovered(t, []impl.Field{numField("a", n), numField("b", maxFieldNum-n)})
	}
	for i := range len(keyBytes) {
		checkRecovered(t, []impl.Field{numField(keyBytes[i:i+1], i)})
	}
}

func TestGetFieldsIsLimitedByMaxText(t *testing.T) {
	for length := impl.MaxText - 40; length <= impl.MaxText; length++ {
		checkRecovered(t, fieldsOfLength(t, length))
	}
	for _, length := range []int{impl.MaxText + 1, impl.MaxText + 2, impl.MaxText + 400} {
		list := fieldsOfLength(t, length)
		if got, ok := impl.GetFields(impl.PutFields(list)); ok || len(got) != 0 || !impl.FieldsOk(list) {
			t.Errorf("GetFields of %d bytes = %+v, %v", length, got, ok)
		}
	}
}

func TestGetFieldsRejectsLimitsExceeded(t *testing.T) {
	for _, c := range []struct {
		before, unit, after string
		most                int
	}{
		{`{"`, "k", `":1}`, maxFieldKey},
		{notationStart, "x", notationEnd, maxFieldText},
		{notationStart, `\"`, notationEnd, maxFieldText},
		{notationStart, `\\`, notationEnd, maxFieldText},
		{`{"a":`, "9", `}`, 12},
	} {
		if got, ok := impl.GetFields(c.before + strings.Repeat(c.unit, c.most) + c.after); !ok || len(got) != 1 {
			t.Errorf("GetFields with %d times %q = %+v, %v", c.most, c.unit, got, ok)
		}
		if got, ok := impl.GetFields(c.before + strings.Repeat(c.unit, c.most+1) + c.after); ok || len(got) != 0 {
			t.Errorf("GetFields with %d times %q = %+v, %v", c.most+1, c.unit, got, ok)
		}
	}
	whole := impl.PutFields(manyFields(maxFields))
	if got, ok := impl.GetFields(whole[:len(whole)-1] + `,"more":1}`); ok || len(got) != 0 {
		t.Errorf("GetFields of %d fields = %+v, %v", maxFields+1, got, ok)
	}
}

func TestGetFieldsRejectsOtherTexts(t *testing.T) {
	for _, s := range []string{
		"", "{", "}", "{{}", "{}}", "{}{}", "{},", "{} ", " {}", "{ }", "{}\n", "\ufeff{}", "[]", "null", "1", `"a"`, `"a":1`, `{"a":1`, `"a":1}`,
		"{,}", `{,"a":1}`, `{"a":1,}`, `{"a":1,,"b":2}`, `{"a":1;"b":2}`, `{"a":1"b":2}`, `{"a":"x""b":2}`, `{"a":1 ,"b":2}`, `{"a":1, "b":2}`,
		`{"a" :1}`, `{"a": 1}`, `{ "a":1}`, `{"a":1 }`, `{"a":1}x`, `{"a":1}{`, `{"a":1}}`, `{"a":"x"}}`, `{"a":"x"x}`, `{"a":1}` + "\x00",
		`{"a"}`, `{"a":}`, `{"a":,"b":1}`, `{:1}`, `{a:1}`, `{'a':1}`, `{"a"=1}`, `{"a"::1}`, `{"a":'x'}`, `{"a":x}`, `{"a":"x}`, `{"a":x"}`, `{"a:1}`,
		`{"":1}`, `{"A":1}`, `{"a b":1}`, `{"a-b":1}`, `{"a.b":1}`, `{"\"":1}`, `{"\\":1}`, `{"a\"":1}`, "{\"\u00e4\":1}",
		`{"a":00}`, `{"a":01}`, `{"a":0000000000001}`, `{"a":-1}`, `{"a":-0}`, `{"a":+1}`, `{"a":1.0}`, `{"a":1e3}`, `{"a":0x1}`, `{"a":1_0}`, `{"a":1000000000000}`,
		`{"a":9999999999999}`, `{"a":18446744073709551617}`, "{\"a\":\uff11}", `{"a":true}`, `{"a":null}`, `{"a":{}}`, `{"a":[]}`, `{"a":{"b":1}}`,
		`{"a":"\n"}`, `{"a":"\/"}`, `{"a":"\u0041"}`, `{"a":"\x"}`, `{"a":"\ "}`, `{"a":"\'"}`, `{"a":"\`, `{"a":"\}`, `{"a":"\"}`, `{"a":"\\\"}`, `{"a":"x\"}`,
		`{"a":"}`, `{"a":""`, `{"a":"""}`, `{"a":"x"y"}`, "{\"a\":\"\n\"}", "{\"a\":\"\x1f\"}", "{\"a\":\"\x7f\"}", "{\"a\":\"\xff\"}", "{\"a\":\"\\\x00\"}",
		`{"a":1,"a":1}`, `{"a":1,"a":"1"}`, `{"a":"x","b":2,"a":"x"}`, `{"a":1,"a":2}`, `{"a":1,"b"}`, `{"a":1,"b":}`, `{"a":1,"b":2,}`, `{"a":1,{"b":2}}`,
	} {
		if got, ok := impl.GetFields(s); ok || len(got) != 0 {
			t.Errorf("GetFields(%q) = %+v, %v, want none", s, got, ok)
		}
	}
	for _, field := range wrongFields() {
		s := `{"` + field.Key + `":"` + field.Text + `"}`
		if got, ok := impl.GetFields(s); ok && impl.PutFields(got) != s || !ok && len(got) != 0 {
			t.Errorf("GetFields(%q) = %+v, %v", s, got, ok)
		}
	}
}

func TestGetFieldsOfTextsThatEndTooEarly(t *testing.T) {
	s := `{"sub":"a\"b\\c","exp":50,"n_1":"","z":"\\"}`
	for i := range len(s) {
		if got, ok := impl.GetFields(s[:i]); ok || len(got) != 0 {
			t.Errorf("GetFields(%q) = %+v, %v", s[:i], got, ok)
		}
		if got, ok := impl.GetFields(s[i+1:]); ok || len(got) != 0 {
			t.Errorf("GetFields(%q) = %+v, %v", s[i+1:], got, ok)
		}
	}
}

// notationForm accepts the notations of lists within the limits, but for a Key
// that is there twice.
func notationForm() *regexp.Regexp {
	const field = `"[a-z0-9_]{1,30}":(0|[1-9][0-9]{0,11}|"([ !#-\[\]-~]|\\["\\])*")`
	return regexp.MustCompile(`\A\{(` + field + `(,` + field + `)*)?\}\z`)
}

func checkAgainstForm(t *testing.T, form *regexp.Regexp, s string) {
	t.Helper()
	got, ok := impl.GetFields(s)
	if ok != form.MatchString(s) {
		t.Errorf("GetFields(%q) = %+v, %v", s, got, ok)
	}
	if ok && impl.PutFields(got) != s || !ok && len(got) != 0 {
		t.Errorf("GetFields(%q) = %+v, whose notation is %q", s, got, impl.PutFields(got))
	}
}

func TestGetFieldsOfAllShortTexts(t *testing.T) {
	form := notationForm()
	for _, s := range stringsOver(`{}":,\a1 `, 5) {
		checkAgainstForm(t, form, s)
		checkAgainstForm(t, form, `{"b":`+s+`}`)
		checkAgainstForm(t, form, `{"b":"`+s+`"}`)
		checkAgainstForm(t, form, `{"b":0`+s+`:0}`)
	}
}

func TestGetFieldsOfChangedTexts(t *testing.T) {
	form := notationForm()
	// No single change makes two of these keys equal.
	s := `{"sub":"a\"b\\c","e":50,"n_1":"","z_22":0}`
	for i := range len(s) + 1 {
		for c := range 256 {
			extra := string([]byte{byte(c)})
			checkAgainstForm(t, form, s[:i]+extra+s[i:])
			if i < len(s) {
				checkAgainstForm(t, form, s[:i]+extra+s[i+1:])
			}
		}
		for j := i; j < len(s); j++ {
			checkAgainstForm(t, form, s[:i]+s[j+1:])
		}
	}
}

func TestTextOfAndNumOf(t *testing.T) {
	valid := []impl.Field{textField("sub", `a"b`), numField("exp", 50), textField("none", ""), numField("zero", 0), textField("five", "5")}
	// These lists are not valid, and their first fields count nevertheless.
	twice := []impl.Field{textField("a", "x"), numField("a", 1), numField("b", 2), textField("b", "y"), numField("c", 3), numField("c", 4)}
	odd := []impl.Field{textField("", "\n"), textField("\xff", "e"), numField("A", -5), {Key: "n", Text: "t", Num: 1, IsNum: true}, {Key: "t", Text: "x", Num: 7}}
	for _, c := range []struct {
		list []impl.Field
		key  string
		text string
		ok   bool
		n    int
	}{
		{valid, "sub", `a"b`, true, -1}, {valid, "exp", "", false, 50}, {valid, "none", "", true, -1}, {valid, "zero", "", false, 0},
		{valid, "five", "5", true, -1}, {valid, "", "", false, -1}, {valid, "su", "", false, -1}, {valid, "sub ", "", false, -1},
		{valid, "SUB", "", false, -1}, {valid, "50", "", false, -1}, {nil, "sub", "", false, -1}, {nil, "", "", false, -1},
		{twice, "a", "x", true, -1}, {twice, "b", "", false, 2}, {twice, "c", "", false, 3},
		{odd, "", "\n", true, -1}, {odd, "\xff", "e", true, -1}, {odd, "A", "", false, -5}, {odd, "a", "", false, -1},
		{odd, "n", "t", false, 1}, {odd, "t", "x", true, -1}, {odd, "\xff\xff", "", false, -1},
	} {
		if text, ok := impl.TextOf(c.list, c.key); text != c.text || ok != c.ok {
			t.Errorf("TextOf(%+v, %q) = %q, %v, want %q, %v", c.list, c.key, text, ok, c.text, c.ok)
		}
		if n := impl.NumOf(c.list, c.key); n != c.n {
			t.Errorf("NumOf(%+v, %q) = %d, want %d", c.list, c.key, n, c.n)
		}
	}
}

func TestTextOfAndNumOfEveryField(t *testing.T) {
	list := manyFields(maxFields)
	for _, field := range list {
		text, ok := impl.TextOf(list, field.Key)
		n := impl.NumOf(list, field.Key)
		if field.IsNum && (text != "" || ok || n != field.Num) || !field.IsNum && (text != field.Text || !ok || n != -1) {
			t.Errorf("%+v is read as %q, %v, %d", field, text, ok, n)
		}
	}
}

func TestWithText(t *testing.T) {
	list := []impl.Field{textField("a", "x"), numField("b", 2), textField("c", "")}
	for _, c := range []struct {
		key, text string
		want      []impl.Field
	}{
		{"a", "new", []impl.Field{textField("a", "new"), numField("b", 2), textField("c", "")}},
		{"a", "x", list},
		{"a", "", []impl.Field{textField("a", ""), numField("b", 2), textField("c", "")}},
		{"b", "2", []impl.Field{textField("a", "x"), textField("b", "2"), textField("c", "")}},
		{"c", `"\`, []impl.Field{textField("a", "x"), numField("b", 2), textField("c", `"\`)}},
		{"d", "y", []impl.Field{textField("a", "x"), numField("b", 2), textField("c", ""), textField("d", "y")}},
		{"_", "", []impl.Field{textField("a", "x"), numField("b", 2), textField("c", ""), textField("_", "")}},
	} {
		if got := impl.WithText(list, c.key, c.text); !slices.Equal(got, c.want) {
			t.Errorf("WithText(%q, %q) = %+v, want %+v", c.key, c.text, got, c.want)
		}
	}
	if got := impl.WithText(nil, "a", "x"); !slices.Equal(got, []impl.Field{textField("a", "x")}) {
		t.Errorf("WithText of the empty list = %+v", got)
	}
}

func TestWithTextIsPresent(t *testing.T) {
	for n := range maxFields + 1 {
		list := manyFields(n)
		for _, field := range append(manyFields(n), textField("new", "")) {
			for _, text := range []string{"", "x", `"\`, strings.Repeat("~", maxFieldText)} {
				_, there := impl.TextOf(list, field.Key)
				there = there || impl.NumOf(list, field.Key) >= 0
				got := impl.WithText(list, field.Key, text)
				if !there && n == maxFields {
					if !slices.Equal(got, list) {
						t.Errorf("a field was added to %d: %+v", n, got)
					}
					continue
				}
				if s, ok := impl.TextOf(got, field.Key); !ok || s != text || !impl.FieldsOk(got) {
					t.Errorf("WithText of %d fields lacks %q: %+v", n, field.Key, got)
				}
				checkOthersKept(t, list, got, field.Key)
				checkRecovered(t, got)
			}
		}
	}
}

// checkOthersKept compares the fields of other keys, their order included.
func checkOthersKept(t *testing.T, before []impl.Field, after []impl.Field, key string) {
	t.Helper()
	hasKey := func(f impl.Field) bool { return f.Key == key }
	place := slices.IndexFunc(before, hasKey)
	if place < 0 {
		place = len(before)
	}
	if slices.IndexFunc(after, hasKey) != place {
		t.Errorf("%q is not at %d in %+v", key, place, after)
	}
	if !slices.Equal(slices.DeleteFunc(slices.Clone(before), hasKey), slices.DeleteFunc(slices.Clone(after), hasKey)) {
		t.Errorf("%+v became %+v with %q", before, after, key)
	}
}

func TestWithTextLeavesOtherListsUnchanged(t *testing.T) {
	full := manyFields(maxFields)
	for _, c := range []struct {
		list      []impl.Field
		key, text string
	}{
		{manyFields(3), "", "x"}, {manyFields(3), "New", "x"}, {manyFields(3), "a b", "x"}, {manyFields(3), strings.Repeat("k", maxFieldKey+1), "x"},
		{manyFields(3), "new", "\n"}, {manyFields(3), "new", "\x7f"}, {manyFields(3), "new", "\x80"}, {manyFields(3), "new", strings.Repeat("x", maxFieldText+1)},
		{manyFields(3), "k_0", "\x1f"}, {manyFields(3), "k_1", "\x00"}, {manyFields(3), "k_2", strings.Repeat(`"`, maxFieldText+1)},
		{nil, "", ""}, {nil, "A", "x"}, {full, "new", "x"}, {full, "k_0", "\n"}, {manyFields(maxFields + 1), "k_0", "x"},
		// The replacement would make these lists valid.
		{[]impl.Field{textField("a", "\n")}, "a", "x"}, {[]impl.Field{numField("a", -1)}, "a", "x"}, {[]impl.Field{{Key: "a", Text: "x", IsNum: true}}, "a", "x"},
		{[]impl.Field{textField("b", "\n")}, "a", "x"}, {[]impl.Field{textField("a", "x"), numField("a", 1)}, "a", "y"},
		{[]impl.Field{textField("a", "x"), numField("a", 1)}, "b", "y"}, {[]impl.Field{{}}, "", "x"}, {[]impl.Field{{}}, "a", "x"},
	} {
		before := slices.Clone(c.list)
		if got := impl.WithText(c.list, c.key, c.text); !slices.Equal(got, before) {
			t.Errorf("WithText(%+v, %q, %q) = %+v", before, c.key, c.text, got)
		}
	}
	replaced := impl.WithText(full, "k_19", "x")
	if len(replaced) != maxFields || replaced[19] != textField("k_19", "x") {
		t.Errorf("WithText of a full list = %+v", replaced)
	}
}

// Promise 21 for chapter 4: arguments stay as they are, spare capacity included, results are separate memory, and arguments beyond every limit return.
func TestFieldArgumentsStay(t *testing.T) {
	whole := []impl.Field{textField("a", `"`), numField("b", 2), textField("spare", "room"), numField("spare_2", 3)}
	before := slices.Clone(whole)
	list := whole[:2]
	impl.FieldsOk(list)
	impl.PutFields(list)
	impl.TextOf(list, "a")
	impl.NumOf(list, "spare_2")
	for _, key := range []string{"a", "b", "c", "spare", "", "A"} {
		for _, text := range []string{"", "x", "\n"} {
			got := impl.WithText(list, key, text)
			for i := range got {
				got[i] = textField("mine", "mine")
			}
			_ = append(got, textField("mine", "mine"))
			if !slices.Equal(whole, before) {
				t.Fatalf("WithText(%q, %q) or its result changed the list to %+v", key, text, whole)
			}
		}
	}
}

func TestFieldsAreNewMemory(t *testing.T) {
	want := []impl.Field{textField("a", "x"), numField("b", 2)}
	first, _ := impl.GetFields(`{"a":"x","b":2}`)
	second, _ := impl.GetFields(`{"a":"x","b":2}`)
	_ = append(first[:1], textField("y", "y"))
	first[0] = textField("z", "z")
	third, _ := impl.GetFields(`{"a":"x","b":2}`)
	if !slices.Equal(second, want) || !slices.Equal(third, want) {
		t.Errorf("a changed list shows in another one: %+v, %+v", second, third)
	}
}

func TestLongFieldsReturn(t *testing.T) {
	const size = 100000
	for _, unit := range []string{"a", "1", `"`, `\`, `\"`, "{", "}", ":", ",", `"a":1,`, `{"a":`, "\x00", "\xff", "\xe2\x80"} {
		s := strings.Repeat(unit, size)
		for _, text := range []string{s, "{" + s + "}", `{"a":` + s + "}", notationStart + s + notationEnd, s[:impl.MaxText], "{" + s[:impl.MaxText-2] + "}"} {
			if got, ok := impl.GetFields(text); ok || len(got) != 0 {
				t.Errorf("GetFields of many times %q = %+v, %v", unit, got, ok)
			}
		}
		for _, list := range [][]impl.Field{{textField(s, "x")}, {textField("a", s)}, {numField(s, 1)}} {
			if impl.FieldsOk(list) || impl.PutFields(list) != "" || !slices.Equal(impl.WithText(list, "b", "x"), list) {
				t.Errorf("a field of %d times %q is valid", size, unit)
			}
		}
		if text, ok := impl.TextOf([]impl.Field{textField(s, s)}, s); !ok || text != s {
			t.Errorf("TextOf of %d times %q", size, unit)
		}
		if got := impl.WithText(manyFields(2), s, s); !slices.Equal(got, manyFields(2)) {
			t.Errorf("WithText of %d times %q = %+v", size, unit, got)
		}
	}
	many := manyFields(100)
	for len(many) < size {
		many = append(many, many...)
	}
	if impl.FieldsOk(many) || impl.PutFields(many) != "" || impl.NumOf(many, "none") != -1 || !slices.Equal(impl.WithText(many, "b", "x"), many) {
		t.Errorf("%d fields are valid", len(many))
	}
}
