package tests

import (
	"fmt"
	"math"
	"regexp"
	"slices"
	"strings"
	"testing"

	"loop.example/g00716/impl"
)

const (
	crlf         = "\r\n"
	firstLine    = "GET / HTTP/1.1\r\n"
	answerLine   = "HTTP/1.1 200\r\n"
	pathBytes    = "ABCDEFGHIJKLMNOPQRSTUVWXYZabcdefghijklmnopqrstuvwxyz0123456789-_./"
	headKeyBytes = "ABCDEFGHIJKLMNOPQRSTUVWXYZabcdefghijklmnopqrstuvwxyz-"
	maxPathRest  = 60
	maxQuery     = 30
	maxHeads     = 20
	maxHeadKey   = 30
	maxHeadValue = 900
)

func getOf(path string) impl.Request { return impl.Request{Method: "GET", Path: path} }

func withQuery(list ...impl.Pair) impl.Request {
	return impl.Request{Method: "GET", Path: "/", Query: list}
}

func withHeads(list []impl.Pair) impl.Request {
	return impl.Request{Method: "GET", Path: "/", Heads: list}
}

func withBody(body string) impl.Request {
	return impl.Request{Method: "POST", Path: "/", Body: body}
}

func answerOf(code int, heads []impl.Pair, body string) impl.Response {
	return impl.Response{Code: code, Heads: heads, Body: body}
}

func sameRequest(a impl.Request, b impl.Request) bool {
	return a.Method == b.Method && a.Path == b.Path && slices.Equal(a.Query, b.Query) && slices.Equal(a.Heads, b.Heads) && a.Body == b.Body
}

func sameAnswer(a impl.Response, b impl.Response) bool {
	return a.Code == b.Code && slices.Equal(a.Heads, b.Heads) && a.Body == b.Body
}

// samePairs returns n pairs with the given key and value.
func samePairs(n int, key string, value string) []impl.Pair {
	return slices.Repeat(pairsOf(key, value), n)
}

func manyHeads(n int) []impl.Pair {
	var list []impl.Pair
	for i := range n {
		list = append(list, impl.Pair{Key: "X-" + string(rune('A'+i%7)), Value: strings.Repeat("v", i%5)})
	}
	return list
}

func rightHeads() [][]impl.Pair {
	list := [][]impl.Pair{
		nil, {}, pairsOf("Host", "one.example"), pairsOf("host", "", "HOST", ""), pairsOf("A", "1", "A", "1", "a", "2"),
		pairsOf("-", "-"), pairsOf("a-", "x"), pairsOf("--", "x"), pairsOf(strings.Repeat("k", maxHeadKey), "x"),
		pairsOf(headKeyBytes[:30], "x"), pairsOf(headKeyBytes[23:], "x"), pairsOf("A", "a b"), pairsOf("A", "a  b   c"),
		pairsOf("A", "!"), pairsOf("A", "~"), pairsOf("A", ":"), pairsOf("A", ": b: c:"), pairsOf("A", `"x"; y=z, w`), pairsOf("A", `\r\n`),
		pairsOf("A", strings.Repeat("x", maxHeadValue)), pairsOf("A", "x"+strings.Repeat(" ", maxHeadValue-2)+"x"),
		pairsOf("Content-Lengt", "1"), pairsOf("Content-Lengths", "1"), pairsOf("-Content-Length", "1"), pairsOf("Content-Length-", "1"),
		pairsOf("ContentLength", "1"), pairsOf("Content--Length", "1"), pairsOf("Content-Type", "text"), pairsOf("A", "Content-Length: 1"),
		manyHeads(maxHeads), samePairs(maxHeads, "A", ""), samePairs(maxHeads, strings.Repeat("k", maxHeadKey), strings.Repeat("x", 300)),
	}
	for c := 33; c <= 126; c++ {
		list = append(list, pairsOf("A", string(rune(c))), pairsOf("A", string(rune(c))+" "+string(rune(c))))
	}
	return list
}

func wrongHeads() [][]impl.Pair {
	list := [][]impl.Pair{
		pairsOf("", ""), pairsOf("", "x"), pairsOf(strings.Repeat("k", maxHeadKey+1), "x"), pairsOf("A ", "x"), pairsOf(" A", "x"), pairsOf("A:", "x"),
		pairsOf("A:b", "x"), pairsOf(":", ""), pairsOf("A\r\nB", "x"), pairsOf("A1", "x"), pairsOf("A_b", "x"), pairsOf("A.b", "x"), pairsOf("\u00e4", "x"),
		pairsOf("content-length", ""), pairsOf("content-length", "0"), pairsOf("Content-Length", "0"), pairsOf("CONTENT-LENGTH", "x"),
		pairsOf("cOnTeNt-LeNgTh", "0"), pairsOf("content-lengtH", "0"), pairsOf("A", "x", "Content-length", "1"),
		pairsOf("A", " "), pairsOf("A", "  "), pairsOf("A", " x"), pairsOf("A", "x "), pairsOf("A", " x "), pairsOf("A", "\t"), pairsOf("A", "\tx"),
		pairsOf("A", "x\ty"), pairsOf("A", "x\r\nB: y"), pairsOf("A", "\r\n"), pairsOf("A", "x\n"), pairsOf("A", "\rx"), pairsOf("A", "\u00e4"),
		pairsOf("A", strings.Repeat("x", maxHeadValue+1)), pairsOf("A", "x"+strings.Repeat(" ", maxHeadValue-1)+"x"),
		pairsOf("A", strings.Repeat("x", maxHeadValue-1)+" "), pairsOf("A", " "+strings.Repeat("x", maxHeadValue-1)),
		manyHeads(maxHeads + 1), samePairs(maxHeads+1, "A", ""), samePairs(100, "A", "x"),
	}
	for i := range 256 {
		c := string([]byte{byte(i)})
		if !strings.Contains(headKeyBytes, c) {
			list = append(list, pairsOf(c, "x"), pairsOf("A"+c, "x"), pairsOf(c+"A", "x"), pairsOf("A"+c+"b", "x"))
		}
		if i < 32 || i > 126 {
			list = append(list, pairsOf("A", c), pairsOf("A", "x"+c), pairsOf("A", c+"x"), pairsOf("A", "x"+c+"y"))
		}
	}
	return list
}

func rightPaths() []string {
	list := []string{"/", "//", "/.", "/..", "/a.b/c", "/-_./", "/a//b/", "/" + strings.Repeat("p", maxPathRest), strings.Repeat("/", maxPathRest+1)}
	for i := range len(pathBytes) {
		list = append(list, "/"+pathBytes[i:i+1], "/a"+pathBytes[i:i+1]+"b")
	}
	return append(list, "/"+pathBytes[:60], "/"+pathBytes[6:])
}

func wrongPaths() []string {
	list := []string{"", "a", "a/", ".", "./", " /", "/ ", "\\", "?", "/?", "/?a=1", "https://one.example/", "//?", "/#", "/%41", "/a%2Fb", "/\u00e4",
		"/" + strings.Repeat("p", maxPathRest+1), strings.Repeat("/", maxPathRest+2), strings.Repeat("p", 10), "/\r\n"}
	for i := range 256 {
		c := string([]byte{byte(i)})
		if !strings.Contains(pathBytes, c) {
			list = append(list, "/"+c, "/a"+c+"b", c+"/")
		} else if c != "/" {
			list = append(list, c, c+"/")
		}
	}
	return list
}

func rightBodies() []string {
	list := append(oddTexts(), "a=1&b=2", " ", "\t", crlf, "\r\n\r\n", "\n", "\r", "GET / HTTP/1.1\r\n\r\n", "Content-Length: 9\r\n\r\nx")
	return append(list, strings.Repeat("x", 9), strings.Repeat("x", 10), strings.Repeat("\xff", 999), strings.Repeat("\x00", 1000),
		strings.Repeat(crlf, impl.MaxBody/2), strings.Repeat("b", impl.MaxBody-1), strings.Repeat("b", impl.MaxBody))
}

func rightRequests() []impl.Request {
	list := []impl.Request{
		withQuery(pairsOf("a", "1")...), withQuery(pairsOf("", "")...), withQuery(pairsOf("", "", "", "")...), withQuery(pairsOf("a", "", "", "b", "a", "")...),
		withQuery(pairsOf("x y", "a&b=c?d", "+", "%", "?", "??")...), withQuery(pairsOf("\r\n", "\r\n\r\n", " HTTP/1.1", "\x00\xff")...),
		withQuery(samePairs(maxQuery, "a", "1")...), withQuery(samePairs(maxQuery, "", "")...),
		{Method: "POST", Path: "/a.b/c", Query: pairsOf("x", "1 2"), Heads: pairsOf("Host", "one.example", "X-A", ""), Body: "a=1"},
		{Method: "POST", Path: "/" + strings.Repeat("p", maxPathRest), Query: samePairs(maxQuery, "k", "v"), Heads: manyHeads(maxHeads), Body: strings.Repeat("b", impl.MaxBody)},
	}
	for _, s := range oddTexts() {
		list = append(list, withQuery(pairsOf(s, s, s, "")...))
	}
	for _, method := range []string{"GET", "POST"} {
		for _, path := range rightPaths() {
			list = append(list, impl.Request{Method: method, Path: path})
		}
		for _, heads := range rightHeads() {
			list = append(list, impl.Request{Method: method, Path: "/h", Heads: heads}, impl.Request{Method: method, Path: "/h", Heads: heads, Body: "body"})
		}
		for _, body := range rightBodies() {
			list = append(list, impl.Request{Method: method, Path: "/b", Body: body})
		}
	}
	return list
}

func wrongRequests() []impl.Request {
	list := []impl.Request{
		{}, {Method: "GET"}, {Path: "/"}, withQuery(samePairs(maxQuery+1, "a", "1")...), withQuery(samePairs(maxQuery+1, "", "")...), withQuery(samePairs(100, "a", "")...),
		withBody(strings.Repeat("b", impl.MaxBody+1)), withBody(strings.Repeat("\x00", 2*impl.MaxBody)),
	}
	for _, method := range []string{"", "get", "Get", "post", "PUT", "HEAD", "DELETE", "GETS", "GE", " GET", "GET ", "POST\x00", "GET POST", "GETPOST", "POS", "\xff"} {
		list = append(list, impl.Request{Method: method, Path: "/"})
	}
	for _, path := range wrongPaths() {
		list = append(list, getOf(path))
	}
	for _, heads := range wrongHeads() {
		list = append(list, withHeads(heads))
	}
	return list
}

func rightAnswers() []impl.Response {
	list := []impl.Response{answerOf(302, pairsOf("Location", "https://a/"), ""), answerOf(200, pairsOf("Set-Cookie", "a=b; Path=/"), "hello ann")}
	for code := 200; code <= 599; code++ {
		list = append(list, answerOf(code, nil, ""))
	}
	for _, heads := range rightHeads() {
		list = append(list, answerOf(200, heads, ""), answerOf(599, heads, "body"))
	}
	for _, body := range rightBodies() {
		list = append(list, answerOf(404, nil, body), answerOf(503, manyHeads(maxHeads), body))
	}
	return list
}

func wrongAnswers() []impl.Response {
	list := []impl.Response{{}, {Body: "x"}, answerOf(200, nil, strings.Repeat("b", impl.MaxBody+1)), answerOf(200, manyHeads(3), strings.Repeat("\x00", 2*impl.MaxBody))}
	for _, code := range []int{-1, 0, 1, 2, 20, 100, 199, 600, 601, 999, 1000, 2000, -200, -302, 1<<32 + 200, math.MinInt, math.MaxInt} {
		list = append(list, answerOf(code, nil, ""), answerOf(code, manyHeads(2), "x"))
	}
	for _, heads := range wrongHeads() {
		list = append(list, answerOf(200, heads, ""), answerOf(200, heads, "x"))
	}
	return list
}

// checkRequest checks that a valid request is recovered from its bytes, of
// which GetRequest reads no more than MaxText.
func checkRequest(t *testing.T, r impl.Request) {
	t.Helper()
	s := impl.PutRequest(r)
	if !impl.RequestOk(r) || s == "" {
		t.Errorf("RequestOk rejects %+v, or it has no bytes: %q", r, s)
	}
	got, code := impl.GetRequest(s)
	if len(s) > impl.MaxText {
		if code != impl.HtLong || !sameRequest(got, impl.Request{}) {
			t.Errorf("GetRequest of %d bytes = %+v, %d", len(s), got, code)
		}
	} else if code != impl.HtOk || !sameRequest(got, r) {
		t.Errorf("%+v comes back from %q as %+v, %d", r, s, got, code)
	}
}

func checkAnswer(t *testing.T, r impl.Response) {
	t.Helper()
	s := impl.PutResponse(r)
	if !impl.ResponseOk(r) || s == "" {
		t.Errorf("ResponseOk rejects %+v, or it has no bytes: %q", r, s)
	}
	if got, ok := impl.GetResponse(s); !ok || !sameAnswer(got, r) {
		t.Errorf("%+v comes back from %q as %+v, %v", r, s, got, ok)
	}
}

func checkCode(t *testing.T, s string, want int) {
	t.Helper()
	got, code := impl.GetRequest(s)
	if code != want {
		t.Errorf("GetRequest(%q) = %+v, %d, want %d", s, got, code, want)
	}
	if code != impl.HtOk && !sameRequest(got, impl.Request{}) {
		t.Errorf("GetRequest(%q) = %+v with code %d", s, got, code)
	}
	if code == impl.HtOk {
		checkRequest(t, got)
	}
}

func checkNoAnswer(t *testing.T, s string) {
	t.Helper()
	if got, ok := impl.GetResponse(s); ok || !sameAnswer(got, impl.Response{}) {
		t.Errorf("GetResponse(%q) = %+v, %v, want none", s, got, ok)
	}
}

func TestRequestsAreRecovered(t *testing.T) {
	for _, r := range rightRequests() {
		checkRequest(t, r)
	}
}

func TestRequestOkRejectsInvalidRequests(t *testing.T) {
	for _, r := range wrongRequests() {
		if impl.RequestOk(r) {
			t.Errorf("RequestOk accepts %+v", r)
		}
		if s := impl.PutRequest(r); s != "" {
			t.Errorf("PutRequest(%+v) = %q", r, s)
		}
	}
}

func TestResponsesAreRecovered(t *testing.T) {
	for _, r := range rightAnswers() {
		checkAnswer(t, r)
	}
}

func TestResponseOkRejectsInvalidResponses(t *testing.T) {
	for _, r := range wrongAnswers() {
		if impl.ResponseOk(r) {
			t.Errorf("ResponseOk accepts %+v", r)
		}
		if s := impl.PutResponse(r); s != "" {
			t.Errorf("PutResponse(%+v) = %q", r, s)
		}
	}
}

func TestMessagesOfEveryByte(t *testing.T) {
	for i := range 256 {
		c := string([]byte{byte(i)})
		for _, row := range []struct {
			what string
			r    impl.Request
			want bool
		}{
			{"Method", impl.Request{Method: "GET" + c, Path: "/"}, false},
			{"Path", getOf("/x" + c + "y"), strings.Contains(pathBytes, c)},
			{"Query", withQuery(pairsOf("x"+c+"y", "x"+c+"y")...), true},
			{"Key", withHeads(pairsOf("X"+c+"y", "z")), strings.Contains(headKeyBytes, c)},
			{"Value", withHeads(pairsOf("X", "x"+c+"y")), i >= 32 && i <= 126},
			{"Value's start", withHeads(pairsOf("X", c+"y")), i > 32 && i <= 126},
			{"Value's end", withHeads(pairsOf("X", "x"+c)), i > 32 && i <= 126},
			{"Body", withBody(c), true},
		} {
			if got := impl.RequestOk(row.r); got != row.want {
				t.Errorf("RequestOk of byte %d in the %s = %v", i, row.what, got)
			}
			if row.want {
				checkRequest(t, row.r)
			}
			a := answerOf(200, row.r.Heads, row.r.Body)
			if got := impl.ResponseOk(a); len(row.r.Heads) > 0 && got != row.want {
				t.Errorf("ResponseOk of byte %d in the %s = %v", i, row.what, got)
			}
		}
	}
}

func TestMessagesOfEachSize(t *testing.T) {
	check := func(what string, n int, r impl.Request, want bool) {
		t.Helper()
		if got := impl.RequestOk(r); got != want || (impl.PutRequest(r) != "") != want {
			t.Errorf("RequestOk with %d %s = %v", n, what, got)
		}
		a := answerOf(200, r.Heads, r.Body)
		if got := impl.ResponseOk(a); len(r.Heads)+len(r.Body) > 0 && got != want || got != (impl.PutResponse(a) != "") {
			t.Errorf("ResponseOk with %d %s = %v", n, what, got)
		}
		if want {
			checkRequest(t, r)
			checkAnswer(t, a)
		}
	}
	for n := range 100 {
		check("bytes behind the / of the Path", n, getOf("/"+strings.Repeat("a", n)), n <= maxPathRest)
		check("pairs in Query", n, withQuery(samePairs(n, "a", "1")...), n <= maxQuery)
		check("Heads", n, withHeads(manyHeads(n)), n <= maxHeads)
		check("bytes of a Key", n, withHeads(pairsOf(strings.Repeat("k", n), "x")), n > 0 && n <= maxHeadKey)
	}
	for _, n := range []int{0, 1, 9, 10, 99, 100, 899, 900, 901, 902, 999, 1000, 3999, 4000, 4001, 4002, 5000, 8000} {
		check("bytes of a Value", n, withHeads(pairsOf("A", strings.Repeat("x", n))), n <= maxHeadValue)
		check("bytes of Body", n, withBody(strings.Repeat("x", n)), n <= impl.MaxBody)
	}
}

func TestPutRequest(t *testing.T) {
	for _, c := range []struct {
		r    impl.Request
		want string
	}{
		{getOf("/"), "GET / HTTP/1.1\r\n\r\n"},
		{withBody(""), "POST / HTTP/1.1\r\n\r\n"},
		{impl.Request{Method: "GET", Path: "/a", Query: []impl.Pair{}, Heads: []impl.Pair{}}, "GET /a HTTP/1.1\r\n\r\n"},
		{withQuery(pairsOf("", "")...), "GET /?= HTTP/1.1\r\n\r\n"},
		{withQuery(pairsOf("a b", "+", "a b", "\xff?")...), "GET /?a%20b=%2B&a%20b=%FF%3F HTTP/1.1\r\n\r\n"},
		{withHeads(pairsOf("host", "x", "HOST", "", "A-", "b  c: d")), "GET / HTTP/1.1\r\nhost: x\r\nHOST: \r\nA-: b  c: d\r\n\r\n"},
		{withBody("a"), "POST / HTTP/1.1\r\nContent-Length: 1\r\n\r\na"},
		{impl.Request{Method: "GET", Path: "/", Body: "\r\n\r\n"}, "GET / HTTP/1.1\r\nContent-Length: 4\r\n\r\n\r\n\r\n"},
		{impl.Request{Method: "POST", Path: "/-_.", Query: pairsOf("a", "1"), Heads: pairsOf("B", "2", "A", "1"), Body: "0123456789"},
			"POST /-_.?a=1 HTTP/1.1\r\nB: 2\r\nA: 1\r\nContent-Length: 10\r\n\r\n0123456789"},
		{withBody(strings.Repeat("b", impl.MaxBody)), "POST / HTTP/1.1\r\nContent-Length: 4000\r\n\r\n" + strings.Repeat("b", impl.MaxBody)},
	} {
		if got := impl.PutRequest(c.r); got != c.want {
			t.Errorf("PutRequest(%+v) = %q, want %q", c.r, got, c.want)
		}
	}
}

func TestPutResponse(t *testing.T) {
	for _, c := range []struct {
		r    impl.Response
		want string
	}{
		{answerOf(200, nil, ""), "HTTP/1.1 200\r\n\r\n"},
		{answerOf(599, []impl.Pair{}, ""), "HTTP/1.1 599\r\n\r\n"},
		{answerOf(302, pairsOf("Location", "https://a/", "x", ""), ""), "HTTP/1.1 302\r\nLocation: https://a/\r\nx: \r\n\r\n"},
		{answerOf(404, nil, "none"), "HTTP/1.1 404\r\nContent-Length: 4\r\n\r\nnone"},
		{answerOf(200, pairsOf("B", "2", "A", "1"), "\r\n\r\n\x00\xff"), "HTTP/1.1 200\r\nB: 2\r\nA: 1\r\nContent-Length: 6\r\n\r\n\r\n\r\n\x00\xff"},
		{answerOf(200, nil, strings.Repeat("b", impl.MaxBody)), "HTTP/1.1 200\r\nContent-Length: 4000\r\n\r\n" + strings.Repeat("b", impl.MaxBody)},
	} {
		if got := impl.PutResponse(c.r); got != c.want {
			t.Errorf("PutResponse(%+v) = %q, want %q", c.r, got, c.want)
		}
	}
}

func TestGetRequest(t *testing.T) {
	for _, c := range []struct {
		s    string
		want impl.Request
	}{
		{"GET /? HTTP/1.1\r\n\r\n", getOf("/")},
		{"GET /?a=1&b=2 HTTP/1.1\r\n\r\n", withQuery(pairsOf("a", "1", "b", "2")...)},
		{"GET /?a=?&?=b? HTTP/1.1\r\n\r\n", withQuery(pairsOf("a", "?", "?", "b?")...)},
		{"GET /?a+b=%41%2b+%2B HTTP/1.1\r\n\r\n", withQuery(pairsOf("a b", "A+ +")...)},
		{"GET /?\xff=\r\n HTTP/1.1\r\n\r\n", impl.Request{}},
		{"GET /?\xff=\n\r\x00\t HTTP/1.1\r\n\r\n", withQuery(pairsOf("\xff", "\n\r\x00\t")...)},
		{"GET / HTTP/1.1\r\nA:b\r\nB:\r\nC: \t\r\nD:\t x \t y\r\n\r\n", impl.Request{}},
		{"GET / HTTP/1.1\r\nA:b\r\nB:\r\nC: \t\r\nD:\t x  y\t \r\n\r\n", withHeads(pairsOf("A", "b", "B", "", "C", "", "D", "x  y"))},
		{"GET / HTTP/1.1\r\nA::\r\nB: c:d: e\r\n\r\n", withHeads(pairsOf("A", ":", "B", "c:d: e"))},
		{"GET / HTTP/1.1\r\nA: 1\r\na: 2\r\nA: 1\r\n\r\n", withHeads(pairsOf("A", "1", "a", "2", "A", "1"))},
		{"POST / HTTP/1.1\r\nContent-Length: 4\r\n\r\n\r\n\r\n", withBody("\r\n\r\n")},
		{"POST / HTTP/1.1\r\nContent-Length: 4\r\n\r\nA: b", withBody("A: b")},
		{"POST / HTTP/1.1\r\ncontent-length:1\r\n\r\nx", withBody("x")},
		{"POST / HTTP/1.1\r\nCONTENT-LENGTH: \t 1\t \t\r\n\r\nx", withBody("x")},
		{"GET / HTTP/1.1\r\nContent-Length: 0\r\n\r\n", getOf("/")},
		{"POST / HTTP/1.1\r\nContent-Length: 1\r\ncontent-length: 2\r\nCONTENT-LENGTH: x\r\ncontent-length:\r\n\r\nx", withBody("x")},
		{"GET / HTTP/1.1\r\ncontent-LENGTH: 0\r\nContent-Length: 1\r\n\r\n", getOf("/")},
		{"POST / HTTP/1.1\r\nA: 1\r\nContent-Length: 1\r\nB: 2\r\nContent-Length: 3\r\nC: 3\r\n\r\nx",
			impl.Request{Method: "POST", Path: "/", Heads: pairsOf("A", "1", "B", "2", "C", "3"), Body: "x"}},
		// Lines that are no headers do not count as such.
		{firstLine + strings.Repeat("Content-Length: 0\r\n", 50) + strings.Repeat("A: b\r\n", maxHeads) + crlf, withHeads(samePairs(maxHeads, "A", "b"))},
		{firstLine + "A:" + strings.Repeat(" ", 2000) + strings.Repeat("x", maxHeadValue) + strings.Repeat("\t", 2000) + "\r\n\r\n", withHeads(pairsOf("A", strings.Repeat("x", maxHeadValue)))},
		{firstLine + "Content-Length:" + strings.Repeat("\t ", 1000) + "1" + strings.Repeat(" ", 1000) + "\r\n\r\nx", impl.Request{Method: "GET", Path: "/", Body: "x"}},
		{"GET /?" + strings.Repeat("=&", maxQuery-1) + "= HTTP/1.1\r\n\r\n", withQuery(samePairs(maxQuery, "", "")...)},
	} {
		got, code := impl.GetRequest(c.s)
		if !sameRequest(got, c.want) || (code == impl.HtOk) != (c.want.Method != "") {
			t.Errorf("GetRequest(%q) = %+v, %d, want %+v", c.s, got, code, c.want)
		}
		checkCode(t, c.s, code)
	}
}

func TestGetRequestRejectsFirstLines(t *testing.T) {
	for _, first := range []string{
		"", " ", "  ", "   ", "GET", "GET /", "GET HTTP/1.1", "/ HTTP/1.1", "GET/ HTTP/1.1", "GET /HTTP/1.1", "GET / HTTP/1.1 ", " GET / HTTP/1.1",
		"GET  / HTTP/1.1", "GET /  HTTP/1.1", "GET  /  HTTP/1.1", "GET / HTTP/1.1  ", "GET / a HTTP/1.1", "GET / HTTP/1.1 x", "GET /?a=b c HTTP/1.1",
		"GET\t/\tHTTP/1.1", "GET\t/ HTTP/1.1", "GET /\tHTTP/1.1", "GET\u00a0/ HTTP/1.1", "PUT / HTTP/1.1", "HEAD / HTTP/1.1", "get / HTTP/1.1", "Get / HTTP/1.1",
		"post / HTTP/1.1", "GETS / HTTP/1.1", "GE / HTTP/1.1", "\x00GET / HTTP/1.1", "\ufeffGET / HTTP/1.1", "\rGET / HTTP/1.1", "\nGET / HTTP/1.1", " / HTTP/1.1",
		"GET / HTTP/1.0", "GET / HTTP/1", "GET / HTTP/2", "GET / HTTP/1.11", "GET / HTTP/1.1\r", "GET / HTTP/1.1\n", "GET / HTTP/1.1\t", "GET / HTTP/1.1\x00",
		"GET / http/1.1", "GET / HTTP/1,1", "GET / XHTTP/1.1", "GET / ", "GET / HTTP", "HTTP/1.1 / GET", "HTTP/1.1 200", "GET / HTTP/1.1\nA: b", "GET / HTTP/1.1\rA: b",
	} {
		for _, rest := range []string{"\r\n\r\n", "\r\nA: b\r\n\r\n", "\r\nA\r\n\r\nx"} {
			checkCode(t, first+rest, impl.HtLine)
		}
	}
	// The first line is the empty one.
	for _, s := range []string{crlf, "\r\n\r\n", crlf + firstLine + crlf, "\r\n\r\n" + firstLine + crlf} {
		checkCode(t, s, impl.HtLine)
	}
}

func TestGetRequestRejectsMessagesWithoutEmptyLine(t *testing.T) {
	for _, s := range []string{
		"", "\r", "\n", "G", "GET", "GET / HTTP/1.1", "GET / HTTP/1.1\r", firstLine, firstLine + "\r", firstLine + "\n", firstLine + "\r\r", firstLine + "\n\r",
		"GET / HTTP/1.1\n\n", "GET / HTTP/1.1\r\r", "GET / HTTP/1.1\n\r\n\r", "GET / HTTP/1.1\n\r\n", "GET / HTTP/1.1\r\n\nx", "GET / HTTP/1.1\r\n \r\n", "GET / HTTP/1.1\r\n\t\r\n",
		firstLine + "A: b", firstLine + "A: b\r", firstLine + "A: b\r\n", firstLine + "A: b\r\n\r", firstLine + "A: b\n\n", firstLine + "A: b\r\n\n", firstLine + "A: b\n\r\n",
		firstLine + "Content-Length: 1\r\nx", "PUT a HTTP/1.0", firstLine + "A\r\n", "GET a HTTP/1.1\r\n", "GET /? HTTP/1.1\r\nA: b\r\r\n",
	} {
		checkCode(t, s, impl.HtLine)
	}
	whole := "POST /a?b=c HTTP/1.1\r\nHost: one\r\nContent-Length: 4\r\n\r\n\r\n\r\n"
	for i := range whole {
		want := impl.HtLine
		if i >= len(whole)-4 {
			want = impl.HtBody
		}
		checkCode(t, whole[:i], want)
	}
	checkCode(t, whole, impl.HtOk)
}

func TestGetRequestRejectsPaths(t *testing.T) {
	for _, path := range wrongPaths() {
		if strings.ContainsAny(path, " ?") || strings.Contains(path, crlf) {
			continue
		}
		for _, form := range []string{"", "?", "?a=1"} {
			checkCode(t, "GET "+path+form+" HTTP/1.1\r\n\r\n", impl.HtPath)
		}
	}
	for _, target := range []string{"?", "?a=1", "a?/", "/?a", "/?a=1&", "/?&", "/?&a=1", "/?a=1&&b=2", "/?%", "/?a=%4", "/?a=%g1", "/?%4=1", "/?a=1&b", "/??", "/?a?",
		"/?" + strings.Repeat("=&", maxQuery) + "=", "/?" + strings.Repeat("a=1&", maxQuery) + "b=2", "/\x00", "/\xff?a=b", "/\r", "/\n", "/\t"} {
		checkCode(t, "GET "+target+" HTTP/1.1\r\n\r\n", impl.HtPath)
	}
}

// An empty part between two spaces is a part.
func TestGetRequestOfEmptyTarget(t *testing.T) {
	checkCode(t, "GET  HTTP/1.1\r\n\r\n", impl.HtPath)
	checkCode(t, "PUT  HTTP/1.1\r\n\r\n", impl.HtLine)
	checkCode(t, "GET   HTTP/1.1\r\n\r\n", impl.HtLine)
}

func TestGetRequestRejectsHeads(t *testing.T) {
	for _, line := range []string{
		"A", "Host", " ", "\t", "A b", "Content-Length", "content-length", "A=b", "A;b", "\r", "\n", "\x00", "\xff", " : b", ":", ": b", " A: b", "\tA: b", "A : b", "A\t: b",
		" Content-Length: 0", "Content-Length : 0", "Content-Length\t:0", "Content Length: 0", "Content_Length: 0", "\u0421ontent-Length: 0", "A1: b", "A.b: c", "A B: c", "\"A\": b",
		"A: b\x00", "A: \x00b", "A: b\tc", "A: b\r", "A: b\n", "A: b\nC: d", "A: b\rC: d", "A:\n", "A:\r", "A: \x7f", "A: \x80", "A: b\xff", "A: \u00e4", "A: \u00a0",
		"A:\vb", "A:b\f", "A:\u00a0b", "A: b\r\n c", "A: b\r\n\tc: d", strings.Repeat("k", maxHeadKey+1) + ": b", "A: " + strings.Repeat("x", maxHeadValue+1),
	} {
		checkCode(t, firstLine+line+"\r\n\r\n", impl.HtHead)
		checkCode(t, firstLine+"X: y\r\n"+line+"\r\nContent-Length: 1\r\n\r\nx", impl.HtHead)
		checkCode(t, firstLine+"Content-Length: 5\r\n"+line+"\r\nX: y\r\n\r\n", impl.HtHead)
	}
	checkCode(t, firstLine+strings.Repeat("A: b\r\n", maxHeads)+crlf, impl.HtOk)
	checkCode(t, firstLine+strings.Repeat("A: b\r\n", maxHeads+1)+crlf, impl.HtHead)
	checkCode(t, firstLine+strings.Repeat("A: b\r\n", maxHeads)+"A\r\n\r\n", impl.HtHead)
	checkCode(t, firstLine+strings.Repeat("A: b\r\n", 1000)+crlf, impl.HtHead)
}

// What is wrong with some of these lists is nothing that a line can hold, such
// as a space at the end: what is read from their lines is another list.
func TestGetRequestOfInvalidHeads(t *testing.T) {
	forms := newRequestForms()
	for _, list := range wrongHeads() {
		s := firstLine
		for _, head := range list {
			s += head.Key + ":\t" + head.Value + crlf
		}
		s += crlf
		want := forms.codeOf(s)
		if len(list) > maxHeads {
			want = impl.HtHead
		}
		checkCode(t, s, want)
		if got, _ := impl.GetRequest(s); slices.Equal(got.Heads, list) {
			t.Errorf("GetRequest(%q) returns the Heads %q", s, got.Heads)
		}
	}
}

func TestGetRequestRejectsLengths(t *testing.T) {
	for _, c := range []struct{ head, body string }{
		{"", "x"}, {"", "\r\n"}, {"", " "}, {"", "\x00"}, {"A: 1\r\n", "x"}, {"Content-Lengths: 1\r\n", "x"}, {"", strings.Repeat("x", impl.MaxBody+1)},
		{"Content-Length: 1\r\n", ""}, {"Content-Length: 1\r\n", "xy"}, {"Content-Length: 0\r\n", "x"}, {"Content-Length: 2\r\n", "x"}, {"Content-Length: 4\r\n", "x\r\n"},
		{"Content-Length: 2\r\nContent-Length: 1\r\n", "x"}, {"content-length: 0\r\nContent-Length: 1\r\n", "x"}, {"Content-Length: x\r\nContent-Length: 1\r\n", "x"},
		{"Content-Length:\r\nContent-Length: 0\r\n", ""}, {"Content-Length:\r\n", ""}, {"Content-Length: \t\r\n", ""}, {"Content-Length:\r\n", "x"},
		{"Content-Length: -0\r\n", ""}, {"Content-Length: -1\r\n", ""}, {"Content-Length: -1\r\n", "x"}, {"Content-Length: +1\r\n", "x"}, {"Content-Length: 01\r\n", "x"},
		{"Content-Length: 00\r\n", ""}, {"Content-Length: 1 1\r\n", "x"}, {"Content-Length: 1,1\r\n", "x"}, {"Content-Length: 1.0\r\n", "x"}, {"Content-Length: 0x1\r\n", "x"},
		{"Content-Length: one\r\n", "x"}, {"Content-Length: 1\x00\r\n", "x"}, {"Content-Length: 1\n\r\n", "x"}, {"Content-Length: \r1\r\n", "x"}, {"Content-Length: 1:\r\n", "x"},
		{"Content-Length:: 1\r\n", "x"}, {"Content-Length: \u00a01\r\n", "x"}, {"Content-Length: \xff\r\n", "x"}, {"Content-Length: \"1\"\r\n", "x"}, {"Content-Length: \v1\r\n", "x"},
		{"Content-Length: 000000000000\r\n", ""}, {"Content-Length: 0000000000001\r\n", "x"}, {"Content-Length: 999999999999\r\n", "x"}, {"Content-Length: 1000000000000\r\n", ""},
		{"Content-Length: 1000000000001\r\n", "x"}, {"Content-Length: 4294967297\r\n", "x"}, {"Content-Length: 18446744073709551617\r\n", "x"}, {"Content-Length: 18446744073709551616\r\n", ""},
		{"Content-Length: 4001\r\n", strings.Repeat("x", impl.MaxBody+1)}, {"Content-Length: 4000\r\n", strings.Repeat("x", impl.MaxBody+1)},
		{"Content-Length: 4001\r\n", strings.Repeat("x", impl.MaxBody)}, {"Content-Length: 7000\r\n", strings.Repeat("x", 7000)},
	} {
		checkCode(t, firstLine+c.head+crlf+c.body, impl.HtBody)
		checkCode(t, "POST /a?b=c HTTP/1.1\r\n"+c.head+"A: b\r\n\r\n"+c.body, impl.HtBody)
	}
}

func TestGetRequestOfEachLength(t *testing.T) {
	for stated := range 13 {
		for length := range 13 {
			body := strings.Repeat("\n", length)
			want := impl.HtBody
			if stated == length {
				want = impl.HtOk
			}
			for _, form := range []string{"Content-Length: %d\r\n", "content-length:%d\r\n", "CONTENT-length:\t%d \r\nContent-Length: 3\r\n", "A: b\r\ncontent-Length:%d\t\r\n"} {
				checkCode(t, firstLine+fmt.Sprintf(form, stated)+crlf+body, want)
			}
		}
	}
	for _, length := range []int{impl.MaxBody - 1, impl.MaxBody, impl.MaxBody + 1} {
		want := impl.HtOk
		if length > impl.MaxBody {
			want = impl.HtBody
		}
		checkCode(t, fmt.Sprintf("%sContent-Length: %d\r\n\r\n%s", firstLine, length, strings.Repeat("b", length)), want)
	}
}

// Each of the five faults alone and together with each of the others.
func TestGetRequestReturnsTheFirstCode(t *testing.T) {
	choose := func(faults int, fault int, wrong string, right string) string {
		if faults>>fault&1 == 1 {
			return wrong
		}
		return right
	}
	for _, line := range []string{"PUT %s HTTP/1.1", "GET %s HTTP/1.0", "GET %s", "GET  %s HTTP/1.1", "GET %s x HTTP/1.1"} {
		for _, target := range []string{"a", "/?a", "/%41", "/?" + strings.Repeat("=&", maxQuery) + "="} {
			for _, head := range []string{"A", "A B: c", "A: \x7f", strings.Repeat("A: b\r\n", maxHeads) + "A:"} {
				for _, body := range []string{"Content-Length: 2\r\n\r\nx", "Content-Length: y\r\n\r\nx", "\r\nx", "Content-Length: 4001\r\n\r\n" + strings.Repeat("x", impl.MaxBody+1)} {
					for faults := range 32 {
						first := fmt.Sprintf(choose(faults, 1, line, "GET %s HTTP/1.1"), choose(faults, 2, target, "/a?b=c"))
						s := first + crlf + choose(faults, 3, head, "A: b") + crlf + choose(faults, 4, body, "Content-Length: 1\r\n\r\nx")
						s += strings.Repeat("x", max(0, impl.MaxText+1-len(s))*(faults&1))
						want := impl.HtOk
						for fault, code := range []int{impl.HtLong, impl.HtLine, impl.HtPath, impl.HtHead, impl.HtBody} {
							if faults>>fault&1 == 1 {
								want = code
								break
							}
						}
						checkCode(t, s, want)
					}
				}
			}
		}
	}
	checkCode(t, strings.TrimSuffix(firstLine, crlf)+strings.Repeat("x", impl.MaxText), impl.HtLong)
	checkCode(t, "GET a HTTP/1.1\r\nA\r\n", impl.HtLine)
}

// requestOfLength returns a valid request whose bytes are as many as given.
func requestOfLength(t *testing.T, length int) impl.Request {
	t.Helper()
	r := impl.Request{Method: "POST", Path: "/long", Query: pairsOf("a", ""), Heads: samePairs(4, "A", strings.Repeat("x", maxHeadValue)), Body: strings.Repeat("b", 3900)}
	r.Query[0].Value = strings.Repeat("v", length-len(impl.PutRequest(r)))
	if got := len(impl.PutRequest(r)); got != length {
		t.Fatalf("the request has %d bytes instead of %d", got, length)
	}
	return r
}

func TestGetRequestIsLimitedByMaxText(t *testing.T) {
	for length := impl.MaxText - 3; length <= impl.MaxText+3; length++ {
		s := impl.PutRequest(requestOfLength(t, length))
		want, wantOther := impl.HtOk, impl.HtLine
		if length > impl.MaxText {
			want, wantOther = impl.HtLong, impl.HtLong
		}
		checkCode(t, s, want)
		for _, unit := range []string{"x", "\x00", "\xff", " ", "\n"} {
			checkCode(t, strings.Repeat(unit, length), wantOther)
		}
		checkCode(t, firstLine+strings.Repeat(" ", length-len(firstLine)-3)+":\r\n", wantOther)
	}
}

// What is read may be written with more bytes than GetRequest reads.
func TestGetRequestOfShorterNotation(t *testing.T) {
	s := "GET /?a=" + strings.Repeat("\xff", 7000) + " HTTP/1.1\r\n\r\n"
	r, code := impl.GetRequest(s)
	if code != impl.HtOk || !sameRequest(r, withQuery(pairsOf("a", strings.Repeat("\xff", 7000))...)) {
		t.Errorf("GetRequest of raw bytes = %+v, %d", r, code)
	}
	if got := impl.PutRequest(r); got != "GET /?a="+strings.Repeat("%FF", 7000)+" HTTP/1.1\r\n\r\n" {
		t.Errorf("PutRequest of raw bytes = %q", got)
	}
	checkCode(t, s, impl.HtOk)
}

// requestForms tells by regular expressions which code the document requires,
// for texts that stay below the limits of lines.
type requestForms struct{ line, target, head, lengthHead, length *regexp.Regexp }

func newRequestForms() requestForms {
	const pair = `([^%&= ]|%[0-9A-Fa-f]{2})*=([^%& ]|%[0-9A-Fa-f]{2})*`
	return requestForms{
		line:       regexp.MustCompile(`(?s)\A(GET|POST) [^ ]* HTTP/1\.1\z`),
		target:     regexp.MustCompile(`(?s)\A[A-Z]+ /[A-Za-z0-9._/-]{0,60}(\?(` + pair + `(&` + pair + `){0,29})?)? HTTP/1\.1\z`),
		head:       regexp.MustCompile(`\A[A-Za-z-]{1,30}:[ \t]*([!-~]([ -~]{0,898}[!-~])?)?[ \t]*\z`),
		lengthHead: regexp.MustCompile(`\A[Cc][Oo][Nn][Tt][Ee][Nn][Tt]-[Ll][Ee][Nn][Gg][Tt][Hh]:`),
		length:     regexp.MustCompile(`\A[^:]*:[ \t]*(0|[1-9][0-9]{0,11})[ \t]*\z`),
	}
}

func (f requestForms) codeOf(s string) int {
	text, body, found := strings.Cut(s, crlf+crlf)
	lines := strings.Split(text, crlf)
	if !found || !f.line.MatchString(lines[0]) {
		return impl.HtLine
	}
	if !f.target.MatchString(lines[0]) {
		return impl.HtPath
	}
	length := ""
	for _, line := range lines[1:] {
		if !f.lengthHead.MatchString(line) {
			if !f.head.MatchString(line) {
				return impl.HtHead
			}
		} else if length == "" {
			length = "none"
			if parts := f.length.FindStringSubmatch(line); parts != nil {
				length = parts[1]
			}
		}
	}
	if length == "" {
		length = "0"
	}
	if length != fmt.Sprint(len(body)) {
		return impl.HtBody
	}
	return impl.HtOk
}

// answerForms does so for responses.
type answerForms struct{ line, head, lengthHead *regexp.Regexp }

func newAnswerForms() answerForms {
	return answerForms{
		line:       regexp.MustCompile(`\AHTTP/1\.1 [2-5][0-9][0-9]\z`),
		head:       regexp.MustCompile(`\A[A-Za-z-]{1,30}: ([!-~]([ -~]{0,898}[!-~])?)?\z`),
		lengthHead: newRequestForms().lengthHead,
	}
}

func (f answerForms) accept(s string) bool {
	text, body, found := strings.Cut(s, crlf+crlf)
	lines := strings.Split(text, crlf)
	if !found || !f.line.MatchString(lines[0]) {
		return false
	}
	if body != "" {
		last := len(lines) - 1
		if lines[last] != fmt.Sprint("Content-Length: ", len(body)) {
			return false
		}
		lines = lines[:last]
	}
	for _, line := range lines[1:] {
		if !f.head.MatchString(line) || f.lengthHead.MatchString(line) {
			return false
		}
	}
	return true
}

func checkAnswerForm(t *testing.T, forms answerForms, s string) {
	t.Helper()
	if !forms.accept(s) {
		checkNoAnswer(t, s)
		return
	}
	got, ok := impl.GetResponse(s)
	if !ok || impl.PutResponse(got) != s {
		t.Errorf("GetResponse(%q) = %+v, %v", s, got, ok)
	}
	checkAnswer(t, got)
}

// changesOf yields every text that differs from s in one byte, that has one
// more, or that lacks one or several in a row.
func changesOf(s string, check func(string)) {
	for i := range len(s) + 1 {
		for c := range 256 {
			extra := string([]byte{byte(c)})
			check(s[:i] + extra + s[i:])
			if i < len(s) {
				check(s[:i] + extra + s[i+1:])
			}
		}
		for j := i; j < len(s); j++ {
			check(s[:i] + s[j+1:])
		}
	}
}

func TestGetRequestOfChangedTexts(t *testing.T) {
	forms := newRequestForms()
	seen := map[int]int{}
	for _, s := range []string{
		"POST /a?x=%41&y=+ HTTP/1.1\r\nHost: one\r\nA-b:\t c d \r\nContent-Length: 2\r\n\r\nhi",
		"GET / HTTP/1.1\r\ncontent-length:3\r\nContent-Length: 1\r\n\r\n\r\nx",
		"GET /?= HTTP/1.1\r\nA:\r\n\r\n",
	} {
		changesOf(s, func(changed string) {
			want := forms.codeOf(changed)
			seen[want]++
			checkCode(t, changed, want)
		})
	}
	for code := impl.HtOk; code <= impl.HtBody; code++ {
		if seen[code] < 1000 {
			t.Errorf("only %d changed texts have code %d", seen[code], code)
		}
	}
}

func TestGetRequestOfAllShortParts(t *testing.T) {
	forms := newRequestForms()
	for _, s := range stringsOver("\r\n /?=", 5) {
		for _, whole := range []string{s, s + firstLine + crlf, "GET" + s + "HTTP/1.1\r\n\r\n", "GET /" + s + " HTTP/1.1\r\n\r\n", "GET / HTTP/1.1" + s, firstLine + s + "A: b\r\n\r\n"} {
			checkCode(t, whole, forms.codeOf(whole))
		}
	}
	for _, s := range stringsOver("\r\n: \tA1", 5) {
		for _, whole := range []string{firstLine + s + "\r\n\r\n", firstLine + "A: b" + s + "\r\n\r\n", firstLine + "Content-Length" + s + "\r\n\r\nx"} {
			checkCode(t, whole, forms.codeOf(whole))
		}
	}
}

func TestGetResponseOfChangedTexts(t *testing.T) {
	forms := newAnswerForms()
	accepted := 0
	for _, s := range []string{
		"HTTP/1.1 302\r\nLocation: https://a/\r\nA-b: c d\r\nContent-Length: 2\r\n\r\nhi",
		"HTTP/1.1 200\r\nA: \r\n\r\n",
		"HTTP/1.1 599\r\nContent-Length: 10\r\n\r\n\r\n\r\n\r\n\r\nab",
	} {
		changesOf(s, func(changed string) {
			if forms.accept(changed) {
				accepted++
			}
			checkAnswerForm(t, forms, changed)
		})
	}
	if accepted < 1000 {
		t.Errorf("only %d changed texts are responses", accepted)
	}
}

func TestGetResponseOfAllShortParts(t *testing.T) {
	forms := newAnswerForms()
	for _, s := range stringsOver("\r\n: A2", 5) {
		for _, whole := range []string{s, "HTTP/1.1 " + s + "\r\n\r\n", "HTTP/1.1 20" + s, answerLine + s, answerLine + s + "\r\n\r\n", answerLine + "A: b" + s + "\r\n\r\n",
			answerLine + "Content-Length" + s + "\r\n\r\nxx", answerLine + "Content-Length: " + s + "\r\n\r\nxx"} {
			checkAnswerForm(t, forms, whole)
		}
	}
}

func TestGetResponseRejectsOtherNotations(t *testing.T) {
	for _, s := range []string{
		"", crlf, "\r\n\r\n", "HTTP/1.1 200", answerLine, answerLine + "\r", answerLine + "\n", "HTTP/1.1 200\n\n", "HTTP/1.1 200\r\r", crlf + answerLine + crlf,
		"HTTP/1.1 200 OK\r\n\r\n", "HTTP/1.1 200 \r\n\r\n", "HTTP/1.1  200\r\n\r\n", " HTTP/1.1 200\r\n\r\n", "HTTP/1.1\t200\r\n\r\n", "HTTP/1.1200\r\n\r\n", "200\r\n\r\n", "HTTP/1.1 \r\n\r\n",
		"HTTP/1.1 HTTP/1.1 200\r\n\r\n", "HTTP/1.0 200\r\n\r\n", "http/1.1 200\r\n\r\n", "GET / HTTP/1.1\r\n\r\n", "HTTP/1.1\r\n\r\n", "HTTP/1.1 +200\r\n\r\n", "HTTP/1.1 -200\r\n\r\n",
		"HTTP/1.1 0200\r\n\r\n", "HTTP/1.1 200.\r\n\r\n", "HTTP/1.1 2e2\r\n\r\n", "HTTP/1.1 199\r\n\r\n", "HTTP/1.1 600\r\n\r\n", "HTTP/1.1 0\r\n\r\n", "HTTP/1.1 1000\r\n\r\n", "HTTP/1.1 20\r\n\r\n",
		"HTTP/1.1 -1\r\n\r\n", "HTTP/1.1 18446744073709551816\r\n\r\n", "HTTP/1.1 4294967496\r\n\r\n",
		answerLine + "A:b\r\n\r\n", answerLine + "A:  b\r\n\r\n", answerLine + "A: b \r\n\r\n", answerLine + "A:\tb\r\n\r\n", answerLine + "A: b\t\r\n\r\n", answerLine + "A:\r\n\r\n", answerLine + "A:  \r\n\r\n",
		answerLine + "A : b\r\n\r\n", answerLine + " A: b\r\n\r\n", answerLine + "A\r\n\r\n", answerLine + ": b\r\n\r\n", answerLine + "A1: b\r\n\r\n", answerLine + "A: b\tc\r\n\r\n", answerLine + "A: \x7f\r\n\r\n",
		answerLine + "A: b\n\r\n\r\n", answerLine + "A: b\nC: d\r\n\r\n", answerLine + "A: b\r\n c: d\r\n\r\n",
		answerLine + "\r\nx", answerLine + "\r\n\r\n", answerLine + "A: b\r\n\r\nx", answerLine + "Content-Length: 0\r\n\r\n", answerLine + "Content-Length: 1\r\n\r\n", answerLine + "Content-Length: 1\r\n\r\nxy",
		answerLine + "Content-Length: 2\r\n\r\nx", answerLine + "content-length: 1\r\n\r\nx", answerLine + "CONTENT-LENGTH: 1\r\n\r\nx", answerLine + "Content-Length:1\r\n\r\nx", answerLine + "Content-Length:  1\r\n\r\nx",
		answerLine + "Content-Length: 1 \r\n\r\nx", answerLine + "Content-Length:\t1\r\n\r\nx", answerLine + "Content-Length: 01\r\n\r\nx", answerLine + "Content-Length: +1\r\n\r\nx", answerLine + "Content-Length: x\r\n\r\nx",
		answerLine + "Content-Length: 1\r\nContent-Length: 1\r\n\r\nx", answerLine + "Content-Length: 1\r\nA: b\r\n\r\nx", answerLine + "Content-Length: 1\r\ncontent-length: 2\r\n\r\nx",
		answerLine + strings.Repeat("A: b\r\n", maxHeads+1) + crlf, answerLine + strings.Repeat("k", maxHeadKey+1) + ": b\r\n\r\n", answerLine + "A: " + strings.Repeat("x", maxHeadValue+1) + "\r\n\r\n",
		answerLine + fmt.Sprint("Content-Length: ", impl.MaxBody+1) + "\r\n\r\n" + strings.Repeat("x", impl.MaxBody+1),
	} {
		checkNoAnswer(t, s)
	}
	whole := "HTTP/1.1 404\r\nA: b\r\nContent-Length: 4\r\n\r\n\r\n\r\n"
	for i := range whole {
		checkNoAnswer(t, whole[:i])
		checkNoAnswer(t, whole[i+1:])
	}
}

// MaxText limits requests only.
func TestGetResponseOfMoreThanMaxText(t *testing.T) {
	for length := impl.MaxText - 2; length <= impl.MaxText+2; length++ {
		r := answerOf(200, append(samePairs(4, "A", strings.Repeat("x", maxHeadValue)), pairsOf("B", "")...), strings.Repeat("b", impl.MaxBody))
		r.Heads[4].Value = strings.Repeat("y", length-len(impl.PutResponse(r)))
		if got := len(impl.PutResponse(r)); got != length {
			t.Fatalf("the response has %d bytes instead of %d", got, length)
		}
		checkAnswer(t, r)
	}
	checkAnswer(t, answerOf(200, samePairs(maxHeads, strings.Repeat("k", maxHeadKey), strings.Repeat("x", maxHeadValue)), strings.Repeat("b", impl.MaxBody)))
}

func TestHead(t *testing.T) {
	list := pairsOf("Host", "1", "HOST", "2", "", "none", "X-A", "", "x-a", "3", "\xff", "4", "\u00c4", "5", "Set-Cookie", "6", "[", "7", "ho\u017ft-b", "8", "content-LENGTH", "9")
	for _, c := range []struct {
		list  []impl.Pair
		key   string
		value string
		found bool
	}{
		{list, "Host", "1", true}, {list, "host", "1", true}, {list, "HOST", "1", true}, {list, "hOsT", "1", true}, {list[1:], "host", "2", true},
		{list, "", "none", true}, {list, "x-a", "", true}, {list, "X-a", "", true}, {list[4:], "X-A", "3", true}, {list, "SET-COOKIE", "6", true}, {list, "set-cookie", "6", true},
		{list, "\xff", "4", true}, {list, "\u00c4", "5", true}, {list, "[", "7", true}, {list, "HO\u017fT-B", "8", true}, {list, "Content-Length", "9", true},
		{list, "\xfe", "", false}, {list, "\ufffd", "", false}, {list, "\u00e4", "", false}, {list, "{", "", false}, {list, "host-b", "", false}, {list, "hos", "", false}, {list, "hosts", "", false},
		{list, "host ", "", false}, {list, " host", "", false}, {list, "1", "", false}, {list, "set_cookie", "", false}, {list, "xa", "", false}, {list, "ho\u017ft", "", false},
		{nil, "host", "", false}, {nil, "", "", false}, {[]impl.Pair{}, "", "", false}, {list[:1], "", "", false},
	} {
		if got, ok := impl.Head(c.list, c.key); ok != c.found || got != c.value {
			t.Errorf("Head(%q, %q) = %q, %v, want %q, %v", c.list, c.key, got, ok, c.value, c.found)
		}
	}
}

func TestHeadOfEveryPairOfBytes(t *testing.T) {
	const letters = "ABCDEFGHIJKLMNOPQRSTUVWXYZabcdefghijklmnopqrstuvwxyz"
	for i := range 256 {
		for j := range 256 {
			a, b := string([]byte{byte(i)}), string([]byte{byte(j)})
			want := i == j || i^j == 32 && strings.Contains(letters, a) && strings.Contains(letters, b)
			value, ok := impl.Head(pairsOf("x"+a+"y", "v"), "X"+b+"Y")
			if ok != want || ok != (value == "v") || !ok && value != "" {
				t.Errorf("Head of bytes %d and %d = %q, %v", i, j, value, ok)
			}
		}
	}
}

// Promise 21 for chapter 5: arguments stay as they are, spare capacity included, results are separate memory, and arguments beyond every limit return.
func TestMessageArgumentsStay(t *testing.T) {
	query := pairsOf("a", "1", "b", "2", "spare", "room", "more", "room")
	heads := pairsOf("Host", "one", "A", "", "Spare", "room", "More", "room")
	queryBefore, headsBefore := slices.Clone(query), slices.Clone(heads)
	for n := range len(heads) {
		r := impl.Request{Method: "POST", Path: "/", Query: query[:n], Heads: heads[:n], Body: "x"}
		a := answerOf(200, heads[:n], "x")
		impl.RequestOk(r)
		impl.ResponseOk(a)
		impl.PutRequest(r)
		impl.PutResponse(a)
		impl.Head(heads[:n], "more")
		if !slices.Equal(query, queryBefore) || !slices.Equal(heads, headsBefore) {
			t.Fatalf("the lists became %q and %q", query, heads)
		}
	}
}

func TestMessagesAreNewMemory(t *testing.T) {
	const s = "POST /?a=1&b=2 HTTP/1.1\r\nA: 1\r\nB: 2\r\nContent-Length: 1\r\n\r\nx"
	want := impl.Request{Method: "POST", Path: "/", Query: pairsOf("a", "1", "b", "2"), Heads: pairsOf("A", "1", "B", "2"), Body: "x"}
	first, _ := impl.GetRequest(s)
	second, _ := impl.GetRequest(s)
	_ = append(first.Query[:1], pairsOf("x", "y", "x", "y")...)
	if !slices.Equal(first.Heads, want.Heads) {
		t.Errorf("the Query shows in the Heads: %q", first.Heads)
	}
	_ = append(first.Heads[:1], pairsOf("x", "y", "x", "y")...)
	first.Query[0], first.Heads[0] = impl.Pair{}, impl.Pair{}
	third, _ := impl.GetRequest(s)
	if !sameRequest(second, want) || !sameRequest(third, want) {
		t.Errorf("a changed request shows in another one: %+v, %+v", second, third)
	}
	one, _ := impl.GetResponse(answerLine + "A: 1\r\nB: 2\r\n\r\n")
	two, _ := impl.GetResponse(answerLine + "A: 1\r\nB: 2\r\n\r\n")
	_ = append(one.Heads[:0], pairsOf("x", "y", "x", "y", "x", "y")...)
	three, _ := impl.GetResponse(answerLine + "A: 1\r\nB: 2\r\n\r\n")
	if !sameAnswer(two, answerOf(200, want.Heads, "")) || !sameAnswer(three, two) {
		t.Errorf("a changed response shows in another one: %+v, %+v", two, three)
	}
}

func TestLongMessagesReturn(t *testing.T) {
	const size = 100000
	for _, unit := range []string{"a", "/", " ", "\r", "\n", crlf, "A: b\r\n", "A:", ":", "=&", "%", "?", "\x00", "\xff", "GET / HTTP/1.1\r\n\r\n", "Content-Length: 1\r\n"} {
		s := strings.Repeat(unit, size)
		for _, text := range []string{s, firstLine + s, firstLine + s + "\r\n\r\n", answerLine + s, answerLine + s + "\r\n\r\n", answerLine + "Content-Length: " + s + "\r\n\r\nx", answerLine + "\r\n" + s} {
			checkCode(t, text, impl.HtLong)
			checkNoAnswer(t, text)
		}
		checkCode(t, s[:impl.MaxText], newRequestForms().codeOf(s[:impl.MaxText]))
		many := samePairs(size, unit, "x")
		for _, r := range []impl.Request{{Method: s, Path: "/"}, getOf("/" + s), withQuery(many...), withHeads(many), withHeads(pairsOf(s, "x")), withHeads(pairsOf("A", s)), withBody(s)} {
			if impl.RequestOk(r) || impl.PutRequest(r) != "" {
				t.Errorf("a request with %d times %q is valid", size, unit)
			}
		}
		for _, a := range []impl.Response{answerOf(200, many, ""), answerOf(200, pairsOf(s, "x"), ""), answerOf(200, pairsOf("A", s), ""), answerOf(200, nil, s)} {
			if impl.ResponseOk(a) || impl.PutResponse(a) != "" {
				t.Errorf("a response with %d times %q is valid", size, unit)
			}
		}
		if value, ok := impl.Head(pairsOf(s, s), s); !ok || value != s {
			t.Errorf("Head of %d times %q", size, unit)
		}
		if value, ok := impl.Head(many, s); ok || value != "" {
			t.Errorf("Head of %d times %q among many = %q", size, unit, value)
		}
	}
	long := strings.Repeat("q", size)
	r := withQuery(pairsOf(long, long)...)
	checkRequest(t, r)
	if s := impl.PutRequest(r); s != "GET /?"+long+"="+long+" HTTP/1.1\r\n\r\n" {
		t.Errorf("PutRequest of a long Query has %d bytes", len(s))
	}
}
