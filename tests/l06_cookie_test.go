package tests

import (
	"fmt"
	"math"
	"regexp"
	"slices"
	"strconv"
	"strings"
	"testing"

	"loop.example/g00716/impl"
)

const (
	hostBytes        = "abcdefghijklmnopqrstuvwxyz0123456789-"
	cookieNameBytes  = "ABCDEFGHIJKLMNOPQRSTUVWXYZabcdefghijklmnopqrstuvwxyz0123456789-_"
	cookieValueBytes = "!#$%&'()*+-./0123456789:<=>?@ABCDEFGHIJKLMNOPQRSTUVWXYZ[]^_`abcdefghijklmnopqrstuvwxyz{|}~"
	maxHost          = 60
	maxCookieName    = 30
	maxCookieValue   = 600
	maxCookies       = 30
	lastTime         = 999999999999
)

func cookieOf(name string, value string) impl.Cookie {
	return impl.Cookie{Name: name, Value: value, Domain: "one.example", Path: "/", Until: -1}
}

func cookieFor(domain string, only bool) impl.Cookie {
	return impl.Cookie{Name: "sso", Value: "v", Domain: domain, Only: only, Path: "/", Until: -1}
}

func cookieUnder(path string) impl.Cookie {
	return impl.Cookie{Name: "sso", Value: "v", Domain: "one.example", Path: path, Until: -1}
}

func cookieUntil(until int) impl.Cookie {
	return impl.Cookie{Name: "sso", Value: "v", Domain: "one.example", Path: "/", Until: until}
}

// rightTimes and wrongTimes are those of the argument now; Until may be -1, too.
func rightTimes() []int {
	return []int{0, 1, 49, 50, 51, 60, 999, 1<<31 - 1, 1 << 31, 1 << 32, lastTime - 50, lastTime - 1, lastTime}
}

func wrongTimes() []int {
	return []int{-1, -2, -50, -lastTime, lastTime + 1, lastTime + 2, 2 * lastTime, 1<<62 + 50, math.MinInt, math.MinInt + 1, math.MaxInt, math.MaxInt - lastTime}
}

func rightHosts() []string {
	list := []string{
		"a", "0", "-", "z9", "a.b", "0.0", "-.-", "--", "one.example", "app.one.example", "a-1.b", "-a.b-", "1.2.3.4", "localhost", "a.b.c.d.e.f.g",
		strings.Repeat("h", maxHost), strings.Repeat("h", maxHost-1), strings.Repeat("a.", 29) + "aa", strings.Repeat("a.", 29) + "a", strings.Repeat("-", maxHost),
		"a." + strings.Repeat("b", maxHost-2), strings.Repeat("a", maxHost-2) + ".b", hostBytes,
	}
	for i := range len(hostBytes) {
		c := hostBytes[i : i+1]
		list = append(list, c, c+"a", "a"+c, "x."+c, c+".x", "a"+c+"b.c"+c)
	}
	return list
}

func wrongHosts() []string {
	list := []string{
		"", ".", "..", "...", ".a", "a.", "a..b", "..a", "a..", ".a.", "a.b.", ".a.b", "a.b..c", "a...b", "A", "a.B", "A.b", "oNe.example", "one.examplE",
		"a b", " a", "a ", "a\t", "a\n", "a\r\n", "a:80", "a/b", "/", "a_b", "a@b", "*.a", "a,b", "a;b", "https://a", "\u00e4.b", "a\u3002b", "\u212a", "a\x00",
		strings.Repeat("h", maxHost+1), strings.Repeat("h", maxHost) + ".", "." + strings.Repeat("h", maxHost), strings.Repeat("a.", 30), strings.Repeat("a.", 30) + "a",
		strings.Repeat("a.", 29) + "aaa", strings.Repeat(".", maxHost), strings.Repeat("h", 200),
	}
	for i := range 256 {
		c := string([]byte{byte(i)})
		if !strings.Contains(hostBytes, c) {
			list = append(list, c, c+"a", "a"+c, "x.a."+c, c+".x")
			if c != "." {
				list = append(list, "a"+c+"b", "x.a"+c+"b.y")
			}
		}
	}
	return list
}

func rightCookieNames() []string {
	list := []string{"a", "-", "_", "0", "__Host-a", "path", "Domain", "max-age", strings.Repeat("n", maxCookieName), strings.Repeat("_", maxCookieName-1), cookieNameBytes[:30], cookieNameBytes[30:60]}
	for i := range len(cookieNameBytes) {
		list = append(list, cookieNameBytes[i:i+1], "a"+cookieNameBytes[i:i+1]+"b")
	}
	return list
}

func wrongCookieNames() []string {
	list := []string{"", " ", " a", "a ", "a b", "\ta", "a\t", "a\n", "a=", "=", "a;", ";", "a.b", "a,b", "a:b", "\"a\"", "\u00e4", "\u212a", strings.Repeat("n", maxCookieName+1), strings.Repeat("n", 500)}
	for i := range 256 {
		c := string([]byte{byte(i)})
		if !strings.Contains(cookieNameBytes, c) {
			list = append(list, c, c+"a", "a"+c, "a"+c+"b")
		}
	}
	return list
}

func rightCookieValues() []string {
	list := []string{"", "=", "==", "a=b", "=a", "a=", "a=b=c", "!", "~", "#", "-", ":", "<", "[", "]", "Path=/x", "%22", cookieValueBytes, strings.Repeat("v", maxCookieValue-1), strings.Repeat("v", maxCookieValue), strings.Repeat("=", maxCookieValue)}
	for i := range len(cookieValueBytes) {
		list = append(list, cookieValueBytes[i:i+1], "a"+cookieValueBytes[i:i+1]+"b")
	}
	return list
}

func wrongCookieValues() []string {
	list := []string{" ", "\"", ",", ";", "\\", "\"v\"", "a b", " a", "a ", "\ta", "a\t", "a,b", "a;b", "a\\b", "a\r\nb", "v\n", "\u00e4", "\u00a0", strings.Repeat("v", maxCookieValue+1), strings.Repeat("v", maxCookieValue) + " ", strings.Repeat("=", 5000)}
	for i := range 256 {
		c := string([]byte{byte(i)})
		if !strings.Contains(cookieValueBytes, c) {
			list = append(list, c, c+"a", "a"+c, "a"+c+"b")
		}
	}
	return list
}

func rightCookies() []impl.Cookie {
	list := []impl.Cookie{
		{Name: "sso", Value: "a=b", Domain: "one.example", Path: "/app", Until: 100},
		{Name: "path", Value: "domain=x", Domain: "a", Only: true, Path: "/max-age", Until: 0},
		{Name: strings.Repeat("n", maxCookieName), Value: strings.Repeat("v", maxCookieValue), Domain: strings.Repeat("h", maxHost), Path: "/" + strings.Repeat("p", maxPathRest), Until: lastTime},
	}
	for _, name := range rightCookieNames() {
		list = append(list, cookieOf(name, "v"))
	}
	for _, value := range rightCookieValues() {
		list = append(list, cookieOf("n", value))
	}
	for _, host := range rightHosts() {
		list = append(list, cookieFor(host, false), cookieFor(host, true))
	}
	for _, path := range rightPaths() {
		list = append(list, cookieUnder(path))
	}
	for _, until := range append(rightTimes(), -1) {
		list = append(list, cookieUntil(until))
	}
	return list
}

func wrongCookies() []impl.Cookie {
	list := []impl.Cookie{{}, {Until: -1}, {Name: "n"}, {Name: "n", Domain: "a"}, {Name: "n", Path: "/"}, {Domain: "a", Path: "/"}, {Value: "v", Domain: "a", Path: "/", Only: true, Until: -1}}
	for _, name := range wrongCookieNames() {
		list = append(list, cookieOf(name, "v"))
	}
	for _, value := range wrongCookieValues() {
		list = append(list, cookieOf("n", value))
	}
	for _, host := range wrongHosts() {
		list = append(list, cookieFor(host, false), cookieFor(host, true))
	}
	for _, path := range wrongPaths() {
		list = append(list, cookieUnder(path))
	}
	for _, until := range wrongTimes() {
		if until != -1 {
			list = append(list, cookieUntil(until))
		}
	}
	return list
}

func TestHostOk(t *testing.T) {
	for _, s := range rightHosts() {
		if !impl.HostOk(s) {
			t.Errorf("HostOk rejects %q", s)
		}
	}
	for _, s := range wrongHosts() {
		if impl.HostOk(s) {
			t.Errorf("HostOk accepts %q", s)
		}
	}
}

func TestHostOkOfEachLength(t *testing.T) {
	for n := range 200 {
		if got := impl.HostOk(strings.Repeat("h", n)); got != (n > 0 && n <= maxHost) {
			t.Errorf("HostOk of a label of %d bytes = %v", n, got)
		}
		if got := impl.HostOk(strings.Repeat("h.", n)[:max(2*n-1, 0)]); got != (n > 0 && 2*n-1 <= maxHost) {
			t.Errorf("HostOk of %d labels = %v", n, got)
		}
		if got := impl.HostOk("ab" + strings.Repeat(".h", n)); got != (2+2*n <= maxHost) {
			t.Errorf("HostOk of %d bytes = %v", 2+2*n, got)
		}
	}
}

// cookieForms tells by regular expressions what the document requires.
type cookieForms struct{ host, path, name, value, ends, pathPart, domainPart, agePart *regexp.Regexp }

func newCookieForms() cookieForms {
	const path = `/[A-Za-z0-9._/-]{0,60}`
	return cookieForms{
		host:       regexp.MustCompile(`\A[a-z0-9-]+(\.[a-z0-9-]+)*\z`),
		path:       regexp.MustCompile(`\A` + path + `\z`),
		name:       regexp.MustCompile(`\A[A-Za-z0-9_-]{1,30}\z`),
		value:      regexp.MustCompile(`\A[!#-+\--:<-\[\]-~]{0,600}\z`),
		ends:       regexp.MustCompile(`\A[ \t]*|[ \t]*\z`),
		pathPart:   regexp.MustCompile(`\A[Pp][Aa][Tt][Hh]=(` + path + `)\z`),
		domainPart: regexp.MustCompile(`(?s)\A[Dd][Oo][Mm][Aa][Ii][Nn](?:=\.?(.*))?\z`),
		agePart:    regexp.MustCompile(`(?s)\A[Mm][Aa][Xx]-[Aa][Gg][Ee]=(?:(0|[1-9][0-9]{0,11})|-.*)\z`),
	}
}

func (f cookieForms) isHost(s string) bool { return len(s) <= maxHost && f.host.MatchString(s) }

func (f cookieForms) isTime(n int) bool { return n >= 0 && n <= lastTime }

func (f cookieForms) isCookie(c impl.Cookie) bool {
	return f.name.MatchString(c.Name) && f.value.MatchString(c.Value) && f.isHost(c.Domain) && f.path.MatchString(c.Path) && (c.Until == -1 || f.isTime(c.Until))
}

// matches compares whole labels, from the last one on.
func (f cookieForms) matches(host string, domain string) bool {
	a, b := strings.Split(host, "."), strings.Split(domain, ".")
	return f.isHost(host) && f.isHost(domain) && len(a) >= len(b) && slices.Equal(a[len(a)-len(b):], b)
}

func (f cookieForms) pathMatches(path string, under string) bool {
	inside := strings.HasPrefix(path, strings.TrimSuffix(under, "/")+"/")
	return f.path.MatchString(path) && f.path.MatchString(under) && (path == under || inside)
}

func (f cookieForms) parts(s string) []string {
	parts := strings.Split(s, ";")
	for i, part := range parts {
		parts[i] = f.ends.ReplaceAllString(part, "")
	}
	return parts
}

// last returns what the form finds in the last of the parts that it fits.
func last(parts []string, form *regexp.Regexp) (string, bool) {
	for _, part := range slices.Backward(parts) {
		if found := form.FindStringSubmatch(part); found != nil {
			return found[1], true
		}
	}
	return "", false
}

func (f cookieForms) set(s string, host string, now int) (impl.Cookie, bool) {
	parts := f.parts(s)
	name, value, found := strings.Cut(parts[0], "=")
	c := impl.Cookie{Name: name, Value: value, Domain: host, Only: true, Path: "/", Until: -1}
	if path, stated := last(parts[1:], f.pathPart); stated {
		c.Path = path
	}
	if domain, stated := last(parts[1:], f.domainPart); stated {
		c.Domain, c.Only = regexp.MustCompile("[A-Z]").ReplaceAllStringFunc(domain, strings.ToLower), false
	}
	if digits, stated := last(parts[1:], f.agePart); stated {
		age, _ := strconv.Atoi(digits)
		c.Until = now + age
	}
	if !found || !f.isTime(now) || !f.isCookie(c) || !f.matches(host, c.Domain) {
		return impl.Cookie{}, false
	}
	return c, true
}

func (f cookieForms) cookies(s string) []impl.Pair {
	var list []impl.Pair
	for _, part := range f.parts(s) {
		name, value, found := strings.Cut(part, "=")
		if found && f.name.MatchString(name) && f.value.MatchString(value) {
			list = append(list, impl.Pair{Key: name, Value: value})
		}
	}
	return list[:min(len(list), maxCookies)]
}

func checkHost(t *testing.T, f cookieForms, s string) {
	t.Helper()
	if got := impl.HostOk(s); got != f.isHost(s) {
		t.Errorf("HostOk(%q) = %v", s, got)
	}
}

func TestHostOkOfAllShortTexts(t *testing.T) {
	forms := newCookieForms()
	for _, s := range stringsOver("az9-.A_", 5) {
		checkHost(t, forms, s)
		checkHost(t, forms, "x."+s+".y")
	}
	for _, s := range []string{"a-1.b2.c", "z", strings.Repeat("h", maxHost), strings.Repeat("a.b", 20)} {
		changesOf(s, func(changed string) { checkHost(t, forms, changed) })
	}
}

func TestCookieOk(t *testing.T) {
	for _, c := range rightCookies() {
		if !impl.CookieOk(c) {
			t.Errorf("CookieOk rejects %+v", c)
		}
		c.Only = !c.Only
		if !impl.CookieOk(c) {
			t.Errorf("CookieOk rejects %+v", c)
		}
	}
	for _, c := range wrongCookies() {
		if impl.CookieOk(c) {
			t.Errorf("CookieOk accepts %+v", c)
		}
	}
}

func TestCookiesOfEveryByte(t *testing.T) {
	for i := range 256 {
		c := string([]byte{byte(i)})
		for _, row := range []struct {
			what  string
			bytes string
			of    func(string) impl.Cookie
		}{
			{"Name", cookieNameBytes, func(s string) impl.Cookie { return cookieOf(s, "v") }},
			{"Value", cookieValueBytes, func(s string) impl.Cookie { return cookieOf("n", s) }},
			{"Domain", hostBytes, func(s string) impl.Cookie { return cookieFor(s, i%2 == 0) }},
			{"Path", pathBytes, func(s string) impl.Cookie { return cookieUnder("/" + s) }},
		} {
			want := strings.Contains(row.bytes, c)
			for _, s := range []string{c, c + "x", "x" + c, "xy" + c + "z"} {
				if c == "." && s == "xy.z" {
					continue
				}
				if got := impl.CookieOk(row.of(s)); got != want {
					t.Errorf("CookieOk of %q in the %s = %v", s, row.what, got)
				}
			}
		}
	}
}

func TestCookiesOfEachSize(t *testing.T) {
	check := func(what string, n int, c impl.Cookie, want bool) {
		t.Helper()
		if got := impl.CookieOk(c); got != want || (impl.PutSet(c, 50) != "") != want {
			t.Errorf("CookieOk with %d bytes of %s = %v", n, what, got)
		}
		if want {
			checkSet(t, c, 50)
		}
	}
	for n := range 100 {
		check("Name", n, cookieOf(strings.Repeat("n", n), "v"), n > 0 && n <= maxCookieName)
		check("Domain", n, cookieFor(strings.Repeat("h", n), n%2 == 0), n > 0 && n <= maxHost)
		check("Path", n, cookieUnder(strings.Repeat("/", n)), n > 0 && n <= maxPathRest+1)
	}
	for _, n := range []int{0, 1, 2, 599, 600, 601, 602, 1000, 4000, 8000} {
		check("Value", n, cookieOf("n", strings.Repeat("v", n)), n <= maxCookieValue)
	}
}

func TestDomainMatch(t *testing.T) {
	longest := strings.Repeat("a.", 29) + "aa"
	for _, row := range []struct {
		host, domain string
		want         bool
	}{
		{"one.example", "one.example", true}, {"app.one.example", "one.example", true}, {"a.b.c.one.example", "one.example", true}, {"one.example", "example", true}, {"a.a", "a", true}, {"-.-", "-", true},
		{"one.one.example", "one.example", true}, {"one.example.one.example", "one.example", true}, {"a.a.a", "a.a", true}, {longest, "aa", true}, {longest, "a.aa", true}, {longest, longest, true},
		{"xone.example", "one.example", false}, {"-one.example", "one.example", false}, {"aa", "a", false}, {"b.aa", "a", false}, {"app.one.example", "ne.example", false}, {"one-example", "example", false},
		{"one.example", "app.one.example", false}, {"example", "one.example", false}, {"a", "a.a", false}, {"one.example", "two.example", false}, {"one.example", "one", false}, {"one.example.two", "one.example", false},
		{"one.example", "one.exampl", false}, {"one.exampl", "one.example", false}, {"a.b", "b.a", false}, {"a.c.b", "a.b", false}, {"one.example", "one", false},
		{"one.example", ".example", false}, {"one.example", ".one.example", false}, {"app.one.example", ".one.example", false}, {"one.example", "", false}, {"one.example", ".", false}, {"one.example.", "", false},
		{"", "", false}, {"", "a", false}, {"a", "", false}, {".a", "a", false}, {"..a", "a", false}, {"b..a", "a", false}, {"A.a", "a", false}, {"B_b.a", "a", false}, {" .a", "a", false}, {"a.A", "A", false}, {"a.A", "a", false},
		{"one.example", "ONE.example", false}, {"ONE.example", "one.example", false}, {"ONE.example", "ONE.example", false}, {"one.example.", "one.example.", false}, {"a.b.", "b.", false}, {"a.b", "b.", false},
		{"b." + strings.Repeat("h", 58), strings.Repeat("h", 58), true}, {"b." + strings.Repeat("h", 59), strings.Repeat("h", 59), false}, {"a." + longest, longest, false},
		{strings.Repeat("h", maxHost+1), strings.Repeat("h", maxHost+1), false}, {"b.\xff", "\xff", false}, {"\xff.a", "a", false}, {"a", "\x00", false},
	} {
		if got := impl.DomainMatch(row.host, row.domain); got != row.want {
			t.Errorf("DomainMatch(%q, %q) = %v", row.host, row.domain, got)
		}
	}
}

func TestAHostMatchesItselfAndItsParents(t *testing.T) {
	for _, host := range rightHosts() {
		if impl.DomainMatch(host, "") || impl.DomainMatch("", host) || impl.DomainMatch(host, "x"+host) || impl.DomainMatch("x"+host, host) {
			t.Errorf("DomainMatch of %q with what is no parent", host)
		}
		for parent, more := host, true; more; _, parent, more = strings.Cut(parent, ".") {
			if !impl.DomainMatch(host, parent) || parent != host && impl.DomainMatch(parent, host) {
				t.Errorf("DomainMatch of %q and its parent %q", host, parent)
			}
		}
	}
	for _, host := range wrongHosts() {
		if impl.DomainMatch(host, host) || impl.DomainMatch("a."+host, host) || impl.DomainMatch(host+".a", "a") || impl.DomainMatch("a", host) {
			t.Errorf("DomainMatch of %q, which is no host", host)
		}
	}
}

func TestDomainMatchOfAllShortTexts(t *testing.T) {
	forms := newCookieForms()
	texts := stringsOver("ab.", 5)
	for _, host := range texts {
		for _, domain := range texts {
			if got := impl.DomainMatch(host, domain); got != forms.matches(host, domain) {
				t.Errorf("DomainMatch(%q, %q) = %v", host, domain, got)
			}
		}
	}
}

func TestPathMatch(t *testing.T) {
	longest := "/" + strings.Repeat("p", maxPathRest)
	for _, row := range []struct {
		path, under string
		want        bool
	}{
		{"/", "/", true}, {"/app", "/app", true}, {"/app/", "/app/", true}, {"/app/x", "/app", true}, {"/app/", "/app", true}, {"/app/x/y", "/app", true}, {"/app/x", "/app/", true}, {"/x", "/", true}, {"//", "/", true},
		{"/app//x", "/app", true}, {"/app//x", "/app/", true}, {"/app//", "/app/", true}, {"/a.b/c", "/a.b", true}, {longest, longest, true}, {longest, "/", true}, {"/app/../x", "/app", true}, {"/./x", "/.", true},
		{"/application", "/app", false}, {"/app.x", "/app", false}, {"/app-x", "/app", false}, {"/app_/x", "/app", false}, {"/app", "/app/", false}, {"/app", "/app/x", false}, {"/", "/app", false}, {"/", "//", false}, {"/x", "//", false},
		{"/app", "/x", false}, {"/x/app", "/app", false}, {"/App", "/app", false}, {"/app/x", "/app/y", false}, {"/app/x", "/ap", false}, {"/app/x", "/app/xx", false}, {longest, longest[:60], false},
		{"x", "/", false}, {"", "", false}, {"", "/", false}, {"/", "", false}, {"/x", "", false}, {"x", "x", false}, {"x/y", "x", false}, {"/x?", "/", false}, {"/x y", "/", false}, {"/ ", "/ ", false}, {"/x/\xff", "/x", false},
		{"/x?/y", "/x?", false}, {"/x/y", "/x?", false}, {"/\x00", "/\x00", false}, {longest + "p", longest + "p", false}, {longest + "p", "/", false}, {longest + "/", longest, false}, {"/" + longest, "/", false},
	} {
		if got := impl.PathMatch(row.path, row.under); got != row.want {
			t.Errorf("PathMatch(%q, %q) = %v", row.path, row.under, got)
		}
	}
	for _, path := range rightPaths() {
		if !impl.PathMatch(path, path) || !impl.PathMatch(path, "/") || impl.PathMatch(path, "") || impl.PathMatch("", path) {
			t.Errorf("PathMatch of %q", path)
		}
	}
	for _, path := range wrongPaths() {
		if impl.PathMatch(path, path) || impl.PathMatch(path, "/") || impl.PathMatch("/", path) || impl.PathMatch(path+"/x", path) || impl.PathMatch("/x", path) {
			t.Errorf("PathMatch of %q, which is no path", path)
		}
	}
}

func TestPathMatchOfAllShortTexts(t *testing.T) {
	forms := newCookieForms()
	texts := stringsOver("/a-?", 4)
	for _, path := range texts {
		for _, under := range texts {
			if got := impl.PathMatch(path, under); got != forms.pathMatches(path, under) {
				t.Errorf("PathMatch(%q, %q) = %v", path, under, got)
			}
		}
	}
}

func TestPutSet(t *testing.T) {
	for _, row := range []struct {
		c    impl.Cookie
		now  int
		want string
	}{
		{cookieOf("a", ""), 0, "a=; Path=/; Domain=one.example"},
		{cookieOf("a", "b=c"), lastTime, "a=b=c; Path=/; Domain=one.example"},
		{cookieFor("a", true), 50, "sso=v; Path=/"},
		{cookieFor("a.b", false), 50, "sso=v; Path=/; Domain=a.b"},
		{cookieUnder("/app/x.y"), 50, "sso=v; Path=/app/x.y; Domain=one.example"},
		{cookieUntil(0), 0, "sso=v; Path=/; Domain=one.example; Max-Age=0"},
		{cookieUntil(0), 1, "sso=v; Path=/; Domain=one.example; Max-Age=0"},
		{cookieUntil(50), 49, "sso=v; Path=/; Domain=one.example; Max-Age=1"},
		{cookieUntil(50), 50, "sso=v; Path=/; Domain=one.example; Max-Age=0"},
		{cookieUntil(50), 51, "sso=v; Path=/; Domain=one.example; Max-Age=0"},
		{cookieUntil(0), lastTime, "sso=v; Path=/; Domain=one.example; Max-Age=0"},
		{cookieUntil(lastTime), 0, "sso=v; Path=/; Domain=one.example; Max-Age=999999999999"},
		{cookieUntil(lastTime), lastTime, "sso=v; Path=/; Domain=one.example; Max-Age=0"},
		{impl.Cookie{Name: "A_-9", Value: "~", Domain: "a", Only: true, Path: "/p", Until: 1000}, 10, "A_-9=~; Path=/p; Max-Age=990"},
		{impl.Cookie{Name: "A", Value: "!", Domain: "a", Only: false, Path: "/p/", Until: 60}, 50, "A=!; Path=/p/; Domain=a; Max-Age=10"},
	} {
		if got := impl.PutSet(row.c, row.now); got != row.want {
			t.Errorf("PutSet(%+v, %d) = %q, want %q", row.c, row.now, got, row.want)
		}
	}
	for _, until := range append(rightTimes(), -1) {
		for _, now := range rightTimes() {
			want := "sso=v; Path=/; Domain=one.example"
			if until != -1 {
				want += fmt.Sprint("; Max-Age=", max(until-now, 0))
			}
			if got := impl.PutSet(cookieUntil(until), now); got != want {
				t.Errorf("PutSet with Until %d at %d = %q, want %q", until, now, got, want)
			}
		}
	}
}

func TestPutSetOfInvalidArguments(t *testing.T) {
	for _, c := range wrongCookies() {
		for _, now := range []int{0, 50, lastTime} {
			if got := impl.PutSet(c, now); got != "" {
				t.Errorf("PutSet(%+v, %d) = %q", c, now, got)
			}
		}
	}
	for _, now := range wrongTimes() {
		for _, c := range []impl.Cookie{cookieOf("a", "b"), cookieFor("a", true), cookieUntil(0), cookieUntil(50), cookieUntil(lastTime), {}} {
			if got := impl.PutSet(c, now); got != "" {
				t.Errorf("PutSet(%+v, %d) = %q", c, now, got)
			}
		}
	}
}

func checkGetSet(t *testing.T, s string, host string, now int, want impl.Cookie, wantOk bool) {
	t.Helper()
	if got, ok := impl.GetSet(s, host, now); ok != wantOk || got != want {
		t.Errorf("GetSet(%q, %q, %d) = %+v, %v, want %+v, %v", s, host, now, got, ok, want, wantOk)
	}
}

func checkNoSet(t *testing.T, s string, host string, now int) {
	t.Helper()
	checkGetSet(t, s, host, now, impl.Cookie{}, false)
}

// checkSet checks that a valid cookie is recovered from its Set-Cookie value
// by the hosts that may set it. One that is over at now is over when it is
// read, too.
func checkSet(t *testing.T, c impl.Cookie, now int) {
	t.Helper()
	s := impl.PutSet(c, now)
	if !impl.CookieOk(c) || s == "" {
		t.Errorf("CookieOk rejects %+v, or it has no Set-Cookie value: %q", c, s)
	}
	want := c
	if c.Until != -1 {
		want.Until = max(c.Until, now)
	}
	checkGetSet(t, s, c.Domain, now, want, true)
	for _, host := range []string{"x." + c.Domain, "a-1.b." + c.Domain} {
		if len(host) > maxHost {
			checkNoSet(t, s, host, now)
		} else if c.Only {
			its := want
			its.Domain = host
			checkGetSet(t, s, host, now, its, true)
		} else {
			checkGetSet(t, s, host, now, want, true)
		}
	}
	for _, host := range []string{"", "x" + c.Domain, "x-" + c.Domain, c.Domain[1:], c.Domain + ".nowhere", "." + c.Domain, c.Domain + ".", strings.ToUpper(c.Domain) + ".A", "q"} {
		if !c.Only && host != c.Domain || !impl.HostOk(host) {
			checkNoSet(t, s, host, now)
		}
	}
}

func TestCookiesAreRecoveredFromSetCookie(t *testing.T) {
	for _, c := range rightCookies() {
		for _, now := range rightTimes() {
			checkSet(t, c, now)
		}
	}
}

func TestSetCookieReadLater(t *testing.T) {
	for _, until := range rightTimes() {
		for _, now := range rightTimes() {
			for _, later := range rightTimes() {
				want := cookieUntil(later + max(until-now, 0))
				s := impl.PutSet(cookieUntil(until), now)
				if want.Until > lastTime {
					checkNoSet(t, s, "one.example", later)
				} else {
					checkGetSet(t, s, "one.example", later, want, true)
				}
			}
		}
	}
}

func TestGetSetOfFirstParts(t *testing.T) {
	for _, row := range []struct{ s, name, value string }{
		{"a=b", "a", "b"}, {"a=", "a", ""}, {"a==", "a", "="}, {"a=b=c", "a", "b=c"}, {"a==b", "a", "=b"}, {"a=b=", "a", "b="}, {" a=b", "a", "b"}, {"a=b ", "a", "b"}, {"\ta=b\t", "a", "b"}, {" \t a=b\t  \t", "a", "b"}, {"a= ", "a", ""}, {"a=\t", "a", ""},
		{"path=/x", "path", "/x"}, {"domain=two.example", "domain", "two.example"}, {"max-age=5", "max-age", "5"}, {"Max-Age=-1", "Max-Age", "-1"}, {"secure=", "secure", ""}, {"A_-9=~", "A_-9", "~"},
	} {
		want := impl.Cookie{Name: row.name, Value: row.value, Domain: "one.example", Only: true, Path: "/", Until: -1}
		for _, rest := range []string{"", ";", " ; ", ";;", "; \t;", "; secure", ";a=c", "; name=x", ";=", ";=x", ";a=c; b=d"} {
			checkGetSet(t, row.s+rest, "one.example", 50, want, true)
		}
		want.Path = "/p"
		checkGetSet(t, row.s+";path=/p", "one.example", 50, want, true)
	}
	for _, s := range []string{"", " ", "\t", ";", ";;", "; ", "a", "a b", "=", "=b", " =b", "\t=b", "==b", "= =", "a =b", "a\t=b", "a= b", "a=\tb", "a =", "a b=c", "a=b c", "a=b\tc", "a;=b", "a;b=c", ";a=b", " ;a=b", "a:b", "a: b", "path", "secure",
		"\na=b", "a=b\n", "a=b\r", "\ra=b", "a=b\v", "\fa=b", "\u00a0a=b", "a=b\u00a0", "\x00a=b", "a=b\x00", "\u3000a=b", "\ufeffa=b", "a=\"b\"", "a=b,c", "a=b\\", "a.b=c", "a,b=c", "(a)=b", "Set-Cookie: a=b", "a=b\r\nc=d"} {
		for _, rest := range []string{"", ";", "; path=/p", "; a=b", ";a=b; c=d; domain=one.example", "; max-age=5"} {
			checkNoSet(t, s+rest, "one.example", 50)
		}
	}
}

func TestGetSetOfNamesAndValues(t *testing.T) {
	for _, name := range rightCookieNames() {
		checkGetSet(t, name+"=v; domain=one.example", "one.example", 50, cookieOf(name, "v"), true)
	}
	for _, value := range rightCookieValues() {
		checkGetSet(t, " n="+value+"\t;domain=one.example", "one.example", 50, cookieOf("n", value), true)
	}
	for _, name := range wrongCookieNames() {
		if strings.Trim(name, " \t") == name && !strings.ContainsAny(name, ";=") {
			checkNoSet(t, name+"=v; domain=one.example", "one.example", 50)
		}
	}
	for _, value := range wrongCookieValues() {
		if strings.Trim(value, " \t") == value && !strings.Contains(value, ";") {
			checkNoSet(t, "n="+value+"; domain=one.example", "one.example", 50)
		}
	}
}

func TestGetSetOfPaths(t *testing.T) {
	for _, path := range rightPaths() {
		want := cookieUnder(path)
		want.Only = true
		for _, part := range []string{"path=" + path, "PATH=" + path, " \tpaTh=" + path + "\t "} {
			checkGetSet(t, "sso=v;"+part, "one.example", 50, want, true)
			checkGetSet(t, "sso=v; path=/first;"+part+"; path=x; Path=; path", "one.example", 50, want, true)
		}
	}
	for _, path := range append(wrongPaths(), "=/x", "\"/x\"", " /x", "\t/x", "/x=", "/x y") {
		if strings.Contains(path, ";") || strings.Trim(path, " \t") != path && impl.CookieOk(cookieUnder(strings.Trim(path, " \t"))) && path[0] == '/' {
			continue
		}
		want := cookieFor("one.example", true)
		checkGetSet(t, "sso=v; path="+path, "one.example", 50, want, true)
		want.Path = "/set"
		checkGetSet(t, "sso=v; path=/set; path="+path, "one.example", 50, want, true)
		checkGetSet(t, "sso=v; path="+path+"; path=/set", "one.example", 50, want, true)
	}
}

func TestGetSetOfDomains(t *testing.T) {
	for _, domain := range []string{"one.example", ".one.example", "ONE.example", ".One.eXAMPLE", "oNE.EXAMPLE"} {
		for _, host := range []string{"one.example", "app.one.example", "a.b.one.example", "one.one.example"} {
			checkGetSet(t, "sso=v; domain="+domain, host, 50, cookieFor("one.example", false), true)
			checkGetSet(t, "sso=v;DOMAIN="+domain+"\t; secure", host, 50, cookieFor("one.example", false), true)
		}
		for _, host := range []string{"example", "xone.example", "two.example", "one.example.x", "", "ONE.example", ".one.example", "one.example.", "a..one.example", "A.one.example", "_.one.example"} {
			checkNoSet(t, "sso=v; domain="+domain, host, 50)
		}
	}
	for _, part := range []string{"domain=", "domain", "domain=.", "domain=..", "domain=..one.example", "domain=...one.example", "domain=.one.example.", "domain=one.example.", "domain=one..example", "domain= one.example", "domain=\tone.example",
		"domain=. one.example", "domain==one.example", "domain=one.example=", "domain=\"one.example\"", "domain=one.example:80", "domain=*.one.example", "domain=one_example", "domain=one.example/", "domain=https://one.example", "domain=two.example",
		"domain=app.one.example", "domain=xone.example", "domain=ne.example", "domain=one", "domain=one.exampl", "domain=one.example\n", "domain=one.example\x00", "domain=\xff", "domain=one.\u00e9xample", "domain=" + strings.Repeat("h", 61)} {
		checkNoSet(t, "sso=v; "+part, "one.example", 50)
		checkNoSet(t, "sso=v; domain=one.example; "+part, "one.example", 50)
		checkGetSet(t, "sso=v; "+part+"; domain=one.example", "one.example", 50, cookieFor("one.example", false), true)
		checkGetSet(t, "sso=v; "+part+";"+part+"; Domain=.example ;path=x", "one.example", 50, cookieFor("example", false), true)
	}
	checkGetSet(t, "sso=v; domain=example; domain=one.example", "one.example", 50, cookieFor("one.example", false), true)
	checkGetSet(t, "sso=v; domain=one.example; domain=example", "one.example", 50, cookieFor("example", false), true)
}

// Only the letters A to Z become lower case.
func TestGetSetOfForeignLetters(t *testing.T) {
	for _, domain := range []string{"\u212a.example", "\u0130.example", "\u017f.example", "\uff21.example", "\u00c4.example"} {
		for _, host := range []string{"k.example", "i.example", "s.example", "a.example", "\u00e4.example", strings.ToLower(domain), domain} {
			checkNoSet(t, "sso=v; domain="+domain, host, 50)
			checkNoSet(t, "sso=v; domain=."+domain, host, 50)
		}
	}
	for _, part := range []string{"pat\u04bb=/p", "dom\u0430in=two.example", "max\u2010age=5", "m\u00e5x-age=5", "doma\u0131n=x", "doma\u0130n=x", "\uff30ath=/p"} {
		checkGetSet(t, "sso=v; "+part, "one.example", 50, cookieFor("one.example", true), true)
	}
}

func TestGetSetOfHosts(t *testing.T) {
	for _, host := range rightHosts() {
		checkGetSet(t, "sso=v", host, 50, cookieFor(host, true), true)
		checkGetSet(t, "sso=v; domain=."+host, host, 50, cookieFor(host, false), true)
		for parent, more := host, true; more; _, parent, more = strings.Cut(parent, ".") {
			checkGetSet(t, "sso=v; domain="+strings.ToUpper(parent), host, 50, cookieFor(parent, false), true)
		}
	}
	for _, host := range wrongHosts() {
		checkNoSet(t, "sso=v", host, 50)
		checkNoSet(t, "sso=v; domain="+host, host, 50)
		checkNoSet(t, "sso=v; domain=one.example", host, 50)
		checkNoSet(t, "sso=v; domain=a", host+".a", 50)
		checkNoSet(t, "sso=v; domain=a", host, 50)
	}
}

func TestGetSetOfAges(t *testing.T) {
	set := func(until int) impl.Cookie {
		c := cookieUntil(until)
		c.Only = true
		return c
	}
	for _, now := range rightTimes() {
		for _, age := range append(rightTimes(), 2, 3, 9, 10, 100) {
			part := fmt.Sprint("; max-age=", age)
			if now+age > lastTime {
				checkNoSet(t, "sso=v"+part, "one.example", now)
				checkNoSet(t, "sso=v; max-age=0"+part, "one.example", now)
				checkNoSet(t, "sso=v"+part+"; max-age=x", "one.example", now)
				checkGetSet(t, "sso=v"+part+"; max-age=0", "one.example", now, set(now), true)
				checkGetSet(t, "sso=v"+part+"; max-age=-5", "one.example", now, set(now), true)
				continue
			}
			checkGetSet(t, "sso=v"+part, "one.example", now, set(now+age), true)
			checkGetSet(t, "sso=v; max-age=0"+part+"; max-age=; max-age", "one.example", now, set(now+age), true)
			checkGetSet(t, "sso=v; max-age=-1"+strings.ToUpper(part), "one.example", now, set(now+age), true)
			checkGetSet(t, "sso=v"+part+"; max-age=-1", "one.example", now, set(now), true)
		}
		for _, age := range []string{"-", "--", "-0", "-1", "-5", "-x", "- 5", "-1000000000000", "-\xff", "-=", "-1=5", "-" + strings.Repeat("9", 100)} {
			checkGetSet(t, "sso=v; max-age="+age, "one.example", now, set(now), true)
			checkGetSet(t, "sso=v; max-age=0; MAX-AGE="+age+" ", "one.example", now, set(now), true)
			checkGetSet(t, "sso=v; max-age=999999999999; max-age="+age, "one.example", now, set(now), true)
		}
		for _, age := range []string{"", "x", "y5", "5y", "05", "00", "+5", "5.0", "5e1", "0x5", " 5", "\t5", " -5", "=5", "=-5", "5=", "\"5\"", "\"-5\"", "\xff", "5\x00", "5\n", "\u0665", "\u22125", "\u20135", "1000000000000", "0000000000000", "18446744073709551621", strings.Repeat("9", 100), "5 5", "5,5"} {
			checkGetSet(t, "sso=v; max-age="+age, "one.example", now, set(-1), true)
			checkGetSet(t, "sso=v; max-age="+age+";max-age=-1;max-age="+age, "one.example", now, set(now), true)
			checkGetSet(t, "sso=v; max-age=0; max-age="+age, "one.example", now, set(now), true)
		}
	}
}

func TestGetSetOfWrongTimes(t *testing.T) {
	for _, now := range wrongTimes() {
		for _, s := range []string{"sso=v", "sso=v; max-age=0", "sso=v; max-age=1", "sso=v; max-age=2", "sso=v; max-age=50", "sso=v; max-age=-1", "sso=v; max-age=999999999999", "sso=v; domain=one.example; path=/p", "sso", ""} {
			checkNoSet(t, s, "one.example", now)
		}
	}
}

// caseForms returns the text in all mixtures of upper and lower case.
func caseForms(s string) []string {
	list := []string{""}
	for i := range len(s) {
		var longer []string
		for _, start := range list {
			longer = append(longer, start+strings.ToLower(s[i:i+1]))
			if upper := strings.ToUpper(s[i : i+1]); upper != s[i:i+1] {
				longer = append(longer, start+upper)
			}
		}
		list = longer
	}
	return list
}

func TestGetSetOfAttributeNames(t *testing.T) {
	base := impl.Cookie{Name: "a", Value: "b", Domain: "app.one.example", Only: true, Path: "/", Until: -1}
	for _, row := range []struct {
		name, text string
		want       impl.Cookie
	}{
		{"path", "/p", impl.Cookie{Name: "a", Value: "b", Domain: "app.one.example", Only: true, Path: "/p", Until: -1}},
		{"domain", "one.example", impl.Cookie{Name: "a", Value: "b", Domain: "one.example", Path: "/", Until: -1}},
		{"max-age", "5", impl.Cookie{Name: "a", Value: "b", Domain: "app.one.example", Only: true, Path: "/", Until: 55}},
	} {
		for _, name := range caseForms(row.name) {
			for _, blank := range []string{"", " ", "\t", " \t "} {
				checkGetSet(t, "a=b;"+blank+name+"="+row.text+blank, "app.one.example", 50, row.want, true)
			}
		}
		for _, name := range []string{row.name + " ", row.name + "\t", row.name + "s", "x" + row.name, row.name[1:], row.name[:len(row.name)-1], "\v" + row.name, row.name + "\n", "\"" + row.name + "\"", row.name + ":", "=" + row.name, row.name + "\x00", "-" + row.name,
			"", "expires", "secure", "httponly", "samesite", "max_age", "maxage", "max age", "only", "until", "name", "value", "a"} {
			checkGetSet(t, "a=b;"+name+"="+row.text, "app.one.example", 50, base, true)
			checkGetSet(t, "a=b; "+name+"="+row.text+";"+row.name+"="+row.text, "app.one.example", 50, row.want, true)
			checkGetSet(t, "a=b;"+row.name+"="+row.text+";\t"+name+"="+row.text, "app.one.example", 50, row.want, true)
		}
	}
}

func checkSetForm(t *testing.T, f cookieForms, s string, host string, now int) bool {
	t.Helper()
	want, ok := f.set(s, host, now)
	checkGetSet(t, s, host, now, want, ok)
	return ok
}

// All rows of up to three of these attributes, so that each occurs twice in
// each order, with others in between.
func TestGetSetOfRepeatedAttributes(t *testing.T) {
	forms := newCookieForms()
	attributes := []string{"path=/p", "Path=/q", "path=x", "path=", "path", "domain=one.example", "DOMAIN=.Example", "domain=..example", "domain=app.one.example", "domain=two.example", "domain=", "domain",
		"max-age=5", "Max-Age=0", "max-age=-7", "max-age=05", "max-age=999999999999", "max-age=999999999949", "max-age=1000000000000", "max-age=", "max-age", "secure", "", "=", "a=c"}
	accepted, refused := 0, 0
	count := func(s string) {
		if checkSetForm(t, forms, s, "app.one.example", 50) {
			accepted++
		} else {
			refused++
		}
	}
	for _, one := range attributes {
		count("a=b;" + one)
		for _, two := range attributes {
			count("a=b; " + one + ";" + two)
			for _, three := range attributes {
				count("a=b; " + one + "; " + two + " ;" + three)
			}
		}
	}
	if accepted < 1000 || refused < 1000 {
		t.Errorf("%d values are accepted and %d are not", accepted, refused)
	}
}

func TestGetSetOfChangedTexts(t *testing.T) {
	forms := newCookieForms()
	accepted, refused := 0, 0
	for _, row := range []struct {
		s, host string
		now     int
	}{
		{"sso=a=b; Path=/app; Domain=one.example; Max-Age=60", "app.one.example", 40},
		{" n=v ;domain=.ONE;MAX-AGE=-1;path=/x/;path=y", "a.one", 0},
		{"a=;max-age=9;max-age=8;path=/;domain=b;domain=a", "a", lastTime - 10},
	} {
		changesOf(row.s, func(changed string) {
			if checkSetForm(t, forms, changed, row.host, row.now) {
				accepted++
			} else {
				refused++
			}
		})
		changesOf(row.host, func(changed string) { checkSetForm(t, forms, row.s, changed, row.now) })
	}
	if accepted < 1000 || refused < 1000 {
		t.Errorf("%d changed texts are accepted and %d are not", accepted, refused)
	}
}

func TestGetSetOfAllShortTexts(t *testing.T) {
	forms := newCookieForms()
	for _, s := range stringsOver("a=; \t\"", 6) {
		checkSetForm(t, forms, s, "a.b", 50)
	}
	for _, s := range stringsOver("=;. /-5b", 4) {
		for _, whole := range []string{"a=b;path" + s, "a=b;domain" + s, "a=b;max-age" + s, "a=b;path=/" + s, "a=b;domain=.b" + s, "a=b;max-age=" + s, "a=b" + s + "path=/p" + s} {
			checkSetForm(t, forms, whole, "a.b", 50)
		}
	}
}

func TestPutCookies(t *testing.T) {
	for _, row := range []struct {
		list []impl.Pair
		want string
	}{
		{nil, ""}, {[]impl.Pair{}, ""}, {pairsOf("a", "b"), "a=b"}, {pairsOf("a", ""), "a="}, {pairsOf("a", "b", "c", "d"), "a=b; c=d"}, {pairsOf("c", "d", "a", "b"), "c=d; a=b"}, {pairsOf("a", "1", "a", "1", "a", "2"), "a=1; a=1; a=2"},
		{pairsOf("a", "b=c"), "a=b=c"}, {pairsOf("", ""), "="}, {pairsOf("", "", "", ""), "=; ="}, {pairsOf("", "b"), "=b"}, {pairsOf("a b", "c;d"), "a b=c;d"}, {pairsOf("a;", "; "), "a;=; "}, {pairsOf("\"", "\\"), "\"=\\"},
		{pairsOf("\x00", "\xff", "\r\n", "\u00e4"), "\x00=\xff; \r\n=\u00e4"}, {pairsOf("=", "="), "==="},
	} {
		if got := impl.PutCookies(row.list); got != row.want {
			t.Errorf("PutCookies(%q) = %q, want %q", row.list, got, row.want)
		}
	}
	for _, n := range []int{1, 2, 29, 30, 31, 32, 100} {
		if got := impl.PutCookies(samePairs(n, "k", "v")); got != strings.Repeat("k=v; ", n-1)+"k=v" {
			t.Errorf("PutCookies of %d pairs = %q", n, got)
		}
	}
	for _, s := range oddTexts() {
		if got := impl.PutCookies(pairsOf(s, s, "a", s)); got != s+"="+s+"; a="+s {
			t.Errorf("PutCookies of %q = %q", s, got)
		}
	}
}

func checkCookies(t *testing.T, s string, want []impl.Pair) {
	t.Helper()
	if got := impl.GetCookies(s); !slices.Equal(got, want) {
		t.Errorf("GetCookies(%q) = %q, want %q", s, got, want)
	}
}

func manyCookies(n int) []impl.Pair {
	var list []impl.Pair
	for i := range n {
		list = append(list, impl.Pair{Key: fmt.Sprint("c", i%7), Value: strings.Repeat("=v", i%4)})
	}
	return list
}

func TestCookiesAreRecoveredFromTheHeader(t *testing.T) {
	for n := range 100 {
		checkCookies(t, impl.PutCookies(manyCookies(n)), manyCookies(min(n, maxCookies)))
	}
	names, values := rightCookieNames(), rightCookieValues()
	for i := range max(len(names), len(values)) {
		name, value := names[i%len(names)], values[i%len(values)]
		for _, list := range [][]impl.Pair{pairsOf(name, value), pairsOf(name, value, name, value), pairsOf("a", "b", name, value, "c", ""), samePairs(maxCookies, name, value)} {
			checkCookies(t, impl.PutCookies(list), list)
		}
	}
}

func TestGetCookiesLeavesOutInvalidPairs(t *testing.T) {
	for _, name := range wrongCookieNames() {
		if strings.Trim(name, " \t") != name || strings.ContainsAny(name, ";=") {
			continue
		}
		checkCookies(t, name+"=v", nil)
		checkCookies(t, "a=b; "+name+"=v; c=d", pairsOf("a", "b", "c", "d"))
	}
	for _, value := range wrongCookieValues() {
		if strings.Trim(value, " \t") != value || strings.Contains(value, ";") {
			continue
		}
		checkCookies(t, "n="+value, nil)
		checkCookies(t, "a=b; n="+value+"; c=d", pairsOf("a", "b", "c", "d"))
	}
	for _, part := range []string{"", " ", "\t \t", "a", "sso", "a b", "=", "=v", "==", " = ", "a =b", "a\t=b", "a= b", "a=\tb", "a b=c", "a=b c", "a=\"b\"", "a=b,c", "\na=b", "a=b\r", "\u00a0a=b", "a=b\v", "\x00", "$.=1"} {
		checkCookies(t, part, nil)
		checkCookies(t, part+";"+part, nil)
		checkCookies(t, ";"+part+";x=y;"+part+"; x=z", pairsOf("x", "y", "x", "z"))
		checkCookies(t, strings.Repeat(part+";", 40)+"x=y", pairsOf("x", "y"))
		checkCookies(t, strings.Repeat(part+";x=y;", maxCookies)+"x=z", samePairs(maxCookies, "x", "y"))
		checkCookies(t, strings.Repeat(part+";", 100)+impl.PutCookies(manyCookies(maxCookies+1)), manyCookies(maxCookies))
	}
}

func TestGetCookies(t *testing.T) {
	for _, row := range []struct {
		s    string
		want []impl.Pair
	}{
		{"", nil}, {";", nil}, {";;", nil}, {"a=b", pairsOf("a", "b")}, {"a=b;", pairsOf("a", "b")}, {";a=b", pairsOf("a", "b")}, {" a=b ", pairsOf("a", "b")}, {"\ta=b\t", pairsOf("a", "b")}, {"a=b;c=d", pairsOf("a", "b", "c", "d")},
		{"a=b ; \tc=d", pairsOf("a", "b", "c", "d")}, {"a=b;;c=d;;", pairsOf("a", "b", "c", "d")}, {"a=b; a=c; a=b", pairsOf("a", "b", "a", "c", "a", "b")}, {"A=b; a=b", pairsOf("A", "b", "a", "b")}, {"a=;b=", pairsOf("a", "", "b", "")},
		{"a= ; b=\t", pairsOf("a", "", "b", "")}, {"a==;b=c=d;e==f", pairsOf("a", "=", "b", "c=d", "e", "=f")}, {"path=/; domain=x", pairsOf("path", "/", "domain", "x")}, {"a=b, c=d", nil}, {"a=b&c=d", pairsOf("a", "b&c=d")}, {"c; x y=1; d=e=f;g=\"h\"; i=", pairsOf("d", "e=f", "i", "")},
	} {
		checkCookies(t, row.s, row.want)
	}
}

func TestGetCookiesOfChangedTexts(t *testing.T) {
	forms := newCookieForms()
	counts := map[int]int{}
	for _, s := range []string{" a=b ;c; x y=1; d=e=f;g=\"h\"; i=", "a=b; c=d", "sso=1;\tsso=2 ;;=3", "a=" + strings.Repeat("v", 30) + ";" + strings.Repeat("n", maxCookieName) + "="} {
		changesOf(s, func(changed string) {
			want := forms.cookies(changed)
			counts[len(want)]++
			checkCookies(t, changed, want)
		})
	}
	for n := range 4 {
		if counts[n] < 100 {
			t.Errorf("only %d changed texts hold %d cookies", counts[n], n)
		}
	}
	for _, s := range stringsOver("a=; \t\"", 6) {
		checkCookies(t, s, forms.cookies(s))
	}
}

// Promise 21 for chapter 6: arguments stay as they are, spare capacity included, results are separate memory, and arguments beyond every limit return.
func TestCookieArgumentsStay(t *testing.T) {
	list := pairsOf("a", "b", "c", "", "a", "b", "spare", "room", "more", "room")
	before := slices.Clone(list)
	for n := range len(list) {
		impl.PutCookies(list[:n])
		if !slices.Equal(list, before) {
			t.Fatalf("the list became %q", list)
		}
	}
}

func TestCookiesAreNewMemory(t *testing.T) {
	const s = "a=b; c=d; e=f"
	want := pairsOf("a", "b", "c", "d", "e", "f")
	first := impl.GetCookies(s)
	second := impl.GetCookies(s)
	_ = append(first[:1], pairsOf("x", "y", "x", "y", "x", "y")...)
	first[0] = impl.Pair{}
	if !slices.Equal(second, want) || !slices.Equal(impl.GetCookies(s), want) {
		t.Errorf("a changed list shows in another one: %q", second)
	}
	c, _ := impl.GetSet("a=b; path=/p; domain=one.example; max-age=5", "one.example", 50)
	impl.GetSet("c=d; path=/q; domain=two.example; max-age=7", "two.example", 60)
	if again, _ := impl.GetSet("a=b", "one.example", 50); again != (impl.Cookie{Name: "a", Value: "b", Domain: "one.example", Only: true, Path: "/", Until: -1}) || c.Path != "/p" {
		t.Errorf("the attributes of one cookie show in another one: %+v, %+v", c, again)
	}
}

func TestLongCookiesReturn(t *testing.T) {
	const size = 30000
	const host = "one.example"
	forms := newCookieForms()
	for _, unit := range []string{"a", ".", "a.", "/", "/a", " ", "\t", ";", "=", "a=b;", " a=b ;", "; ", "path=/;", "domain=.;", "max-age=-;", "9", "-", "\x00", "\xff", "\u00e4"} {
		s := strings.Repeat(unit, size)
		if impl.HostOk(s) || impl.DomainMatch(s, s) || impl.DomainMatch(s, host) || impl.DomainMatch(host, s) || impl.PathMatch(s, s) || impl.PathMatch("/"+s, "/") || impl.PathMatch("/", s) {
			t.Errorf("%d times %q is a host or a path", size, unit)
		}
		for _, c := range []impl.Cookie{cookieOf(s, "v"), cookieOf("n", s), cookieFor(s, true), cookieUnder("/" + s)} {
			if impl.CookieOk(c) || impl.PutSet(c, 50) != "" {
				t.Errorf("a cookie with %d times %q is valid", size, unit)
			}
		}
		checkNoSet(t, "n=v", s, 50)
		for _, text := range []string{s, s + "=v", "n=v;" + s, "n=v; domain=" + s, "n=v; domain=" + s + "; domain=" + host, "n=v; path=" + s, "n=v; max-age=" + s, "n=v; max-age=-" + s} {
			checkSetForm(t, forms, text, host, 50)
		}
		checkCookies(t, s, forms.cookies(s))
		checkCookies(t, "x="+s+"; y=z", forms.cookies("x="+s+"; y=z"))
		if got := impl.PutCookies(samePairs(size, unit, "")); len(got) != size*(len(unit)+3)-2 {
			t.Errorf("PutCookies of %d pairs has %d bytes", size, len(got))
		}
	}
}
