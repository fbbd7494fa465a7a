package tests

import (
	"fmt"
	"math"
	"regexp"
	"slices"
	"strings"
	"testing"

	"loop.example/g00716/impl"
)

const maxJar = 40

func inSlot(name string, domain string, path string) impl.Cookie {
	return impl.Cookie{Name: name, Value: "v", Domain: domain, Path: path, Until: -1}
}

// named returns a cookie whose Value is its Name, so that its place shows in namesOf as well as in Show.
func named(name string, until int) impl.Cookie {
	return impl.Cookie{Name: name, Value: name, Domain: "one.example", Path: "/", Until: until}
}

func manyInJar(n int) []impl.Cookie {
	var jar []impl.Cookie
	for i := range n {
		jar = append(jar, named(fmt.Sprint("c", i), -1))
	}
	return jar
}

func namesOf(jar []impl.Cookie) string {
	var names []string
	for _, c := range jar {
		names = append(names, c.Name)
	}
	return strings.Join(names, " ")
}

// with returns a copy of jar in which the cookie at the given index is another one.
func with(jar []impl.Cookie, at int, c impl.Cookie) []impl.Cookie {
	jar = slices.Clone(jar)
	jar[at] = c
	return jar
}

// wrongJars holds one jar for each reason; the cookies of each would be shown to one.example if it were valid.
func wrongJars() [][]impl.Cookie {
	list := [][]impl.Cookie{
		{{}}, {named("a", -1), {}}, {{}, named("a", -1)}, {named("a", -1), named("a", -1)}, {named("a", -1), named("b", -1), named("a", -1)}, {named("a", -1), named("a", 100)}, {named("a", 10), named("a", 10)},
		{cookieOf("a", "1"), cookieOf("a", "2")}, {cookieFor("one.example", true), cookieFor("one.example", false)}, {named("a", -2)}, {named("a", lastTime+1)}, {named("b", -1), cookieOf("a b", "v")},
		manyInJar(maxJar + 1), manyInJar(maxJar + 2), manyInJar(100), append(manyInJar(maxJar), named("c0", -1)), append(manyInJar(maxJar), named("x", 10)), slices.Repeat([]impl.Cookie{named("a", -1)}, maxJar),
	}
	for _, at := range []int{0, 1, 20, 38, 39} {
		list = append(list, with(manyInJar(maxJar), at, impl.Cookie{}), with(manyInJar(maxJar), at, cookieOf("a", "\"")), with(manyInJar(maxJar), at, named("a", math.MinInt)))
		list = append(list, with(manyInJar(maxJar), at, named(fmt.Sprint("c", (at+7)%maxJar), 100)))
	}
	return list
}

// The rules of jars, without maps and heaps.

var setCookieKey = regexp.MustCompile(`\A[Ss][Ee][Tt]-[Cc][Oo][Oo][Kk][Ii][Ee]\z`)

func sameSlot(a impl.Cookie, b impl.Cookie) bool {
	return a.Name == b.Name && a.Domain == b.Domain && a.Path == b.Path
}

func isOver(c impl.Cookie, now int) bool { return c.Until != -1 && !(c.Until > now) }

func (f cookieForms) isJar(jar []impl.Cookie) bool {
	for i, c := range jar {
		if i >= maxJar || !f.isCookie(c) || slices.ContainsFunc(jar[:i], func(other impl.Cookie) bool { return sameSlot(c, other) }) {
			return false
		}
	}
	return true
}

func (f cookieForms) keep(jar []impl.Cookie, c impl.Cookie, now int) []impl.Cookie {
	if !f.isJar(jar) {
		return nil
	}
	if !f.isCookie(c) {
		return jar
	}
	kept := slices.DeleteFunc(slices.Clone(jar), func(old impl.Cookie) bool { return isOver(old, now) || sameSlot(c, old) })
	if !isOver(c, now) {
		kept = append(kept, c)
	}
	if len(kept) > maxJar {
		kept = kept[1:]
	}
	return kept
}

func (f cookieForms) keepAll(jar []impl.Cookie, r impl.Response, host string, now int) []impl.Cookie {
	if !f.isJar(jar) {
		return nil
	}
	for _, head := range r.Heads {
		if c, ok := f.set(head.Value, host, now); ok && setCookieKey.MatchString(head.Key) {
			jar = f.keep(jar, c, now)
		}
	}
	return jar
}

func (f cookieForms) show(jar []impl.Cookie, host string, path string, now int) string {
	if !f.isJar(jar) {
		return ""
	}
	var shown []string
	for n := maxPathRest + 1; n > 0; n-- {
		for _, c := range jar {
			meant := c.Only && c.Domain == host || !c.Only && f.matches(host, c.Domain)
			if len(c.Path) == n && meant && f.pathMatches(path, c.Path) && !isOver(c, now) {
				shown = append(shown, c.Name+"="+c.Value)
			}
		}
	}
	return strings.Join(shown, "; ")
}

func (f cookieForms) ask(jar []impl.Cookie, r impl.Request, host string, now int) impl.Request {
	asked := r
	asked.Heads = pairsOf("Host", host)
	if text := f.show(jar, host, r.Path, now); len(text) > 0 && len(text) < 901 {
		asked.Heads = pairsOf("Host", host, "Cookie", text)
	}
	asked.Heads = append(asked.Heads, r.Heads...)
	if !impl.RequestOk(asked) {
		return r
	}
	return asked
}

func checkJar(t *testing.T, f cookieForms, jar []impl.Cookie) {
	t.Helper()
	if got := impl.JarOk(jar); got != f.isJar(jar) {
		t.Errorf("JarOk(%+v) = %v", jar, got)
	}
}

func checkKeep(t *testing.T, f cookieForms, jar []impl.Cookie, c impl.Cookie, now int) []impl.Cookie {
	t.Helper()
	got := impl.Keep(jar, c, now)
	if want := f.keep(jar, c, now); !slices.Equal(got, want) {
		t.Errorf("Keep(%+v, %+v, %d) = %+v, want %+v", jar, c, now, got, want)
	}
	if !impl.JarOk(got) {
		t.Errorf("Keep(%+v, %+v, %d) is no jar: %+v", jar, c, now, got)
	}
	return got
}

func checkKeepAll(t *testing.T, f cookieForms, jar []impl.Cookie, heads []impl.Pair, host string, now int) []impl.Cookie {
	t.Helper()
	got := impl.KeepAll(jar, answerOf(200, heads, ""), host, now)
	if want := f.keepAll(jar, answerOf(200, heads, ""), host, now); !slices.Equal(got, want) {
		t.Errorf("KeepAll(%+v, %q, %q, %d) = %+v, want %+v", jar, heads, host, now, got, want)
	}
	if !impl.JarOk(got) {
		t.Errorf("KeepAll(%+v, %q, %q, %d) is no jar: %+v", jar, heads, host, now, got)
	}
	return got
}

func checkShow(t *testing.T, f cookieForms, jar []impl.Cookie, host string, path string, now int) string {
	t.Helper()
	got := impl.Show(jar, host, path, now)
	if want := f.show(jar, host, path, now); got != want {
		t.Errorf("Show(%+v, %q, %q, %d) = %q, want %q", jar, host, path, now, got, want)
	}
	return got
}

func checkAsk(t *testing.T, f cookieForms, jar []impl.Cookie, r impl.Request, host string, now int) impl.Request {
	t.Helper()
	got := impl.Ask(jar, r, host, now)
	if want := f.ask(jar, r, host, now); !sameRequest(got, want) {
		t.Errorf("Ask(%+v, %+v, %q, %d) = %+v, want %+v", jar, r, host, now, got, want)
	}
	return got
}

func TestJarOkOfEachSize(t *testing.T) {
	for _, n := range []int{0, 1, 2, 38, 39, 40, 41, 42, 80, 1000} {
		if got := impl.JarOk(manyInJar(n)); got != (n <= maxJar) {
			t.Errorf("JarOk of %d cookies = %v", n, got)
		}
	}
	if !impl.JarOk(nil) || !impl.JarOk([]impl.Cookie{}) || impl.MaxJar != maxJar {
		t.Error("an empty jar is not valid")
	}
}

func TestJarOkOfEachCookie(t *testing.T) {
	for _, c := range rightCookies() {
		if !impl.JarOk([]impl.Cookie{c}) || !impl.JarOk([]impl.Cookie{named("x-1", 5), c, named("x-2", -1)}) {
			t.Errorf("JarOk rejects %+v", c)
		}
		if impl.JarOk([]impl.Cookie{c, c}) {
			t.Errorf("JarOk accepts two times %+v", c)
		}
	}
	for _, c := range wrongCookies() {
		for _, jar := range [][]impl.Cookie{{c}, {c, named("x-1", -1)}, {named("x-1", -1), c}, with(manyInJar(maxJar), 20, c)} {
			if impl.JarOk(jar) {
				t.Errorf("JarOk accepts %+v", c)
			}
		}
	}
	for _, jar := range wrongJars() {
		if impl.JarOk(jar) {
			t.Errorf("JarOk accepts %+v", jar)
		}
	}
}

// slotRows holds pairs of cookies and whether they have the same Name, Domain and Path.
func slotRows() []struct {
	one, two impl.Cookie
	same     bool
} {
	c := impl.Cookie{Name: "sso", Value: "v", Domain: "one.example", Path: "/", Until: -1}
	type row = struct {
		one, two impl.Cookie
		same     bool
	}
	return []row{
		{c, c, true}, {c, impl.Cookie{Name: "sso", Value: "w", Domain: "one.example", Path: "/", Until: -1}, true}, {c, impl.Cookie{Name: "sso", Domain: "one.example", Path: "/", Until: -1}, true},
		{c, impl.Cookie{Name: "sso", Value: "v", Domain: "one.example", Only: true, Path: "/", Until: -1}, true}, {c, cookieUntil(100), true}, {cookieUntil(100), cookieUntil(200), true},
		{c, impl.Cookie{Name: "sso", Value: "w", Domain: "one.example", Only: true, Path: "/", Until: 100}, true},
		{c, inSlot("ssn", "one.example", "/"), false}, {c, inSlot("SSO", "one.example", "/"), false}, {c, inSlot("sso-", "one.example", "/"), false}, {c, inSlot("ss", "one.example", "/"), false},
		{c, inSlot("sso", "two.example", "/"), false}, {c, inSlot("sso", "app.one.example", "/"), false}, {c, inSlot("sso", "example", "/"), false}, {c, inSlot("sso", "ne.example", "/"), false},
		{c, inSlot("sso", "one.example", "//"), false}, {c, inSlot("sso", "one.example", "/a"), false}, {inSlot("sso", "one.example", "/a"), inSlot("sso", "one.example", "/a/"), false}, {inSlot("sso", "one.example", "/a"), inSlot("sso", "one.example", "/A"), false},
		{inSlot("a", "bc", "/"), inSlot("ab", "c", "/"), false}, {inSlot("a", "b", "/c"), inSlot("a", "b", "/c/"), false}, {inSlot("a-b", "c", "/"), inSlot("a", "b-c", "/"), false}, {inSlot("a", "b", "/"), inSlot("b", "a", "/"), false},
	}
}

func TestSlots(t *testing.T) {
	for _, row := range slotRows() {
		for _, pair := range [][]impl.Cookie{{row.one, row.two}, {row.two, row.one}} {
			if got := impl.JarOk(pair); got == row.same {
				t.Errorf("JarOk(%+v) = %v", pair, got)
			}
			want := pair
			if row.same {
				want = pair[1:]
			}
			if got := impl.Keep(pair[:1], pair[1], 50); !slices.Equal(got, want) {
				t.Errorf("Keep(%+v, %+v, 50) = %+v, want %+v", pair[:1], pair[1], got, want)
			}
		}
	}
	full := manyInJar(maxJar)
	for i := range full {
		for j := range i {
			if impl.JarOk(with(full, i, named(full[j].Name, 100))) {
				t.Errorf("JarOk accepts the same cookie at %d and %d", j, i)
			}
		}
	}
}

func TestJarOkOfAllShortJars(t *testing.T) {
	forms := newCookieForms()
	pool := []impl.Cookie{named("a", -1), named("b", 5), named("A", 5), inSlot("a", "two.example", "/"), inSlot("a", "one.example", "/p"), named("a", 7), named("b", -3), {}, cookieOf("a", " ")}
	for _, one := range pool {
		checkJar(t, forms, []impl.Cookie{one})
		for _, two := range pool {
			checkJar(t, forms, []impl.Cookie{one, two})
			for _, three := range pool {
				checkJar(t, forms, []impl.Cookie{one, two, three})
			}
		}
	}
}

func TestKeep(t *testing.T) {
	jar := []impl.Cookie{named("a", -1), named("b", 100), named("c", 60), named("d", -1), named("e", 100)}
	for _, row := range []struct {
		what string
		jar  []impl.Cookie
		c    impl.Cookie
		now  int
		want string
	}{
		{"the first cookie", nil, named("a", -1), 50, "a"}, {"the first cookie, expired", nil, named("a", 50), 50, ""}, {"the first cookie, invalid", nil, impl.Cookie{}, 50, ""},
		{"one more", jar, named("f", -1), 50, "a b c d e f"}, {"one more that ends", jar, named("f", 51), 50, "a b c d e f"}, {"one more, expired", jar, named("f", 50), 50, "a b c d e"},
		{"the first replaced", jar, named("a", 100), 50, "b c d e a"}, {"a middle one replaced", jar, named("c", -1), 50, "a b d e c"}, {"the last replaced", jar, named("e", -1), 50, "a b c d e"},
		{"the first taken away", jar, named("a", 50), 50, "b c d e"}, {"a middle one taken away", jar, named("c", 0), 50, "a b d e"}, {"the last taken away", jar, named("e", 49), 50, "a b c d"},
		{"one expired in the jar", jar, named("f", -1), 60, "a b d e f"}, {"several expired in the jar", jar, named("f", -1), 100, "a d f"}, {"several expired, all that ends", jar, named("f", -1), lastTime, "a d f"},
		{"expired in the jar, and itself", jar, named("f", 60), 60, "a b d e"}, {"an expired one replaced", jar, named("c", -1), 60, "a b d e c"}, {"an expired one replaced by an expired one", jar, named("c", 59), 60, "a b d e"},
		{"several expired, one replaced", jar, named("b", 101), 100, "a d b"}, {"several expired, the first replaced", jar, named("a", -1), 200, "d a"}, {"several expired, the first taken away", jar, named("a", 0), 200, "d"},
		{"all expired", []impl.Cookie{named("a", 10), named("b", 20), named("c", 0)}, named("x", -1), 20, "x"}, {"all expired, and itself", []impl.Cookie{named("a", 10), named("b", 20), named("c", 0)}, named("x", 5), 20, ""},
		{"expired at both ends", []impl.Cookie{named("a", 10), named("b", 30), named("c", 20)}, named("x", -1), 20, "b x"}, {"an invalid one", jar, cookieOf("f", "\""), 50, "a b c d e"}, {"an invalid one for the same slot", jar, cookieOf("a", "\""), 50, "a b c d e"},
		{"an invalid one beside expired ones", jar, impl.Cookie{}, 100, "a b c d e"}, {"an invalid one that would take away", jar, impl.Cookie{Name: "a", Value: "\\", Domain: "one.example", Path: "/", Until: 0}, 100, "a b c d e"},
	} {
		got := impl.Keep(row.jar, row.c, row.now)
		if namesOf(got) != row.want || !impl.JarOk(got) {
			t.Errorf("%s: the jar holds %q, want %q", row.what, namesOf(got), row.want)
		}
		for _, c := range got {
			if old := slices.Index(row.jar, c); old < 0 && c != row.c {
				t.Errorf("%s: the jar holds the unknown cookie %+v", row.what, c)
			}
		}
	}
}

func TestKeepReplacesTheWholeCookie(t *testing.T) {
	old := impl.Cookie{Name: "sso", Value: "old", Domain: "one.example", Path: "/p", Until: 100}
	next := impl.Cookie{Name: "sso", Value: "new", Domain: "one.example", Only: true, Path: "/p", Until: 200}
	for _, jar := range [][]impl.Cookie{{old}, {old, named("x", -1)}, {named("x", -1), old, named("y", -1)}} {
		for _, row := range []struct{ first, second impl.Cookie }{{old, next}, {next, old}} {
			now := impl.Keep(impl.Keep(jar, row.first, 50), row.second, 50)
			if len(now) != len(jar) || now[len(now)-1] != row.second || slices.Contains(now, row.first) {
				t.Errorf("%+v replaced by %+v leaves %+v", row.first, row.second, now)
			}
		}
	}
}

// untils are those around the given time and around the limits.
func untils(now int) []int { return []int{-1, 0, now - 1, now, now + 1, lastTime} }

func TestKeepAndShowAtEachTime(t *testing.T) {
	forms := newCookieForms()
	for _, now := range append(rightTimes(), wrongTimes()...) {
		for _, until := range untils(now) {
			c := named("c", until)
			if !impl.CookieOk(c) {
				continue
			}
			over := until != -1 && until <= now
			wantNames, wantText := "x c", "x=x; c=c"
			if over {
				wantNames, wantText = "x", "x=x"
			}
			jar := []impl.Cookie{named("x", -1)}
			if got := checkKeep(t, forms, jar, c, now); namesOf(got) != wantNames {
				t.Errorf("a cookie until %d kept at %d: %q", until, now, namesOf(got))
			}
			if got := checkKeep(t, forms, []impl.Cookie{c}, jar[0], now); (len(got) == 1) != over {
				t.Errorf("a cookie until %d after another one was kept at %d: %q", until, now, namesOf(got))
			}
			if got := checkShow(t, forms, append(jar, c), "one.example", "/", now); got != wantText {
				t.Errorf("a cookie until %d shown at %d: %q", until, now, got)
			}
		}
	}
}

// full returns a jar of 40 cookies, of which those at the given indices end at 10.
func full(ended ...int) []impl.Cookie {
	jar := manyInJar(maxJar)
	for _, at := range ended {
		jar[at].Until = 10
	}
	return jar
}

func TestKeepIntoAFullJar(t *testing.T) {
	forms := newCookieForms()
	all := manyInJar(maxJar)
	without := func(places ...int) []impl.Cookie {
		var left []impl.Cookie
		for i, c := range all {
			if !slices.Contains(places, i) {
				left = append(left, c)
			}
		}
		return left
	}
	x := named("x", -1)
	for _, row := range []struct {
		what string
		jar  []impl.Cookie
		c    impl.Cookie
		left []impl.Cookie
	}{
		{"none expired", full(), x, without(0)}, {"the first expired", full(0), x, without(0)}, {"a middle one expired", full(17), x, without(17)}, {"the last expired", full(39), x, without(39)},
		{"several expired", full(0, 5, 39), x, without(0, 5, 39)}, {"two in the middle expired", full(7, 8), x, without(7, 8)}, {"the first replaced", full(), named("c0", -1), without(0)}, {"a middle one replaced", full(), named("c20", -1), without(20)},
		{"the last replaced", full(), named("c39", 100), without(39)}, {"one expired and replaced", full(20), named("c20", -1), without(20)}, {"one expired and another replaced", full(20), named("c30", -1), without(20, 30)},
		{"several expired and one of them replaced", full(1, 2, 3), named("c2", -1), without(1, 2, 3)},
	} {
		want := append(slices.Clone(row.left), row.c)
		if got := checkKeep(t, forms, row.jar, row.c, 50); !slices.Equal(got, want) {
			t.Errorf("%s: the jar holds %q, want %q", row.what, namesOf(got), namesOf(want))
		}
		row.c.Until = 50
		want = row.left
		if !slices.ContainsFunc(row.jar, func(c impl.Cookie) bool { return sameSlot(c, row.c) || c.Until == 10 }) {
			want = all
		}
		if got := checkKeep(t, forms, row.jar, row.c, 50); !slices.Equal(got, want) {
			t.Errorf("%s, the new one too: the jar holds %q, want %q", row.what, namesOf(got), namesOf(want))
		}
	}
}

func TestKeepIntoJarsOfEachSize(t *testing.T) {
	forms := newCookieForms()
	for n := range maxJar + 5 {
		for _, c := range []impl.Cookie{named("x", -1), named("x", 50), named("c0", -1), named("c0", 50), named(fmt.Sprint("c", n/2), -1), named(fmt.Sprint("c", n-1), -1), {}} {
			checkKeep(t, forms, manyInJar(n), c, 50)
		}
	}
	var jar []impl.Cookie
	for i := range 200 {
		jar = impl.Keep(jar, named(fmt.Sprint("c", i), -1), 50)
		if want := manyInJar(i + 1)[max(i+1-maxJar, 0):]; !slices.Equal(jar, want) {
			t.Fatalf("after %d cookies the jar holds %q", i+1, namesOf(jar))
		}
	}
}

// All jars of up to two cookies of the pool, with each of it kept afterwards.
func TestKeepOfAllShortJars(t *testing.T) {
	forms := newCookieForms()
	var pool []impl.Cookie
	for _, until := range []int{-1, 49, 50, 51} {
		for _, c := range []impl.Cookie{inSlot("a", "one.example", "/"), inSlot("b", "one.example", "/"), inSlot("a", "two.example", "/"), inSlot("a", "one.example", "/p"), inSlot("a", "one.example", "p")} {
			c.Until = until
			pool = append(pool, c)
		}
	}
	kept := map[int]int{}
	for _, c := range pool {
		kept[len(checkKeep(t, forms, nil, c, 50))]++
		for _, one := range pool {
			kept[len(checkKeep(t, forms, []impl.Cookie{one}, c, 50))]++
			for _, two := range pool {
				kept[len(checkKeep(t, forms, []impl.Cookie{one, two}, c, 50))]++
			}
		}
	}
	for n := range 4 {
		if kept[n] < 100 {
			t.Errorf("only %d jars hold %d cookies", kept[n], n)
		}
	}
}

func TestNothingIsKeptInOrShownFromAnInvalidJar(t *testing.T) {
	for _, jar := range wrongJars() {
		for _, c := range []impl.Cookie{named("x", -1), named("a", -1), named("x", 10), {}, cookieOf("a", "\"")} {
			for _, now := range []int{0, 50, lastTime, -1, lastTime + 1} {
				if got := impl.Keep(jar, c, now); len(got) != 0 {
					t.Errorf("Keep(%+v, %+v, %d) = %+v", jar, c, now, got)
				}
			}
		}
		for _, heads := range [][]impl.Pair{nil, pairsOf("Set-Cookie", "x=y"), pairsOf("X", "x=y"), pairsOf("Set-Cookie", "x")} {
			if got := impl.KeepAll(jar, answerOf(200, heads, ""), "one.example", 50); len(got) != 0 {
				t.Errorf("KeepAll(%+v, %q) = %+v", jar, heads, got)
			}
		}
		if got := impl.Show(jar, "one.example", "/", 5); got != "" {
			t.Errorf("Show(%+v) = %q", jar, got)
		}
		if got := impl.Ask(jar, getOf("/"), "one.example", 5); !sameRequest(got, withHeads(pairsOf("Host", "one.example"))) {
			t.Errorf("Ask(%+v) = %+v", jar, got)
		}
	}
}

func TestAnInvalidCookieChangesNoJar(t *testing.T) {
	jars := [][]impl.Cookie{nil, {named("n", -1), named("sso", 10), named("a", 100)}, full(0, 20), {cookieFor("one.example", true)}}
	for _, c := range wrongCookies() {
		for _, jar := range jars {
			for _, now := range []int{0, 50, lastTime, -1} {
				if got := impl.Keep(jar, c, now); !slices.Equal(got, jar) {
					t.Errorf("Keep(%+v, %+v, %d) = %+v", jar, c, now, got)
				}
			}
		}
	}
}

func TestShowToHosts(t *testing.T) {
	forms := newCookieForms()
	for _, row := range []struct {
		host          string
		toOnly, toAll bool
	}{
		{"one.example", true, true}, {"app.one.example", false, true}, {"a.b.c.one.example", false, true}, {"one.example.one.example", false, true}, {"-.one.example", false, true},
		{"example", false, false}, {"xone.example", false, false}, {"-one.example", false, false}, {"app.xone.example", false, false}, {"two.example", false, false}, {"one.example.two", false, false}, {"one", false, false}, {"ne.example", false, false}, {"one.exampl", false, false}, {"one-example", false, false},
		{"", false, false}, {".", false, false}, {".one.example", false, false}, {"one.example.", false, false}, {"ONE.example", false, false}, {"One.Example", false, false}, {"APP.one.example", false, false}, {"a_b.one.example", false, false}, {"a..one.example", false, false},
		{" one.example", false, false}, {"one.example ", false, false}, {"one.example:80", false, false}, {"https://one.example", false, false}, {"*.one.example", false, false}, {"\x00.one.example", false, false}, {strings.Repeat("a", maxHost-11) + ".one.example", false, false}, {strings.Repeat("a", maxHost-12) + ".one.example", false, true},
	} {
		for _, only := range []bool{true, false} {
			want, meant := "", row.toAll
			if only {
				meant = row.toOnly
			}
			if meant {
				want = "sso=v"
			}
			if got := checkShow(t, forms, []impl.Cookie{cookieFor("one.example", only)}, row.host, "/", 50); got != want {
				t.Errorf("Only %v: %q is shown to %q", only, got, row.host)
			}
		}
	}
	for _, host := range append(rightHosts(), wrongHosts()...) {
		for _, only := range []bool{true, false} {
			checkShow(t, forms, []impl.Cookie{cookieFor("one.example", only), cookieFor("a", only), cookieFor("b", only)}, host, "/", 50)
			if impl.HostOk(host) {
				checkShow(t, forms, []impl.Cookie{cookieFor(host, only)}, host, "/", 50)
				checkShow(t, forms, []impl.Cookie{cookieFor(host, only)}, "a."+host, "/", 50)
			}
		}
	}
}

func TestShowOnPaths(t *testing.T) {
	forms := newCookieForms()
	for _, row := range []struct {
		under, path string
		want        bool
	}{
		{"/", "/", true}, {"/", "/app", true}, {"/", "//", true}, {"/app", "/app", true}, {"/app", "/app/", true}, {"/app", "/app/x", true}, {"/app", "/app//", true}, {"/app/", "/app/", true}, {"/app/", "/app/x", true}, {"/app/", "/app//", true},
		{"/app", "/apple", false}, {"/app", "/app.x", false}, {"/app", "/app-", false}, {"/app", "/", false}, {"/app", "/ap", false}, {"/app/", "/app", false}, {"/app", "/APP", false}, {"/app", "//app", false}, {"/app", "/x/app", false}, {"/app/x", "/app", false}, {"//", "/a", false}, {"/.", "/..", false},
		{"/", "", false}, {"/", "app", false}, {"/app", "app", false}, {"/", "/a b", false}, {"/", "/?", false}, {"/", "/a?b=c", false}, {"/app", "/app/\x00", false}, {"/", "/\u00e4", false}, {"/", "/" + strings.Repeat("p", maxPathRest), true}, {"/", "/" + strings.Repeat("p", maxPathRest+1), false},
		{"/" + strings.Repeat("p", maxPathRest), "/" + strings.Repeat("p", maxPathRest), true}, {"/" + strings.Repeat("p", maxPathRest-1), "/" + strings.Repeat("p", maxPathRest-1) + "/", true}, {"/" + strings.Repeat("p", maxPathRest-1), "/" + strings.Repeat("p", maxPathRest), false},
	} {
		want := ""
		if row.want {
			want = "sso=v"
		}
		if got := checkShow(t, forms, []impl.Cookie{cookieUnder(row.under)}, "one.example", row.path, 50); got != want {
			t.Errorf("a cookie under %q on the path %q shows as %q", row.under, row.path, got)
		}
	}
	for _, path := range append(rightPaths(), wrongPaths()...) {
		checkShow(t, forms, []impl.Cookie{cookieUnder("/a"), cookieUnder("/"), cookieUnder("//")}, "one.example", path, 50)
	}
}

// inEveryOrder calls check with the jar in each of its orders.
func inEveryOrder(jar []impl.Cookie, check func(order []impl.Cookie)) {
	if len(jar) < 2 {
		check(jar)
		return
	}
	for i := range jar {
		rest := slices.Delete(slices.Clone(jar), i, i+1)
		inEveryOrder(rest, func(order []impl.Cookie) { check(append([]impl.Cookie{jar[i]}, order...)) })
	}
}

func TestShowOrdersByPaths(t *testing.T) {
	forms := newCookieForms()
	for _, row := range []struct {
		paths []string
		want  []string // the names by length of path, where those of one length keep the order of the jar
	}{
		{[]string{"/", "/a", "/a/", "/a/b", "/a/b/c"}, []string{"e", "d", "c", "b", "a"}},
		{[]string{"/", "/", "/", "/", "/", "/"}, []string{"abcdef"}},
		{[]string{"/a/b", "/", "/a/b", "/", "/a", "/a"}, []string{"ac", "ef", "bd"}},
		{[]string{"/a/b/c", "/a/b/c", "/", "/a/b/c", "/a"}, []string{"abd", "e", "c"}},
		{[]string{"/", "/a/b/c", "/x", "/a/x"}, []string{"b", "a"}},
	} {
		var jar []impl.Cookie
		for i, path := range row.paths {
			jar = append(jar, inSlot(string(rune('a'+i)), "one.example", path))
		}
		inEveryOrder(jar, func(order []impl.Cookie) {
			var want []string
			for _, group := range row.want {
				for _, c := range order {
					if strings.Contains(group, c.Name) {
						want = append(want, c.Name+"=v")
					}
				}
			}
			if got := checkShow(t, forms, order, "app.one.example", "/a/b/c", 50); got != strings.Join(want, "; ") {
				t.Errorf("%q with the paths %q shows as %q, want %q", namesOf(order), row.paths, got, want)
			}
		})
	}
}

// Jars of forty cookies whose paths have each length, in orders that follow different steps.
func TestShowOrdersFullJars(t *testing.T) {
	forms := newCookieForms()
	path := "/" + strings.Repeat("a/", maxPathRest/2)
	for _, step := range []int{1, 3, 7, 11, 13, 17, 19, 39} {
		for _, lengths := range []int{1, 2, 3, 5, 20, 31} {
			jar := manyInJar(maxJar)
			for i := range jar {
				jar[i].Path = path[:1+2*(i*step%maxJar%lengths)]
				jar[i].Only = i%5 == 4
				jar[i].Until = []int{-1, -1, 51, 50}[i*7%4]
			}
			for _, host := range []string{"one.example", "app.one.example"} {
				for _, n := range []int{1, 2, 13, 31, 60, 61} {
					checkShow(t, forms, jar, host, path[:n], 50)
					checkShow(t, forms, jar[:n%maxJar], host, path[:n], 10)
				}
			}
		}
	}
}

func TestShow(t *testing.T) {
	jar := []impl.Cookie{
		{Name: "a", Value: "1", Domain: "example", Path: "/", Until: -1}, {Name: "b", Value: "", Domain: "one.example", Path: "/app", Until: 100},
		{Name: "c", Value: "x=y", Domain: "one.example", Only: true, Path: "/app/", Until: 60}, {Name: "a", Value: "2", Domain: "one.example", Path: "/", Until: -1}, {Name: "a", Value: "3", Domain: "one.example", Path: "/app", Until: 0},
	}
	for _, row := range []struct {
		host, path string
		now        int
		want       string
	}{
		{"one.example", "/app/x", 50, "c=x=y; b=; a=1; a=2"}, {"one.example", "/app/x", 59, "c=x=y; b=; a=1; a=2"}, {"one.example", "/app/x", 60, "b=; a=1; a=2"}, {"one.example", "/app/x", 99, "b=; a=1; a=2"}, {"one.example", "/app/x", 100, "a=1; a=2"}, {"one.example", "/app/x", lastTime, "a=1; a=2"},
		{"one.example", "/app/x", -1, "c=x=y; b=; a=3; a=1; a=2"}, {"one.example", "/app/x", 0, "c=x=y; b=; a=1; a=2"}, {"one.example", "/app", 50, "b=; a=1; a=2"}, {"one.example", "/", 50, "a=1; a=2"}, {"one.example", "/apple", 50, "a=1; a=2"},
		{"x.one.example", "/app/x", 50, "b=; a=1; a=2"}, {"two.example", "/app/x", 50, "a=1"}, {"example", "/app/x", 50, "a=1"}, {"one", "/app/x", 50, ""}, {"one.example", "app", 50, ""}, {"", "/", 50, ""}, {"one.example", "", 50, ""},
	} {
		if got := impl.Show(jar, row.host, row.path, row.now); got != row.want {
			t.Errorf("Show(%q, %q, %d) = %q, want %q", row.host, row.path, row.now, got, row.want)
		}
	}
	for _, empty := range [][]impl.Cookie{nil, {}} {
		if got := impl.Show(empty, "one.example", "/", 50); got != "" {
			t.Errorf("an empty jar shows %q", got)
		}
	}
	if got := impl.Show(manyInJar(maxJar), "one.example", "/", 50); strings.Count(got, "; ") != maxJar-1 || !strings.HasSuffix(got, "; c39=c39") {
		t.Errorf("a full jar shows %q", got)
	}
}

// Promise 7 over the life of a cookie: it is shown from when it is stored until it expires, is replaced, is taken away or has to make room.
func TestAStoredCookieIsShown(t *testing.T) {
	for _, until := range []int{-1, 11, 50, lastTime} {
		c := named("c", until)
		jar := impl.Keep([]impl.Cookie{named("x", -1)}, c, 10)
		for _, now := range []int{10, 11, 49, 50, 51, lastTime - 1, lastTime} {
			want := "x=x; c=c"
			if until != -1 && until <= now {
				want = "x=x"
			}
			for _, host := range []string{"one.example", "app.one.example", "a.b.one.example"} {
				for _, path := range []string{"/", "/p", "/p/q"} {
					if got := impl.Show(jar, host, path, now); got != want {
						t.Errorf("a cookie until %d at %d: Show(%q, %q) = %q", until, now, host, path, got)
					}
				}
			}
		}
		for _, next := range []struct {
			c    impl.Cookie
			want string
		}{{cookieOf("c", "new"), "x=x; c=new"}, {named("c", 10), "x=x"}, {named("d", -1), "x=x; c=c; d=d"}, {named("x", -1), "c=c; x=x"}, {impl.Cookie{Name: "c"}, "x=x; c=c"}} {
			if got := impl.Show(impl.Keep(jar, next.c, 10), "one.example", "/", 10); got != next.want {
				t.Errorf("after %+v the jar shows %q, want %q", next.c, got, next.want)
			}
		}
		for i := range 2 * maxJar {
			jar = impl.Keep(jar, named(fmt.Sprint("n", i), -1), 10)
			if got := strings.Contains(impl.Show(jar, "one.example", "/", 10), "c=c"); got != (i+1 < maxJar) {
				t.Errorf("after %d more cookies the first one is shown: %v", i+1, got)
			}
		}
	}
}

func TestKeepAll(t *testing.T) {
	jar := []impl.Cookie{named("a", -1), named("b", 60), named("c", 40)}
	for _, row := range []struct {
		what  string
		heads []impl.Pair
		want  string
	}{
		{"no header", nil, "a=a b=b c=c"}, {"no such header", pairsOf("X", "f=1", "Cookie", "f=1", "Set-Cookies", "f=1", "Set-Cooki", "f=1", "SetCookie", "f=1", "Set-Cookie2", "f=1", "", "f=1", "Set-Cookie ", "f=1", " Set-Cookie", "f=1"), "a=a b=b c=c"},
		{"one", pairsOf("Set-Cookie", "f=1"), "a=a b=b f=1"}, {"one between others", pairsOf("A", "g=1", "Set-Cookie", "f=1", "B", "h=1"), "a=a b=b f=1"}, {"several", pairsOf("Set-Cookie", "g=1", "set-cookie", "f=2", "SET-COOKIE", "h=3"), "a=a b=b g=1 f=2 h=3"},
		{"mixed cases", pairsOf("sEt-CoOkIe", "f=1", "set-cookiE", "g=2", "S\u0435t-Cookie", "h=3", "\u017fet-cookie", "i=4", "Set-Coo\u212aie", "j=5"), "a=a b=b f=1 g=2"},
		{"refused ones in between", pairsOf("Set-Cookie", "", "Set-Cookie", "f=1", "Set-Cookie", "g", "Set-Cookie", "h=a b", "Set-Cookie", "i=2", "Set-Cookie", "j=1;domain=two.example", "Set-Cookie", "=1"), "a=a b=b f=1 i=2"},
		{"only refused ones", pairsOf("Set-Cookie", "g", "Set-Cookie", "j=1;domain=two.example", "Set-Cookie", "a=\"\""), "a=a b=b c=c"}, {"two for the same cookie", pairsOf("Set-Cookie", "f=1", "Set-Cookie", "g=2", "Set-Cookie", "f=3"), "a=a b=b g=2 f=3"},
		{"set and taken away", pairsOf("Set-Cookie", "f=1", "Set-Cookie", "f=; max-age=0"), "a=a b=b"}, {"taken away and set", pairsOf("Set-Cookie", "f=; max-age=-1", "Set-Cookie", "f=1"), "a=a b=b f=1"}, {"one that is over", pairsOf("Set-Cookie", "f=1; max-age=0"), "a=a b=b"},
		{"replaced", pairsOf("Set-Cookie", "a=1; domain=one.example; path=/"), "b=b a=1"}, {"taken away", pairsOf("Set-Cookie", "a=; domain=one.example; max-age=-9"), "b=b"}, {"the same for one host", pairsOf("Set-Cookie", "a=1"), "b=b a=1"}, {"the same for the parent", pairsOf("Set-Cookie", "a=1; domain=example"), "a=a b=b a=1"}, {"the same under a path", pairsOf("Set-Cookie", "a=1; path=/p"), "a=a b=b a=1"},
	} {
		var got []string
		for _, c := range impl.KeepAll(jar, answerOf(200, row.heads, "b"), "one.example", 50) {
			got = append(got, c.Name+"="+c.Value)
		}
		if strings.Join(got, " ") != row.want {
			t.Errorf("%s: the jar holds %q, want %q", row.what, got, row.want)
		}
		checkKeepAll(t, newCookieForms(), jar, row.heads, "one.example", 50)
	}
	want := []impl.Cookie{{Name: "n", Value: "v", Domain: "one.example", Only: true, Path: "/", Until: -1}, {Name: "n", Value: "v", Domain: "example", Path: "/p", Until: 57}}
	if got := impl.KeepAll(nil, answerOf(200, pairsOf("Set-Cookie", "n=v", "Set-Cookie", "n=v;Domain=.EXAMPLE;Path=/p;Max-Age=7"), ""), "one.example", 50); !slices.Equal(got, want) {
		t.Errorf("KeepAll = %+v, want %+v", got, want)
	}
}

func TestKeepAllOfEachKey(t *testing.T) {
	for _, key := range append(caseForms("set-cookie"), "set-cookie", "SET-COOKIE", "Set-Cookie") {
		if got := impl.KeepAll(nil, answerOf(200, pairsOf(key, "n=v"), ""), "one.example", 50); len(got) != 1 {
			t.Errorf("KeepAll with the header %q = %+v", key, got)
		}
	}
	changesOf("Set-Cookie", func(key string) {
		got := impl.KeepAll(nil, answerOf(200, pairsOf(key, "n=v"), ""), "one.example", 50)
		if want := setCookieKey.MatchString(key); (len(got) == 1) != want {
			t.Errorf("KeepAll with the header %q = %+v", key, got)
		}
	})
}

func TestKeepAllOfManyCookies(t *testing.T) {
	forms := newCookieForms()
	for n := range maxHeads + 1 {
		var heads []impl.Pair
		for i := range n {
			heads = append(heads, impl.Pair{Key: "Set-Cookie", Value: fmt.Sprint("n", i%15, "=", i)})
		}
		for _, jar := range [][]impl.Cookie{nil, manyInJar(20), manyInJar(maxJar - n), full(), full(0, 1, 2, 39), full(n), {inSlot("n3", "one.example", "/"), cookieOf("n4", "old")}} {
			checkKeepAll(t, forms, jar, heads, "one.example", 50)
			checkKeepAll(t, forms, jar, heads, "two.example", 5)
		}
	}
	var heads []impl.Pair
	for i := range 60 {
		heads = append(heads, impl.Pair{Key: "set-cookie", Value: fmt.Sprint("n", i, "=v; max-age=", i%7)})
	}
	if got := checkKeepAll(t, forms, nil, heads, "one.example", 50); len(got) != maxJar || got[0].Name != "n13" || got[39].Name != "n59" || slices.ContainsFunc(got, func(c impl.Cookie) bool { return c.Until == 50 }) {
		t.Errorf("after 60 cookies the jar holds %q", namesOf(got))
	}
}

// The chapter names no reason to refuse a response, so that its other parts do not matter.
func TestKeepAllOfInvalidResponses(t *testing.T) {
	jar := []impl.Cookie{named("a", -1), named("b", 40)}
	heads := pairsOf("Set-Cookie", "n=v")
	for _, r := range []impl.Response{
		{}, {Heads: heads}, {Code: 199, Heads: heads}, {Code: 600, Heads: heads}, {Code: -200, Heads: heads}, {Code: math.MinInt, Heads: heads}, {Code: 302, Heads: heads, Body: strings.Repeat("b", impl.MaxBody+1)}, {Code: 302, Heads: append(pairsOf("A b", "c\r\n"), heads...)},
		{Code: 302, Heads: append(samePairs(maxHeads, "A", "b"), heads...)}, {Code: 302, Heads: append(pairsOf("Content-Length", "0"), heads...)}, {Code: 302, Heads: pairsOf("Set-Cookie", " n=v")}, {Code: 302, Heads: pairsOf("Set-Cookie", "n=v; "+strings.Repeat("x", 1000))}, {Code: 302, Heads: pairsOf("Set-Cookie", "n=v;\r\n")},
	} {
		want := "a n"
		if len(r.Heads) == 0 {
			want = "a b"
		}
		if got := impl.KeepAll(jar, r, "one.example", 50); namesOf(got) != want || !impl.JarOk(got) {
			t.Errorf("KeepAll of %+v = %+v", r, got)
		}
	}
}

func TestKeepAllOfInvalidHostsAndTimes(t *testing.T) {
	jar := []impl.Cookie{named("a", -1), named("b", 40)}
	r := answerOf(200, pairsOf("Set-Cookie", "n=v", "Set-Cookie", "m=w; domain=one.example"), "")
	for _, host := range wrongHosts() {
		if got := impl.KeepAll(jar, r, host, 50); !slices.Equal(got, jar) {
			t.Errorf("KeepAll from the host %q = %+v", host, got)
		}
	}
	for _, now := range wrongTimes() {
		if got := impl.KeepAll(jar, r, "one.example", now); !slices.Equal(got, jar) {
			t.Errorf("KeepAll at %d = %+v", now, got)
		}
	}
	forms := newCookieForms()
	for _, host := range append(rightHosts(), "one.example", "app.one.example") {
		for _, now := range rightTimes() {
			checkKeepAll(t, forms, jar, r.Heads, host, now)
		}
	}
}

func TestKeepAllOfChangedTexts(t *testing.T) {
	forms := newCookieForms()
	jar := []impl.Cookie{named("a", 100), named("b", 45), inSlot("c", "app.one.example", "/p")}
	sizes := map[int]int{}
	for _, s := range []string{"c=v;path=/p", "a=v;domain=one.example;max-age=-1", "d=v;max-age=0"} {
		changesOf(s, func(changed string) {
			sizes[len(checkKeepAll(t, forms, jar, pairsOf("Set-Cookie", changed), "app.one.example", 50))]++
		})
	}
	if sizes[1] < 100 || sizes[2] < 100 || sizes[3] < 100 {
		t.Errorf("the sizes of the jars are %v", sizes)
	}
}

func TestAsk(t *testing.T) {
	jar := []impl.Cookie{cookieOf("a", "1"), {Name: "b", Value: "2", Domain: "app.one.example", Only: true, Path: "/app", Until: 100}}
	for _, row := range []struct {
		what string
		r    impl.Request
		host string
		now  int
		want []impl.Pair
	}{
		{"two cookies", getOf("/app"), "app.one.example", 50, pairsOf("Host", "app.one.example", "Cookie", "b=2; a=1")}, {"one expired", getOf("/app"), "app.one.example", 100, pairsOf("Host", "app.one.example", "Cookie", "a=1")}, {"another path", getOf("/"), "app.one.example", 50, pairsOf("Host", "app.one.example", "Cookie", "a=1")},
		{"another host", getOf("/app"), "one.example", 50, pairsOf("Host", "one.example", "Cookie", "a=1")}, {"no cookie", getOf("/app"), "two.example", 50, pairsOf("Host", "two.example")}, {"other headers", impl.Request{Method: "GET", Path: "/", Heads: pairsOf("X", "y", "Z", "")}, "one.example", 50, pairsOf("Host", "one.example", "Cookie", "a=1", "X", "y", "Z", "")},
		{"other headers, no cookie", impl.Request{Method: "GET", Path: "/", Heads: pairsOf("X", "y", "Z", "")}, "two.example", 50, pairsOf("Host", "two.example", "X", "y", "Z", "")}, {"a Host header", withHeads(pairsOf("Host", "old")), "one.example", 50, pairsOf("Host", "one.example", "Cookie", "a=1", "Host", "old")},
		{"a Cookie header", withHeads(pairsOf("Cookie", "old=1")), "one.example", 50, pairsOf("Host", "one.example", "Cookie", "a=1", "Cookie", "old=1")}, {"a Cookie header, no cookie", withHeads(pairsOf("cookie", "old=1")), "two.example", 50, pairsOf("Host", "two.example", "cookie", "old=1")},
		{"both headers", withHeads(pairsOf("X", "y", "COOKIE", "", "host", "one.example")), "one.example", 50, pairsOf("Host", "one.example", "Cookie", "a=1", "X", "y", "COOKIE", "", "host", "one.example")},
	} {
		row.r.Query, row.r.Body = pairsOf("q", "1", "q", ""), "body"
		want := row.r
		want.Heads = row.want
		if got := impl.Ask(jar, row.r, row.host, row.now); !sameRequest(got, want) {
			t.Errorf("%s: %+v, want %+v", row.what, got, want)
		}
	}
	for _, empty := range [][]impl.Cookie{nil, {}} {
		if got := impl.Ask(empty, getOf("/"), "one.example", 50); !sameRequest(got, withHeads(pairsOf("Host", "one.example"))) {
			t.Errorf("with an empty jar: %+v", got)
		}
	}
}

func TestAskWithEachNumberOfHeaders(t *testing.T) {
	forms := newCookieForms()
	for n := range maxHeads + 3 {
		for _, row := range []struct {
			host string
			more int
		}{{"one.example", 2}, {"two.example", 1}} {
			r := withHeads(manyHeads(n))
			want := n
			if n+row.more <= maxHeads {
				want += row.more
			}
			got := checkAsk(t, forms, []impl.Cookie{cookieOf("a", "1")}, r, row.host, 50)
			if len(got.Heads) != want || !slices.Equal(got.Heads[want-n:], r.Heads) || impl.RequestOk(got) != (n <= maxHeads) {
				t.Errorf("a request with %d headers to %q has then %d", n, row.host, len(got.Heads))
			}
		}
	}
}

// jarShowing returns a jar whose Show text has n bytes.
func jarShowing(n int) []impl.Cookie {
	if n == 0 {
		return nil
	}
	var jar []impl.Cookie
	for n > maxCookieValue {
		jar = append(jar, cookieOf(string(rune('b'+len(jar))), strings.Repeat("v", 100)))
		n -= 104
	}
	return append(jar, cookieOf("a", strings.Repeat("v", n-2)))
}

func TestAskWithEachLengthOfCookies(t *testing.T) {
	forms := newCookieForms()
	for _, n := range []int{0, 2, 3, 600, 899, 900, 901, 902, 1000, 2000} {
		jar := jarShowing(n)
		text := impl.Show(jar, "one.example", "/", 50)
		if len(text) != n {
			t.Fatalf("the jar shows %d bytes, not %d", len(text), n)
		}
		got := checkAsk(t, forms, jar, withHeads(pairsOf("X", "y")), "one.example", 50)
		want := pairsOf("Host", "one.example", "Cookie", text, "X", "y")
		if n == 0 || n > maxHeadValue {
			want = pairsOf("Host", "one.example", "X", "y")
		}
		if !slices.Equal(got.Heads, want) {
			t.Errorf("with %d bytes of cookies the headers are %q", n, got.Heads)
		}
		for count := range maxHeads + 2 {
			checkAsk(t, forms, jar, withHeads(manyHeads(count)), "one.example", 50)
		}
	}
	for _, n := range []int{5, 10, 20, maxJar} {
		checkAsk(t, forms, manyInJar(n), getOf("/"), "one.example", 50)
	}
}

func TestAskWithInvalidRequests(t *testing.T) {
	jar := []impl.Cookie{cookieOf("a", "1")}
	for _, r := range append(wrongRequests(), impl.Request{}, impl.Request{Path: "/"}, getOf(""), impl.Request{Method: "GET", Path: "/", Heads: samePairs(100, "A", "b")}) {
		for _, host := range []string{"one.example", "two.example", ""} {
			if got := impl.Ask(jar, r, host, 50); !sameRequest(got, r) {
				t.Errorf("Ask(%+v) = %+v", r, got)
			}
		}
	}
	forms := newCookieForms()
	for _, r := range rightRequests() {
		for _, host := range []string{"one.example", "two.example"} {
			checkAsk(t, forms, jar, r, host, 50)
		}
	}
}

// Only the result has to be valid: a host that is none, but can stand in a header, is asked for, and nothing is shown to it.
func TestAskForInvalidHosts(t *testing.T) {
	forms := newCookieForms()
	jar := []impl.Cookie{cookieOf("a", "1"), cookieFor("a", false)}
	asked, unchanged := 0, 0
	for _, host := range append(append(wrongHosts(), oddTexts()...), strings.Repeat("h", maxHeadValue), strings.Repeat("h", maxHeadValue+1)) {
		r := withHeads(pairsOf("X", "y"))
		want := r
		if impl.RequestOk(withHeads(pairsOf("Host", host))) {
			want = withHeads(pairsOf("Host", host, "X", "y"))
			asked++
		} else {
			unchanged++
		}
		if impl.HostOk(host) {
			continue
		}
		if got := checkAsk(t, forms, jar, r, host, 50); !sameRequest(got, want) {
			t.Errorf("Ask for %q = %+v", host, got)
		}
	}
	if asked < 100 || unchanged < 100 {
		t.Errorf("%d requests are asked and %d unchanged", asked, unchanged)
	}
	for _, host := range []string{" one.example", "one.example ", "one.example\r\n", "one.example\x00", "\u00e4.example"} {
		if got := impl.Ask(jar, getOf("/"), host, 50); !sameRequest(got, getOf("/")) {
			t.Errorf("Ask for %q = %+v", host, got)
		}
	}
	for _, host := range []string{"", "ONE.example", ".one.example", "one.example:80"} {
		if got := impl.Ask(jar, getOf("/"), host, 50); !sameRequest(got, withHeads(pairsOf("Host", host))) {
			t.Errorf("Ask for %q = %+v", host, got)
		}
	}
}

func TestAskAtEachTime(t *testing.T) {
	forms := newCookieForms()
	for _, now := range append(rightTimes(), wrongTimes()...) {
		for _, until := range untils(now) {
			checkAsk(t, forms, []impl.Cookie{named("a", until)}, getOf("/"), "one.example", now)
			checkAsk(t, forms, []impl.Cookie{named("a", until), named("b", -1)}, getOf("/p"), "app.one.example", now)
		}
	}
}

// What a browser asks is understood by the server: the cookies of the request are those of the jar.
func TestAskedCookiesAreRecovered(t *testing.T) {
	jar := impl.KeepAll(nil, answerOf(200, pairsOf("Set-Cookie", "sso=a=b; Domain=one.example", "Set-Cookie", "lang=; Max-Age=9", "Set-Cookie", "app=!~; Path=/app"), ""), "one.example", 50)
	r, code := impl.GetRequest(impl.PutRequest(impl.Ask(jar, getOf("/app/x"), "one.example", 58)))
	text, found := impl.Head(r.Heads, "cookie")
	if got := impl.GetCookies(text); code != impl.HtOk || !found || !slices.Equal(got, pairsOf("app", "!~", "sso", "a=b", "lang", "")) {
		t.Errorf("the server receives %q, %v, %d", got, found, code)
	}
}

// Promise 21 for chapter 7: arguments stay as they are, spare capacity included, results are separate memory, and arguments beyond every limit return.
func TestJarArgumentsStay(t *testing.T) {
	jar := append(full(0, 3, 38), named("spare", -1), named("room", 10), named("room", -1))
	heads := append(pairsOf("Set-Cookie", "c1=x; domain=one.example", "set-cookie", "n=v", "X", "y", "Set-Cookie", "c2=; domain=one.example; max-age=0"), samePairs(40, "Spare", "room")...)
	query := append(pairsOf("q", "1", "r", "2"), samePairs(40, "spare", "room")...)
	jarBefore, headsBefore, queryBefore := slices.Clone(jar), slices.Clone(heads), slices.Clone(query)
	for n := range len(jar) + 1 {
		for _, now := range []int{5, 50} {
			for _, c := range []impl.Cookie{named("x", -1), named("c0", -1), named("c1", 50), named("c2", 0), named(fmt.Sprint("c", n-1), -1), {}} {
				impl.Keep(jar[:n], c, now)
			}
			for m := range 25 {
				impl.KeepAll(jar[:n], answerOf(200, heads[:m], ""), "one.example", now)
				impl.Ask(jar[:n], impl.Request{Method: "GET", Path: "/", Query: query[:m], Heads: heads[:m]}, "one.example", now)
			}
			impl.JarOk(jar[:n])
			impl.Show(jar[:n], "one.example", "/", now)
		}
		if !slices.Equal(jar, jarBefore) || !slices.Equal(heads, headsBefore) || !slices.Equal(query, queryBefore) {
			t.Fatalf("after calls with %d cookies the arguments are %+v, %q, %q", n, jar, heads, query)
		}
	}
}

// spoil changes a result, its spare capacity included, which must show nowhere else.
func spoil[T any](list []T) {
	clear(list[:cap(list)])
}

func TestJarsAreNewMemory(t *testing.T) {
	for _, n := range []int{1, 2, 39, 40} {
		jar := manyInJar(n)
		for _, c := range []impl.Cookie{named("x", -1), named("x", 10), named("c0", -1), {}} {
			for _, now := range []int{5, 50} {
				want := slices.Clone(impl.Keep(jar, c, now))
				spoil(impl.Keep(jar, c, now))
				if got := impl.Keep(jar, c, now); !slices.Equal(got, want) || !slices.Equal(jar, manyInJar(n)) {
					t.Errorf("a changed jar shows in another one: %+v, %+v", got, jar)
				}
			}
		}
		for _, heads := range [][]impl.Pair{nil, pairsOf("Set-Cookie", "x=y"), pairsOf("Set-Cookie", "x")} {
			want := slices.Clone(impl.KeepAll(jar, answerOf(200, heads, ""), "one.example", 50))
			spoil(impl.KeepAll(jar, answerOf(200, heads, ""), "one.example", 50))
			if got := impl.KeepAll(jar, answerOf(200, heads, ""), "one.example", 50); !slices.Equal(got, want) || !slices.Equal(jar, manyInJar(n)) {
				t.Errorf("a changed jar shows in another one: %+v, %+v", got, jar)
			}
		}
	}
}

func TestAskedRequestsAreNewMemory(t *testing.T) {
	jar := []impl.Cookie{cookieOf("a", "1")}
	for _, n := range []int{1, 2, 18, 19, 20, 21, 40} {
		for _, method := range []string{"GET", ""} {
			for _, host := range []string{"one.example", "two.example", "\n"} {
				r := impl.Request{Method: method, Path: "/", Query: manyHeads(n), Heads: manyHeads(n)}
				asked := impl.Ask(jar, r, host, 50)
				query := slices.Clone(asked.Query)
				spoil(asked.Heads)
				if !slices.Equal(asked.Query, query) {
					t.Errorf("%d headers of a result share memory with its query", n)
				}
				spoil(asked.Query)
				if !slices.Equal(r.Query, manyHeads(n)) || !slices.Equal(r.Heads, manyHeads(n)) {
					t.Errorf("a changed request shows in the argument: %+v", r)
				}
			}
		}
	}
}

func TestLongJarsReturn(t *testing.T) {
	const size = 30000
	const host = "one.example"
	jar := slices.Repeat([]impl.Cookie{named("a", -1)}, size)
	if impl.JarOk(jar) || len(impl.Keep(jar, jar[0], 50)) != 0 || len(impl.KeepAll(jar, impl.Response{}, host, 50)) != 0 || impl.Show(jar, host, "/", 50) != "" || len(impl.Ask(jar, getOf("/"), host, 50).Heads) != 1 {
		t.Errorf("%d cookies are a jar", size)
	}
	var heads []impl.Pair
	for i := range size {
		heads = append(heads, impl.Pair{Key: "Set-Cookie", Value: fmt.Sprint("n", i, "=v")})
	}
	if got := impl.KeepAll(nil, impl.Response{Heads: heads}, host, 50); len(got) != maxJar || got[0].Name != fmt.Sprint("n", size-maxJar) {
		t.Errorf("KeepAll of %d cookies leaves %q", size, namesOf(got))
	}
	if r := (impl.Request{Method: "GET", Path: "/", Query: heads, Heads: heads}); !sameRequest(impl.Ask(nil, r, host, 50), r) {
		t.Errorf("Ask changes a request with %d headers", size)
	}
	one := []impl.Cookie{cookieOf("sso", "1")}
	for _, unit := range []string{"a", ".", "a.", "/", "/a", " ", ";", "=", "a=b;", "\x00", "\xff", "\u00e4"} {
		s := strings.Repeat(unit, size)
		for _, c := range []impl.Cookie{cookieOf(s, "v"), cookieOf("n", s), cookieFor(s, true), cookieUnder("/" + s)} {
			if impl.JarOk([]impl.Cookie{c}) || !slices.Equal(impl.Keep(one, c, 50), one) || len(impl.Keep([]impl.Cookie{c}, c, 50)) != 0 {
				t.Errorf("a cookie with %d times %q is kept", size, unit)
			}
		}
		if impl.Show(one, s, "/", 50) != "" || impl.Show(one, s+"."+host, "/", 50) != "" || impl.Show(one, host, "/"+s, 50) != "" || impl.Show(one, host, s, 50) != "" {
			t.Errorf("a cookie is shown to %d times %q", size, unit)
		}
		if got := impl.KeepAll(one, answerOf(200, pairsOf(s, "n=v", "Set-Cookie", s, "Set-Cookie", "n=v;path="+s), ""), host, 50); got[0] != one[0] || !impl.JarOk(got) {
			t.Errorf("KeepAll of %d times %q = %+v", size, unit, got)
		}
		for _, r := range []impl.Request{getOf("/" + s), withHeads(pairsOf("X", s)), withHeads(pairsOf(s, "x")), withBody(s)} {
			if !sameRequest(impl.Ask(one, r, host, 50), r) || !sameRequest(impl.Ask(one, getOf("/"), s, 50), getOf("/")) {
				t.Errorf("Ask changes a request with %d times %q", size, unit)
			}
		}
	}
}
