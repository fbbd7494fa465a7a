package tests

import (
	"encoding/base64"
	"fmt"
	"math"
	"regexp"
	"slices"
	"strconv"
	"strings"
	"testing"

	"loop.example/g00716/impl"
)

const (
	maxKeys   = 6
	maxKeyId  = 999999
	maxSecret = 64
	maxSealed = 300
)

func ringOf(keys ...impl.Key) impl.Ring { return impl.Ring{Keys: keys} }

// keyOf returns a key that is live from 10 to 100.
func keyOf(id int, secret string) impl.Key {
	return impl.Key{Id: id, Secret: secret, From: 10, To: 100}
}

func keyFromTo(id int, from int, to int) impl.Key {
	return impl.Key{Id: id, Secret: fmt.Sprint("secret", id), From: from, To: to}
}

// manyKeys returns a ring of n keys with the Ids from 1 on, all live from 10 to 100.
func manyKeys(n int) impl.Ring {
	var r impl.Ring
	for i := range n {
		r.Keys = append(r.Keys, keyFromTo(i+1, 10, 100))
	}
	return r
}

func idsOf(r impl.Ring) string {
	var ids []string
	for _, key := range r.Keys {
		ids = append(ids, strconv.Itoa(key.Id))
	}
	return strings.Join(ids, " ")
}

// withKey returns a copy of r in which the key at the given index is another one.
func withKey(r impl.Ring, at int, key impl.Key) impl.Ring {
	keys := slices.Clone(r.Keys)
	keys[at] = key
	return impl.Ring{Keys: keys}
}

func sameRing(a impl.Ring, b impl.Ring) bool { return slices.Equal(a.Keys, b.Keys) }

// farTimes holds integers around the limits of times and of int.
func farTimes() []int {
	return []int{math.MinInt, math.MinInt + 1, -lastTime - 1, -lastTime, -1, 0, 1, 50, lastTime - 1, lastTime, lastTime + 1, 2*lastTime + 1, math.MaxInt - lastTime, math.MaxInt - 1, math.MaxInt}
}

func rightSecrets() []string {
	list := []string{"k", "\x00", " ", ".", strings.Repeat("s", maxSecret-1), strings.Repeat("s", maxSecret), strings.Repeat("\x00", maxSecret), strings.Repeat("\u00e4", maxSecret/2)}
	for i := range 256 {
		list = append(list, string([]byte{byte(i)}), string([]byte{'a', byte(i), 'b'}))
	}
	return list
}

func wrongSecrets() []string {
	return []string{"", strings.Repeat("s", maxSecret+1), strings.Repeat("\x00", maxSecret+1), strings.Repeat("\u00e4", maxSecret/2) + "s", strings.Repeat("s", 1000)}
}

func rightKeys() []impl.Key {
	list := []impl.Key{{Id: 1, Secret: "k"}, {Id: maxKeyId, Secret: strings.Repeat("s", maxSecret), From: lastTime, To: lastTime}, {Id: 7, Secret: "k", From: 0, To: lastTime}, {Id: 7, Secret: "k", From: 50, To: 50}}
	for _, id := range []int{1, 2, 10, 65536, 99999, 100000, maxKeyId - 1, maxKeyId} {
		list = append(list, keyOf(id, "k"))
	}
	for _, secret := range rightSecrets() {
		list = append(list, keyOf(1, secret))
	}
	for _, from := range []int{0, 1, 50, lastTime - 1, lastTime} {
		for _, to := range []int{0, 1, 50, lastTime - 1, lastTime} {
			if from <= to {
				list = append(list, keyFromTo(3, from, to))
			}
		}
	}
	return list
}

// wrongKeys holds keys most of which would be live at 50 if they were valid.
func wrongKeys() []impl.Key {
	list := []impl.Key{{}, {Id: 1}, {Secret: "k"}, {Secret: "k", From: 10, To: 100}, {Id: 1, From: 10, To: 100}}
	for _, id := range []int{0, -1, -maxKeyId, maxKeyId + 1, maxKeyId + 2, 1<<32 + 1, math.MinInt, math.MaxInt} {
		list = append(list, keyOf(id, "k"))
	}
	for _, secret := range wrongSecrets() {
		list = append(list, keyOf(1, secret))
	}
	for _, times := range [][2]int{
		{-1, 100}, {-1, -1}, {-1, 0}, {0, -1}, {-2, -1}, {10, lastTime + 1}, {lastTime + 1, lastTime + 1}, {lastTime, lastTime + 1}, {lastTime + 1, lastTime}, {-1, lastTime + 1},
		{100, 10}, {51, 50}, {1, 0}, {lastTime, 0}, {lastTime, lastTime - 1}, {math.MinInt, math.MaxInt}, {math.MinInt, 100}, {10, math.MaxInt}, {math.MaxInt, math.MinInt}, {math.MaxInt, math.MaxInt}, {math.MinInt, math.MinInt},
	} {
		list = append(list, keyFromTo(1, times[0], times[1]))
	}
	return list
}

// wrongRings holds rings of which each has a key that would be live at 50 if the ring were valid.
func wrongRings() []impl.Ring {
	a, b, c := keyOf(1, "a"), keyOf(2, "b"), keyOf(3, "c")
	list := []impl.Ring{
		manyKeys(maxKeys + 1), manyKeys(maxKeys + 2), manyKeys(100), ringOf(a, a), ringOf(b, a), ringOf(a, keyOf(1, "b")), ringOf(a, b, b), ringOf(a, c, b), ringOf(b, a, c), ringOf(c, b, a), ringOf(a, b, a),
		ringOf(keyFromTo(1, 0, 5), a), ringOf(a, keyFromTo(1, 200, 300)), ringOf(keyOf(maxKeyId, "a"), keyOf(maxKeyId+1, "b")), ringOf(keyOf(0, "a"), keyOf(1, "b")), ringOf(keyOf(-1, "a"), keyOf(1, "b")), ringOf(keyOf(math.MaxInt, "a"), keyOf(math.MinInt, "b")),
	}
	for _, key := range wrongKeys() {
		if key.Id == 1 {
			key.Id = 4
		}
		list = append(list, ringOf(a, b, c, key))
	}
	for at := range maxKeys {
		full := manyKeys(maxKeys)
		list = append(list, withKey(full, at, impl.Key{}), withKey(full, at, keyOf(at+1, "")), withKey(full, at, keyFromTo(at+1, 51, 50)), withKey(full, at, full.Keys[(at+1)%maxKeys]), withKey(full, at, keyOf(-at, "k")))
	}
	return list
}

// The rules of rings and seals, with the hash functions and encodings of the standard library.

var sealForm = regexp.MustCompile(`(?s)\At(0|[1-9][0-9]{0,11})\.([A-Za-z0-9_-]*)\.([^.]*)\z`)

func keyIsRight(k impl.Key) bool {
	return k.Id > 0 && k.Id < 1000000 && len(k.Secret) > 0 && len(k.Secret) < 65 && !(k.From < 0) && k.From <= k.To && k.To < 1000000000000
}

func ringIsRight(r impl.Ring) bool {
	for i, k := range r.Keys {
		if i > 5 || !keyIsRight(k) || slices.ContainsFunc(r.Keys[:i], func(earlier impl.Key) bool { return earlier.Id >= k.Id }) {
			return false
		}
	}
	return true
}

func isLive(k impl.Key, now int) bool { return !(now < k.From) && !(k.To < now) }

func liveKeyOf(r impl.Ring, now int) int {
	found := -1
	for i, k := range r.Keys {
		if ringIsRight(r) && isLive(k, now) && (found < 0 || k.Id > r.Keys[found].Id) {
			found = i
		}
	}
	return found
}

func rotatedRing(r impl.Ring, secret string, now int, life int) impl.Ring {
	if !ringIsRight(r) || life < 0 || life > lastTime || now < 0 || now > lastTime {
		return r
	}
	next, greatest := impl.Ring{}, 0
	for _, k := range r.Keys {
		greatest = max(greatest, k.Id)
		if !(k.To < now) {
			next.Keys = append(next.Keys, k)
		}
	}
	next.Keys = append(next.Keys, impl.Key{Id: greatest + 1, Secret: secret, From: now, To: now + life})
	if !ringIsRight(next) {
		return r
	}
	return next
}

// macOf returns the last part of the sealed string that begins with head.
func macOf(secret string, head string) string {
	return base64.RawURLEncoding.EncodeToString([]byte(standardMac(secret, head)))
}

func sealedBy(k impl.Key, text string) string {
	head := fmt.Sprint("t", k.Id, ".", base64.RawURLEncoding.EncodeToString([]byte(text)))
	return head + "." + macOf(k.Secret, head)
}

func sealedIn(r impl.Ring, text string, now int) string {
	at := liveKeyOf(r, now)
	if at < 0 || len(text) > 300 {
		return ""
	}
	return sealedBy(r.Keys[at], text)
}

func openedWith(r impl.Ring, s string, now int) (string, int) {
	parts := sealForm.FindStringSubmatch(s)
	if parts == nil {
		return "", impl.SlForm
	}
	text, err := base64.RawURLEncoding.Strict().DecodeString(parts[2])
	if err != nil || len(text) > 300 {
		return "", impl.SlForm
	}
	at := slices.IndexFunc(r.Keys, func(k impl.Key) bool { return strconv.Itoa(k.Id) == parts[1] && isLive(k, now) })
	if at < 0 || !ringIsRight(r) {
		return "", impl.SlKey
	}
	if sealedBy(r.Keys[at], string(text)) != s {
		return "", impl.SlMac
	}
	return string(text), impl.SlOk
}

func checkRing(t *testing.T, r impl.Ring) {
	t.Helper()
	if got := impl.RingOk(r); got != ringIsRight(r) {
		t.Errorf("RingOk(%+v) = %v", r, got)
	}
}

func checkLive(t *testing.T, r impl.Ring, now int) int {
	t.Helper()
	got := impl.LiveKey(r, now)
	if want := liveKeyOf(r, now); got != want {
		t.Errorf("LiveKey(%+v, %d) = %d, want %d", r, now, got, want)
	}
	return got
}

func checkRotate(t *testing.T, r impl.Ring, secret string, now int, life int) impl.Ring {
	t.Helper()
	got := impl.Rotate(r, secret, now, life)
	if want := rotatedRing(r, secret, now, life); !sameRing(got, want) {
		t.Errorf("Rotate(%+v, %q, %d, %d) = %+v, want %+v", r, secret, now, life, got, want)
	}
	if impl.RingOk(got) != impl.RingOk(r) {
		t.Errorf("Rotate(%+v, %q, %d, %d) is valid or invalid other than before: %+v", r, secret, now, life, got)
	}
	return got
}

func checkSeal(t *testing.T, r impl.Ring, text string, now int) string {
	t.Helper()
	got := impl.Seal(r, text, now)
	if want := sealedIn(r, text, now); got != want {
		t.Errorf("Seal(%+v, %q, %d) = %q, want %q", r, text, now, got, want)
	}
	return got
}

func checkOpen(t *testing.T, r impl.Ring, s string, now int) int {
	t.Helper()
	got, code := impl.Open(r, s, now)
	if want, wantCode := openedWith(r, s, now); got != want || code != wantCode {
		t.Errorf("Open(%+v, %q, %d) = %q, %d, want %q, %d", r, s, now, got, code, want, wantCode)
	}
	return code
}

// checkOpens fails unless s is opened as text.
func checkOpens(t *testing.T, r impl.Ring, s string, now int, text string) {
	t.Helper()
	if got, code := impl.Open(r, s, now); got != text || code != impl.SlOk {
		t.Errorf("Open(%+v, %q, %d) = %q, %d, want %q", r, s, now, got, code, text)
	}
}

// checkRefused fails unless s is refused with the given code and no text.
func checkRefused(t *testing.T, r impl.Ring, s string, now int, code int) {
	t.Helper()
	if got, gotCode := impl.Open(r, s, now); got != "" || gotCode != code {
		t.Errorf("Open(%+v, %q, %d) = %q, %d, want the code %d", r, s, now, got, gotCode, code)
	}
}

func TestSealConstants(t *testing.T) {
	if impl.MaxKeys != 6 || impl.MaxTime != 999999999999 || impl.SlOk != 0 || impl.SlForm != 1 || impl.SlKey != 2 || impl.SlMac != 3 {
		t.Error("a constant has another value than in the document")
	}
}

func TestRingOkOfEachSize(t *testing.T) {
	for _, n := range []int{0, 1, 2, 3, 4, 5, 6, 7, 8, 12, 100, 1000} {
		if got := impl.RingOk(manyKeys(n)); got != (n <= maxKeys) {
			t.Errorf("RingOk of %d keys = %v", n, got)
		}
	}
	if !impl.RingOk(impl.Ring{}) || !impl.RingOk(impl.Ring{Keys: []impl.Key{}}) {
		t.Error("an empty ring is not valid")
	}
}

func TestRingOkOfEachKey(t *testing.T) {
	for _, key := range rightKeys() {
		if !impl.RingOk(ringOf(key)) {
			t.Errorf("RingOk rejects %+v", key)
		}
		if impl.RingOk(ringOf(key, key)) {
			t.Errorf("RingOk accepts two times %+v", key)
		}
		key.Id = 4
		if r := withKey(manyKeys(maxKeys), 3, key); !impl.RingOk(r) {
			t.Errorf("RingOk rejects %+v", r)
		}
	}
	for _, key := range wrongKeys() {
		for _, r := range []impl.Ring{ringOf(key), ringOf(key, keyOf(maxKeyId, "k")), ringOf(keyOf(1, "k"), key)} {
			if impl.RingOk(r) {
				t.Errorf("RingOk accepts %+v", r)
			}
		}
		if key.Id == 1 {
			key.Id = 4
		}
		if r := withKey(manyKeys(maxKeys), 3, key); impl.RingOk(r) {
			t.Errorf("RingOk accepts %+v", r)
		}
	}
	for _, r := range wrongRings() {
		if impl.RingOk(r) {
			t.Errorf("RingOk accepts %+v", r)
		}
	}
}

func TestRingOkOfIds(t *testing.T) {
	for _, row := range []struct {
		ids  []int
		want bool
	}{
		{[]int{0}, false}, {[]int{1}, true}, {[]int{maxKeyId}, true}, {[]int{maxKeyId + 1}, false}, {[]int{1, 2}, true}, {[]int{1, maxKeyId}, true}, {[]int{maxKeyId - 1, maxKeyId}, true}, {[]int{3, 7, 100, 5000}, true}, {[]int{5, 6, 7, 8, 9, 10}, true}, {[]int{1, 3, 9, 10, 900000, maxKeyId}, true},
		{[]int{1, 1}, false}, {[]int{maxKeyId, maxKeyId}, false}, {[]int{2, 1}, false}, {[]int{maxKeyId, 1}, false}, {[]int{1, 2, 2}, false}, {[]int{1, 1, 2}, false}, {[]int{1, 3, 2}, false}, {[]int{2, 1, 3}, false}, {[]int{3, 2, 1}, false}, {[]int{1, 2, 1}, false}, {[]int{10, 9}, false}, {[]int{9, 10}, true},
		{[]int{0, 1}, false}, {[]int{-1, 1}, false}, {[]int{1, 0}, false}, {[]int{maxKeyId, maxKeyId + 1}, false}, {[]int{maxKeyId + 1, maxKeyId + 2}, false}, {[]int{1, 2, 3, 4, 5, 5}, false}, {[]int{1, 2, 3, 4, 6, 5}, false}, {[]int{1, 2, 3, 4, 5, maxKeyId + 1}, false}, {[]int{0, 2, 3, 4, 5, 6}, false},
	} {
		var r impl.Ring
		for _, id := range row.ids {
			r.Keys = append(r.Keys, keyOf(id, "k"))
		}
		if got := impl.RingOk(r); got != row.want {
			t.Errorf("RingOk of the Ids %v = %v", row.ids, got)
		}
	}
}

// All rings of up to four keys with Ids of a few around the limits.
func TestRingOkOfAllShortRings(t *testing.T) {
	rings := []impl.Ring{{}}
	for range 4 {
		var longer []impl.Ring
		for _, r := range rings {
			for _, id := range []int{-1, 0, 1, 2, 3, maxKeyId, maxKeyId + 1} {
				longer = append(longer, ringOf(append(slices.Clone(r.Keys), keyOf(id, "k"))...))
			}
		}
		for _, r := range longer {
			checkRing(t, r)
		}
		rings = longer
	}
}

func TestRingOkOfTimes(t *testing.T) {
	for _, from := range farTimes() {
		for _, to := range farTimes() {
			want := 0 <= from && from <= to && to <= lastTime
			for _, r := range []impl.Ring{ringOf(keyFromTo(1, from, to)), ringOf(keyFromTo(1, from, to), keyOf(2, "k")), ringOf(keyOf(1, "k"), keyFromTo(2, from, to))} {
				if got := impl.RingOk(r); got != want {
					t.Errorf("RingOk(%+v) = %v", r, got)
				}
			}
		}
	}
}

func TestLiveKey(t *testing.T) {
	// The key with the greatest Id begins first and ends in between.
	mixed := ringOf(keyFromTo(2, 30, 90), keyFromTo(5, 20, 60), keyFromTo(9, 10, 40))
	apart := ringOf(keyFromTo(1, 10, 20), keyFromTo(2, 30, 30), keyFromTo(3, 32, 50))
	for _, row := range []struct {
		r    impl.Ring
		now  int
		want int
	}{
		{impl.Ring{}, 0, -1}, {impl.Ring{}, 50, -1}, {ringOf(), lastTime, -1}, {ringOf(keyOf(7, "k")), 9, -1}, {ringOf(keyOf(7, "k")), 10, 0}, {ringOf(keyOf(7, "k")), 50, 0}, {ringOf(keyOf(7, "k")), 100, 0}, {ringOf(keyOf(7, "k")), 101, -1},
		{mixed, 9, -1}, {mixed, 10, 2}, {mixed, 20, 2}, {mixed, 30, 2}, {mixed, 40, 2}, {mixed, 41, 1}, {mixed, 60, 1}, {mixed, 61, 0}, {mixed, 90, 0}, {mixed, 91, -1},
		{apart, 9, -1}, {apart, 10, 0}, {apart, 20, 0}, {apart, 21, -1}, {apart, 29, -1}, {apart, 30, 1}, {apart, 31, -1}, {apart, 32, 2}, {apart, 50, 2}, {apart, 51, -1},
		{manyKeys(2), 50, 1}, {manyKeys(maxKeys), 10, 5}, {manyKeys(maxKeys), 100, 5}, {manyKeys(maxKeys), 9, -1}, {manyKeys(maxKeys), 101, -1}, {withKey(manyKeys(maxKeys), 5, keyFromTo(6, 0, 49)), 50, 4}, {withKey(manyKeys(maxKeys), 5, keyFromTo(6, 51, 60)), 50, 4}, {manyKeys(maxKeys + 1), 50, -1},
		{ringOf(keyFromTo(1, 0, lastTime)), 0, 0}, {ringOf(keyFromTo(1, 0, lastTime)), lastTime, 0}, {ringOf(keyFromTo(1, 0, lastTime)), -1, -1}, {ringOf(keyFromTo(1, 0, lastTime)), lastTime + 1, -1}, {ringOf(keyFromTo(1, 0, 0)), 0, 0}, {ringOf(keyFromTo(1, 0, 0)), 1, -1}, {ringOf(keyFromTo(1, lastTime, lastTime)), lastTime - 1, -1}, {ringOf(keyFromTo(1, lastTime, lastTime)), lastTime, 0},
	} {
		if got := checkLive(t, row.r, row.now); got != row.want {
			t.Errorf("LiveKey(%+v, %d) = %d, want %d", row.r, row.now, got, row.want)
		}
	}
}

// keySpans are the lives of the keys in all rings of up to three keys below.
func keySpans() [][2]int {
	return [][2]int{{1, 1}, {1, 2}, {2, 2}, {2, 4}, {3, 3}, {4, 5}, {1, 5}, {5, 4}}
}

// forShortRings calls check with all rings of up to three keys with these lives.
func forShortRings(check func(r impl.Ring)) {
	check(impl.Ring{})
	for _, one := range keySpans() {
		a := keyFromTo(3, one[0], one[1])
		check(ringOf(a))
		for _, two := range keySpans() {
			b := keyFromTo(4, two[0], two[1])
			check(ringOf(a, b))
			for _, three := range keySpans() {
				check(ringOf(a, b, keyFromTo(10, three[0], three[1])))
			}
		}
	}
}

func TestShortRingsAtEachSecond(t *testing.T) {
	forShortRings(func(r impl.Ring) {
		checkRing(t, r)
		for now := -1; now <= 7; now++ {
			at := checkLive(t, r, now)
			s := checkSeal(t, r, "text", now)
			if (s == "") != (at < 0) {
				t.Errorf("with the live key %d of %+v Seal returns %q at %d", at, r, s, now)
			}
			for _, life := range []int{0, 1, 3} {
				checkRotate(t, r, "new", now, life)
			}
			for _, id := range []int{3, 4, 5, 10} {
				checkOpen(t, r, sealedBy(keyFromTo(id, 0, 0), "text"), now)
			}
		}
	})
}

func TestRotate(t *testing.T) {
	three := ringOf(keyFromTo(2, 0, 20), keyFromTo(5, 10, 30), keyFromTo(9, 20, 40))
	long := ringOf(keyFromTo(2, 0, 50), keyFromTo(5, 10, 30), keyFromTo(9, 20, 40))
	for _, row := range []struct {
		what string
		r    impl.Ring
		now  int
		want string
	}{
		{"an empty ring", impl.Ring{}, 50, "1"}, {"an empty ring at 0", impl.Ring{}, 0, "1"}, {"one key, not over", ringOf(keyOf(4, "k")), 50, "4 5"}, {"one key, at its last second", ringOf(keyOf(4, "k")), 100, "4 5"}, {"one key, just over", ringOf(keyOf(4, "k")), 101, "5"}, {"one key that has not begun", ringOf(keyOf(4, "k")), 9, "4 5"}, {"one key, at its first second", ringOf(keyOf(4, "k")), 10, "4 5"},
		{"none over", three, 0, "2 5 9 10"}, {"none over, at the last second of one", three, 20, "2 5 9 10"}, {"the first over", three, 21, "5 9 10"}, {"the first over, at the last second of one", three, 30, "5 9 10"}, {"two over", three, 31, "9 10"}, {"two over, at the last second of one", three, 40, "9 10"}, {"all over", three, 41, "10"}, {"all long over", three, lastTime - 60, "10"},
		{"a middle one over", long, 31, "2 9 10"}, {"the greatest over, too", long, 41, "2 10"}, {"all of them over", long, 51, "10"}, {"five keys", manyKeys(5), 50, "1 2 3 4 5 6"}, {"a full ring, none over", manyKeys(6), 50, "1 2 3 4 5 6"}, {"a full ring, none over yet", manyKeys(6), 100, "1 2 3 4 5 6"}, {"a full ring, all over", manyKeys(6), 101, "7"},
		{"a full ring, the first over", withKey(manyKeys(6), 0, keyFromTo(1, 0, 49)), 50, "2 3 4 5 6 7"}, {"a full ring, a middle one over", withKey(manyKeys(6), 2, keyFromTo(3, 0, 49)), 50, "1 2 4 5 6 7"}, {"a full ring, the last over", withKey(manyKeys(6), 5, keyFromTo(6, 0, 49)), 50, "1 2 3 4 5 7"}, {"a full ring, one at its last second", withKey(manyKeys(6), 2, keyFromTo(3, 0, 50)), 50, "1 2 3 4 5 6"},
		{"the greatest Id but one", ringOf(keyOf(maxKeyId-1, "k")), 50, "999998 999999"}, {"the greatest Id", ringOf(keyOf(maxKeyId, "k")), 50, "999999"}, {"the greatest Id, over", ringOf(keyOf(maxKeyId, "k")), 101, "999999"}, {"the greatest Id beside one that is over", ringOf(keyFromTo(1, 0, 5), keyOf(maxKeyId, "k")), 50, "1 999999"}, {"the greatest Id over beside one that is not", ringOf(keyOf(1, "k"), keyFromTo(maxKeyId, 0, 5)), 50, "1 999999"}, {"the greatest Id but one, over", ringOf(keyFromTo(1, 0, 200), keyOf(maxKeyId-1, "k")), 101, "1 999999"},
	} {
		got := checkRotate(t, row.r, "new", row.now, 60)
		if idsOf(got) != row.want {
			t.Errorf("%s: the ring holds the keys %q, want %q", row.what, idsOf(got), row.want)
		}
		for i, key := range got.Keys {
			if made := key.Secret == "new"; made && (i < len(got.Keys)-1 || key.From != row.now || key.To != row.now+60) || !made && !slices.Contains(row.r.Keys, key) {
				t.Errorf("%s: the ring holds %+v at %d", row.what, key, i)
			}
		}
	}
}

func TestRotateWithEachSecret(t *testing.T) {
	for _, r := range []impl.Ring{{}, manyKeys(2), manyKeys(5), ringOf(keyFromTo(3, 0, 5))} {
		for _, secret := range rightSecrets() {
			got := checkRotate(t, r, secret, 50, 60)
			if end := len(got.Keys) - 1; end < 0 || got.Keys[end].Secret != secret || got.Keys[end].From != 50 || got.Keys[end].To != 110 {
				t.Errorf("Rotate(%+v, %q) = %+v", r, secret, got)
			}
		}
		for _, secret := range wrongSecrets() {
			if got := checkRotate(t, r, secret, 50, 60); !sameRing(got, r) {
				t.Errorf("Rotate(%+v, %q) = %+v", r, secret, got)
			}
		}
	}
}

func TestRotateAtEachTime(t *testing.T) {
	for _, row := range []struct {
		now, life int
		want      bool
	}{
		{0, 0, true}, {0, 1, true}, {1, 0, true}, {50, 0, true}, {0, lastTime, true}, {lastTime, 0, true}, {1, lastTime - 1, true}, {lastTime - 1, 1, true}, {500000000000, 499999999999, true},
		{1, lastTime, false}, {lastTime, 1, false}, {lastTime - 1, 2, false}, {500000000000, 500000000000, false}, {lastTime, lastTime, false}, {0, -1, false}, {50, -1, false}, {50, -50, false}, {lastTime, -1, false}, {-1, 0, false}, {-1, 1, false}, {-1, 50, false}, {-50, 100, false}, {0, lastTime + 1, false}, {lastTime + 1, 0, false}, {lastTime + 1, -1, false}, {-1, lastTime + 1, false},
		{math.MaxInt, 1, false}, {math.MaxInt, lastTime, false}, {math.MaxInt, math.MaxInt, false}, {1, math.MaxInt, false}, {50, math.MaxInt, false}, {math.MinInt, -1, false}, {math.MinInt, math.MinInt, false}, {50, math.MinInt, false}, {math.MaxInt, math.MinInt, false}, {math.MinInt, math.MaxInt, false}, {math.MinInt, 0, false}, {math.MaxInt, 0, false},
	} {
		for _, r := range []impl.Ring{{}, ringOf(keyFromTo(3, 0, lastTime)), ringOf(keyFromTo(3, 0, 0), keyFromTo(8, 0, lastTime))} {
			got := checkRotate(t, r, "new", row.now, row.life)
			if row.want == sameRing(got, r) {
				t.Errorf("Rotate(%+v, %d, %d) = %+v", r, row.now, row.life, got)
			}
			if end := len(got.Keys) - 1; row.want && end >= 0 && (got.Keys[end].From != row.now || got.Keys[end].To != row.now+row.life) {
				t.Errorf("Rotate(%+v, %d, %d) = %+v", r, row.now, row.life, got)
			}
		}
	}
	for _, now := range farTimes() {
		for _, life := range farTimes() {
			for _, r := range []impl.Ring{{}, manyKeys(2), manyKeys(6), ringOf(keyFromTo(3, 0, lastTime))} {
				checkRotate(t, r, "new", now, life)
			}
		}
	}
}

// Promise 8: rotation keeps a ring valid, and what was sealed before opens until its key is over.
func TestManyRotations(t *testing.T) {
	for _, row := range []struct{ step, life, most int }{{10, 5, 1}, {10, 9, 1}, {10, 10, 2}, {10, 25, 3}, {10, 49, 5}, {10, 50, 6}, {10, 59, 6}, {10, 60, 6}, {10, 300, 6}, {1, 1000, 6}, {0, 0, 6}, {7, 30, 5}} {
		var r impl.Ring
		var sealed []string
		var ends []int
		most := 0
		for n := range 60 {
			now := n * row.step
			r = checkRotate(t, r, fmt.Sprint("key", n), now, row.life)
			if !impl.RingOk(r) {
				t.Fatalf("after %d rotations the ring is %+v", n+1, r)
			}
			at := impl.LiveKey(r, now)
			if at < 0 {
				t.Fatalf("after %d rotations no key is live at %d: %+v", n+1, now, r)
			}
			most = max(most, len(r.Keys))
			sealed = append(sealed, impl.Seal(r, "text", now))
			ends = append(ends, r.Keys[at].To)
			for i, s := range sealed {
				if ends[i] < now {
					checkRefused(t, r, s, now, impl.SlKey)
				} else {
					checkOpens(t, r, s, now, "text")
				}
			}
		}
		if most != row.most {
			t.Errorf("with a life of %d every %d seconds the ring has up to %d keys, want %d", row.life, row.step, most, row.most)
		}
	}
}

func TestRotateOfAnInvalidRing(t *testing.T) {
	for _, r := range wrongRings() {
		for _, now := range []int{0, 50, 101, lastTime, -1} {
			for _, secret := range []string{"new", ""} {
				if got := impl.Rotate(r, secret, now, 5); !sameRing(got, r) {
					t.Errorf("Rotate(%+v, %q, %d, 5) = %+v", r, secret, now, got)
				}
			}
		}
	}
}

func TestSealKnownValues(t *testing.T) {
	for _, row := range []struct {
		id                   int
		secret, text, sealed string
	}{
		{1, "k1", "hi", "t1.aGk.5j8zBn9ebutLmsgRuoBRXy8kx66_bDteaLXyj420cX0"},
		{1, "k", "", "t1..bXObDu9Mc-RcupeFjrjGu_Q2TJZr_rCD_5X0UVOCbbY"},
		{12, "key", "The quick brown fox.", "t12.VGhlIHF1aWNrIGJyb3duIGZveC4.tza-TDy6eRivVVqPHfGNGvVGQpel-HHnKZ5WZJZTXkg"},
		{maxKeyId, strings.Repeat("s", maxSecret), "\x00\xff.t1.aGk.", "t999999.AP8udDEuYUdrLg.RuR1E3TJsvxx4Rbo8FbO1eBk5L54sg1-UCDCdVRBHyg"},
		{7, "\x00", "\xfb\xff\xbe", "t7.-_--.PgtHFSVSG5q2zCsKIIj5k1HOgdkkhwQsH_O1k8u_YqU"},
	} {
		r := ringOf(keyOf(row.id, row.secret))
		if got := impl.Seal(r, row.text, 50); got != row.sealed {
			t.Errorf("Seal(%+v, %q) = %q, want %q", r, row.text, got, row.sealed)
		}
		checkOpens(t, r, row.sealed, 50, row.text)
	}
}

// sealTexts holds texts of at most 300 bytes, with dots, raw bytes and all lengths modulo 3.
func sealTexts() []string {
	list := append(oddTexts(), "a", "ab", "abc", "abcd", ".", "..", "...", "a.b", ".a.", "t1.aGk.", "t1.aGk.x", "user=ann&exp=50", "line\r\nline", strings.Repeat(".", maxSealed), strings.Repeat("\xff", maxSealed))
	for _, n := range []int{1, 2, 3, 63, 64, 65, 255, 256, 257, maxSealed - 2, maxSealed - 1, maxSealed} {
		list = append(list, messagesOf(n)...)
	}
	return list
}

func TestSealedTextsAreOpened(t *testing.T) {
	rings := []impl.Ring{ringOf(keyOf(1, "k")), ringOf(keyOf(maxKeyId, strings.Repeat("s", maxSecret))), manyKeys(maxKeys), ringOf(keyFromTo(3, 0, 49), keyOf(4, "\x00"), keyFromTo(20, 51, 90))}
	for _, r := range rings {
		for _, text := range sealTexts() {
			checkOpens(t, r, checkSeal(t, r, text, 50), 50, text)
		}
		for i := range 256 {
			text := string([]byte{byte(i), '.', byte(255 - i)})
			checkOpens(t, r, checkSeal(t, r, text, 50), 50, text)
		}
	}
	for _, secret := range rightSecrets() {
		r := ringOf(keyOf(5, secret))
		checkOpens(t, r, checkSeal(t, r, "text", 50), 50, "text")
	}
	for _, key := range rightKeys() {
		for _, now := range []int{key.From, key.To} {
			checkOpens(t, ringOf(key), checkSeal(t, ringOf(key), "text", now), now, "text")
		}
	}
}

func TestSealOfEachLength(t *testing.T) {
	r := ringOf(keyOf(1, "k"))
	for n := range maxSealed + 10 {
		for _, text := range messagesOf(n) {
			s := checkSeal(t, r, text, 50)
			if (s != "") != (n <= maxSealed) {
				t.Errorf("Seal of %d bytes = %q", n, s)
			}
			if s != "" {
				checkOpens(t, r, s, 50, text)
			}
			if n > maxSealed {
				checkRefused(t, r, sealedBy(r.Keys[0], text), 50, impl.SlForm)
			}
		}
	}
}

func TestSealWithTheGreatestLiveKey(t *testing.T) {
	mixed := ringOf(keyFromTo(2, 30, 90), keyFromTo(5, 20, 60), keyFromTo(9, 10, 40))
	for _, row := range []struct {
		now  int
		mark string
	}{{9, ""}, {10, "t9."}, {20, "t9."}, {30, "t9."}, {40, "t9."}, {41, "t5."}, {60, "t5."}, {61, "t2."}, {90, "t2."}, {91, ""}} {
		s := checkSeal(t, mixed, "text", row.now)
		if (s == "") != (row.mark == "") || !strings.HasPrefix(s, row.mark) {
			t.Errorf("at %d the sealed string is %q, want one with %q", row.now, s, row.mark)
		}
	}
}

// Promise 8: what Seal makes at any second of the key's life opens at each of them, and at no other one.
func TestOpenAtEachSecond(t *testing.T) {
	for _, span := range [][2]int{{0, 0}, {0, 20}, {10, 30}, {10, 11}, {10, 10}, {lastTime - 20, lastTime}, {lastTime, lastTime}} {
		key := keyFromTo(8, span[0], span[1])
		// Other keys, which live at other times, do not help.
		for _, r := range []impl.Ring{ringOf(key), ringOf(keyFromTo(2, 0, lastTime), key), ringOf(key, keyFromTo(9, 0, 5), keyFromTo(12, 0, 0))} {
			s := sealedBy(key, "text")
			for now := span[0] - 2; now <= span[1]+2; now++ {
				if now < span[0] || now > span[1] {
					checkRefused(t, r, s, now, impl.SlKey)
					continue
				}
				checkOpens(t, r, s, now, "text")
				if r.Keys[liveKeyOf(r, now)] == key {
					if made := impl.Seal(r, "text", now); made != s {
						t.Errorf("at %d Seal makes %q, not %q", now, made, s)
					}
				}
			}
			for _, now := range farTimes() {
				checkOpen(t, r, s, now)
				checkSeal(t, r, "text", now)
				checkLive(t, r, now)
			}
		}
	}
}

func TestOpenAfterRotations(t *testing.T) {
	r := impl.Rotate(impl.Ring{}, "one", 10, 50)
	one := impl.Seal(r, "text", 10)
	r = impl.Rotate(r, "two", 40, 50)
	two := impl.Seal(r, "text", 40)
	r = impl.Rotate(r, "three", 60, 50)
	three := impl.Seal(r, "text", 60)
	if idsOf(r) != "1 2 3" || !strings.HasPrefix(one, "t1.") || !strings.HasPrefix(two, "t2.") || !strings.HasPrefix(three, "t3.") {
		t.Fatalf("the ring is %+v with %q, %q and %q", r, one, two, three)
	}
	for _, row := range []struct {
		s        string
		from, to int
	}{{one, 10, 60}, {two, 40, 90}, {three, 60, 110}} {
		for now := range 120 {
			if now < row.from || now > row.to {
				checkRefused(t, r, row.s, now, impl.SlKey)
			} else {
				checkOpens(t, r, row.s, now, "text")
			}
		}
	}
	// Removed keys open nothing any more, at no time.
	r = impl.Rotate(r, "four", 91, 9)
	for _, now := range []int{10, 40, 60, 90, 91, 100} {
		checkRefused(t, r, one, now, impl.SlKey)
		checkRefused(t, r, two, now, impl.SlKey)
	}
	checkOpens(t, r, three, 91, "text")
	checkOpens(t, r, impl.Seal(r, "text", 91), 100, "text")
	// A rotation that is refused takes nothing away.
	checkOpens(t, impl.Rotate(r, "", 200, 5), three, 91, "text")
}

// Promise 8: a string with any changed bit is rejected.
func TestOpenOfEachChangedBit(t *testing.T) {
	same := ringOf(keyOf(1, "k"), keyOf(2, "k"), keyOf(3, "k"), keyOf(5, "k"), keyOf(9, "k"), keyOf(17, "k"))
	for _, r := range []impl.Ring{ringOf(keyOf(1, "k")), manyKeys(maxKeys), same, ringOf(keyOf(10, "a"), keyOf(11, "a"), keyOf(12, "b"), keyOf(30, "a"))} {
		for _, key := range r.Keys {
			for _, text := range []string{"", "h", "hi", "his", "a.b", "\x00\xff\x00\xff", strings.Repeat("x", maxSealed)} {
				s := sealedBy(key, text)
				checkOpens(t, r, s, 50, text)
				for bit := range 8 * len(s) {
					if checkOpen(t, r, flipBit(s, bit), 50) == impl.SlOk {
						t.Errorf("%q with the bit %d changed is opened as a sealed string", s, bit)
					}
				}
			}
		}
	}
}

// Every letter of the Mac counts, and the last one has no second notation although four of its bits decide.
func TestOpenOfEachChangedMac(t *testing.T) {
	r := ringOf(keyOf(1, "k"))
	s := sealedBy(r.Keys[0], "hi")
	head := strings.LastIndexByte(s, '.') + 1
	for at := head; at < len(s); at++ {
		for i := range 256 {
			if c := byte(i); c != s[at] {
				code := impl.SlMac
				if c == '.' {
					code = impl.SlForm
				}
				checkRefused(t, r, s[:at]+string([]byte{c})+s[at+1:], 50, code)
			}
		}
		checkRefused(t, r, s[:at], 50, impl.SlMac)
		checkRefused(t, r, s[:at]+s[at+1:], 50, impl.SlMac)
	}
	mac := s[head:]
	for _, other := range []string{"", mac + "A", "A" + mac, mac + "=", mac + " ", " " + mac, mac + "\n", mac + "\x00", mac + mac, strings.ToLower(mac), strings.ToUpper(mac), mac[:42], mac[1:], strings.Repeat("A", 43), macOf("K", s[:head-1]), macOf("", s[:head-1]), macOf("k", s[:head]), macOf("k", "hi"), macOf("k", "aGk"), macOf("k", "1.aGk"), macOf("k", ""), macOf(s[:head-1], "k"), impl.HexText(standardMac("k", s[:head-1])), base64.RawStdEncoding.EncodeToString([]byte(standardMac("k", s[:head-1]))) + "=", base64.RawURLEncoding.EncodeToString([]byte(standardSha("k" + s[:head-1])))} {
		checkRefused(t, r, s[:head]+other, 50, impl.SlMac)
	}
}

// A changed string that has the Mac of a live key is sealed, too.
func TestOpenOfOtherTextsWithTheirMac(t *testing.T) {
	r := ringOf(keyOf(1, "one"), keyOf(3, "three"), keyFromTo(5, 60, 70))
	for _, key := range r.Keys[:2] {
		for _, text := range []string{"", "h", "hi", "ho"} {
			checkOpens(t, r, sealedBy(key, text), 50, text)
		}
	}
	checkRefused(t, r, sealedBy(r.Keys[2], "hi"), 50, impl.SlKey)
	checkRefused(t, r, sealedBy(keyOf(1, "three"), "hi"), 50, impl.SlMac)
	checkRefused(t, r, sealedBy(keyOf(3, "one"), "hi"), 50, impl.SlMac)
	checkRefused(t, r, sealedBy(keyOf(2, "one"), "hi"), 50, impl.SlKey)
	// Mac fills a key up with zero bytes, so that these two are one.
	checkOpens(t, ringOf(keyOf(1, "k\x00")), sealedBy(keyOf(1, "k"), "hi"), 50, "hi")
	checkRefused(t, ringOf(keyOf(1, "\x00k")), sealedBy(keyOf(1, "k"), "hi"), 50, impl.SlMac)
}

func TestOpenOfChangedTexts(t *testing.T) {
	r := ringOf(keyOf(1, "k"), keyOf(10, "k"), keyFromTo(11, 60, 70), keyOf(12, "l"))
	codes := map[int]int{}
	for _, s := range []string{sealedBy(r.Keys[0], "hi"), sealedBy(r.Keys[1], ""), sealedBy(r.Keys[3], "abc.")} {
		changesOf(s, func(changed string) {
			code := checkOpen(t, r, changed, 50)
			codes[code]++
			if code == impl.SlOk && changed != s {
				t.Errorf("%q is opened, and %q, too", s, changed)
			}
		})
	}
	if codes[impl.SlForm] < 1000 || codes[impl.SlKey] < 10 || codes[impl.SlMac] < 1000 {
		t.Errorf("the codes are %v", codes)
	}
}

// formRows holds texts that are no sealed strings, whatever the ring; mac stands for any third part.
func formRows() []string {
	list := []string{
		"", ".", "..", "...", "t", "t1", "t1.", "t.", "t..", "t1.aGk", ".aGk.mac", "t1.aGk.mac.", "t1.aGk.mac.x", "t1.aGk..mac", "t1..aGk.mac", ".t1.aGk.mac", "t1.aGk.m.c", "t1.aGk.mac.t1.aGk.mac", "....", "t1...", "aGk", "t1aGk.mac", "mac",
		"1.aGk.mac", "T1.aGk.mac", "x1.aGk.mac", "tt1.aGk.mac", "1t.aGk.mac", " t1.aGk.mac", "t 1.aGk.mac", "t1 .aGk.mac", "\tt1.aGk.mac", "\x00t1.aGk.mac", "\xfft1.aGk.mac", "\ufefft1.aGk.mac", "k1.aGk.mac",
		"t.aGk.mac", "t01.aGk.mac", "t00.aGk.mac", "t001.aGk.mac", "t000001.aGk.mac", "t-1.aGk.mac", "t-0.aGk.mac", "t+1.aGk.mac", "t1x.aGk.mac", "tx.aGk.mac", "t0x1.aGk.mac", "t1e0.aGk.mac", "t1,0.aGk.mac", "t1_0.aGk.mac", "t\u0661.aGk.mac", "t1\n.aGk.mac", "t1\x00.aGk.mac",
		"t1000000000000.aGk.mac", "t0000000000001.aGk.mac", "t9999999999999.aGk.mac", "t9223372036854775807.aGk.mac", "t9223372036854775809.aGk.mac", "t18446744073709551617.aGk.mac", "t1" + strings.Repeat("0", 100) + ".aGk.mac",
		"t1.a.mac", "t1.a.b", "t1.aGkaA.mac", "t1.AAAAA.mac", "t1.aGl.mac", "t1.aGm.mac", "t1.aH.mac", "t1.aE.mac", "t1.AB.mac", "t1.AAB.mac", "t1.__.mac", "t1.___.mac", "t1.aGk=.mac", "t1.aA==.mac", "t1.=.mac", "t1.aGk .mac", "t1. aGk.mac", "t1.a Gk.mac", "t1.aGk\n.mac", "t1.aG\nk.mac", "t1.aG\r\nk.mac", "t1.+A.mac", "t1./A.mac", "t1.aG+k.mac", "t1.aG/k.mac", "t1.aG%6b.mac", "t1.\u00e4\u00e4.mac", "t1.\x00\x00.mac", "t1.\xff\xff.mac",
		"t1." + base64.RawURLEncoding.EncodeToString(make([]byte, maxSealed+1)) + ".mac", "t1." + base64.RawURLEncoding.EncodeToString(make([]byte, maxSealed+2)) + ".mac", "t1." + base64.RawURLEncoding.EncodeToString(make([]byte, 5000)) + ".mac", "t1." + strings.Repeat("a", 401) + ".mac",
	}
	for i := range 256 {
		c := string([]byte{byte(i)})
		if i < '0' || i > '9' {
			list = append(list, "t"+c+".aGk.mac", "t1"+c+".aGk.mac", "t"+c+"1.aGk.mac")
		}
		if i != 't' {
			list = append(list, c+"1.aGk.mac")
		}
		if !strings.Contains(b64Bytes, c) {
			list = append(list, "t1."+c+".mac", "t1.a"+c+"k.mac", "t1.aG"+c+".mac", "t1.aGk"+c+".mac", "t1."+c+"aGk.mac")
		}
	}
	return list
}

func TestOpenOfOtherForms(t *testing.T) {
	// The form decides before the ring and the time do.
	rings := append(wrongRings(), impl.Ring{}, ringOf(keyOf(1, "k")), ringOf(keyFromTo(1, 0, 5)), manyKeys(maxKeys))
	for _, s := range formRows() {
		for _, r := range rings {
			for _, now := range []int{50, -1, lastTime + 1} {
				checkRefused(t, r, s, now, impl.SlForm)
			}
		}
		if _, code := openedWith(ringOf(keyOf(1, "k")), s, 50); code != impl.SlForm {
			t.Errorf("the rules of the tests find the code %d for %q", code, s)
		}
	}
}

// Not even with the right Mac is a string opened that has another form.
func TestOpenOfOtherFormsWithTheirMac(t *testing.T) {
	r := ringOf(keyOf(1, "k"))
	for _, head := range []string{"1.aGk", "T1.aGk", "t01.aGk", "t001.aGk", "t+1.aGk", "t1 .aGk", "t 1.aGk", "t18446744073709551617.aGk", "t.aGk", "t1.aGl", "t1.aGk=", "t1.aG\nk", "t1.aG k", "t1.a", "t1. aGk", "t1", "aGk", "", "t1.aGk.", "t1.aGk.x", "t1..aGk", "tt1.aGk"} {
		checkRefused(t, r, head+"."+macOf("k", head), 50, impl.SlForm)
	}
	checkOpens(t, r, "t1.aGkA."+macOf("k", "t1.aGkA"), 50, "hi\x00")
}

func TestOpenCodes(t *testing.T) {
	key := keyOf(7, "k")
	r := ringOf(keyFromTo(3, 0, 49), key, keyFromTo(9, 51, 60))
	right := sealedBy(key, "hi")
	for _, row := range []struct {
		what string
		r    impl.Ring
		s    string
		now  int
		want int
	}{
		{"all right", r, right, 50, impl.SlOk}, {"all right, first second", r, right, 10, impl.SlOk}, {"all right, last second", r, right, 100, impl.SlOk}, {"no text", r, sealedBy(key, ""), 50, impl.SlOk},
		{"the key is over", r, right, 101, impl.SlKey}, {"the key has not begun", r, right, 9, impl.SlKey}, {"another key, over", r, sealedBy(r.Keys[0], "hi"), 50, impl.SlKey}, {"another key, at its last second", r, sealedBy(r.Keys[0], "hi"), 49, impl.SlOk}, {"another key, not begun", r, sealedBy(r.Keys[2], "hi"), 50, impl.SlKey}, {"another key, at its first second", r, sealedBy(r.Keys[2], "hi"), 51, impl.SlOk},
		{"an unknown key", r, sealedBy(keyOf(8, "k"), "hi"), 50, impl.SlKey}, {"an unknown key, above", r, sealedBy(keyOf(10, "k"), "hi"), 50, impl.SlKey}, {"the key 0", r, sealedBy(keyOf(0, "k"), "hi"), 50, impl.SlKey}, {"a key above the greatest", r, sealedBy(keyOf(maxKeyId+1, "k"), "hi"), 50, impl.SlKey}, {"the greatest number", r, sealedBy(keyOf(lastTime, "k"), "hi"), 50, impl.SlKey}, {"one more than that", r, sealedBy(keyOf(lastTime+1, "k"), "hi"), 50, impl.SlForm}, {"a negative key", r, sealedBy(keyOf(-7, "k"), "hi"), 50, impl.SlForm},
		{"an index for an Id", r, sealedBy(keyOf(1, "k"), "hi"), 50, impl.SlKey}, {"a wrong secret", r, sealedBy(keyOf(7, "K"), "hi"), 50, impl.SlMac}, {"a wrong Mac", r, "t7.aGk.AAAA", 50, impl.SlMac}, {"no Mac", r, "t7.aGk.", 50, impl.SlMac}, {"no text and no Mac", r, "t7..", 50, impl.SlMac}, {"a Mac that is not B64", r, "t7.aGk. =\n", 50, impl.SlMac},
		{"no form, and the key over", r, "t7.a.b", 101, impl.SlForm}, {"no form, and an unknown key", r, "t8.a.b", 50, impl.SlForm}, {"the key over, and a wrong Mac", r, "t7.aGk.b", 101, impl.SlKey}, {"an unknown key, and a wrong Mac", r, "t8.aGk.b", 50, impl.SlKey}, {"an empty ring", impl.Ring{}, right, 50, impl.SlKey}, {"an empty ring, and a wrong Mac", impl.Ring{}, "t7.aGk.b", 50, impl.SlKey}, {"an empty ring, and no form", impl.Ring{}, "t7.a.b", 50, impl.SlForm},
		{"an invalid ring", ringOf(key, key), right, 50, impl.SlKey}, {"an invalid ring, and a wrong Mac", ringOf(key, key), "t7.aGk.b", 50, impl.SlKey}, {"an invalid ring, and no form", ringOf(key, key), "t7.a.b", 50, impl.SlForm}, {"an invalid key after it", ringOf(key, keyOf(8, "")), right, 50, impl.SlKey}, {"an invalid key before it", ringOf(keyOf(0, "x"), key), right, 50, impl.SlKey},
	} {
		text := ""
		if row.want == impl.SlOk && !strings.HasPrefix(row.s, "t7..") {
			text = "hi"
		}
		if got, code := impl.Open(row.r, row.s, row.now); got != text || code != row.want {
			t.Errorf("%s: Open(%q, %d) = %q, %d, want %q, %d", row.what, row.s, row.now, got, code, text, row.want)
		}
		checkOpen(t, row.r, row.s, row.now)
	}
}

func TestAnInvalidRingSealsAndOpensNothing(t *testing.T) {
	for _, r := range append(wrongRings(), impl.Ring{}) {
		for _, now := range append(rightTimes(), wrongTimes()...) {
			if got := impl.LiveKey(r, now); got != -1 {
				t.Errorf("LiveKey(%+v, %d) = %d", r, now, got)
			}
			for _, text := range []string{"", "hi", strings.Repeat("x", maxSealed+1)} {
				if got := impl.Seal(r, text, now); got != "" {
					t.Errorf("Seal(%+v, %q, %d) = %q", r, text, now, got)
				}
			}
		}
		for _, key := range r.Keys[:min(len(r.Keys), maxKeys+2)] {
			if s := sealedBy(key, "hi"); sealForm.MatchString(s) {
				checkRefused(t, r, s, 50, impl.SlKey)
				checkRefused(t, r, s+"A", 50, impl.SlKey)
			}
		}
	}
}

func TestRingsOfEachKeyAtTheirTimes(t *testing.T) {
	for _, key := range append(rightKeys(), wrongKeys()...) {
		for _, r := range []impl.Ring{ringOf(key), ringOf(key, keyOf(maxKeyId, "k"))} {
			checkRing(t, r)
			for _, now := range []int{key.From - 1, key.From, key.To, key.To + 1, 50} {
				checkLive(t, r, now)
				checkSeal(t, r, "text", now)
				checkOpen(t, r, sealedBy(key, "text"), now)
				checkRotate(t, r, "new", now, 5)
			}
		}
	}
}

// Promise 21 for chapter 8: arguments stay as they are, spare capacity included, results are separate memory, and arguments beyond every limit return.
func TestRingArgumentsStay(t *testing.T) {
	keys := append(manyKeys(maxKeys).Keys, keyOf(7, "spare"), keyOf(8, "room"), keyOf(9, "room"))
	keys[1].To = 20
	keys[3].To = 40
	before := slices.Clone(keys)
	for n := range len(keys) + 1 {
		r := impl.Ring{Keys: keys[:n]}
		for _, now := range []int{-1, 10, 30, 50, 101} {
			for _, secret := range []string{"new", ""} {
				for _, life := range []int{-1, 0, 50, math.MaxInt} {
					impl.Rotate(r, secret, now, life)
				}
			}
			impl.RingOk(r)
			impl.LiveKey(r, now)
			impl.Open(r, impl.Seal(r, "text", now), now)
		}
		if !slices.Equal(keys, before) {
			t.Fatalf("after calls with %d keys they are %+v", n, keys)
		}
	}
}

func TestRotatedRingsAreNewMemory(t *testing.T) {
	for _, n := range []int{0, 1, 2, 5, 6, 7, 20} {
		for _, now := range []int{-1, 5, 50, 101} {
			for _, secret := range []string{"new", ""} {
				r := manyKeys(n)
				want := slices.Clone(impl.Rotate(r, secret, now, 5).Keys)
				spoil(impl.Rotate(r, secret, now, 5).Keys)
				if got := impl.Rotate(r, secret, now, 5); !slices.Equal(got.Keys, want) || !sameRing(r, manyKeys(n)) {
					t.Errorf("a changed ring shows in another one: %+v, %+v", got, r)
				}
				got := impl.Rotate(r, secret, now, 5)
				spoil(r.Keys)
				if !slices.Equal(got.Keys, want) {
					t.Errorf("a changed argument shows in the ring %+v", got)
				}
			}
		}
	}
}

func TestLongRingsAndTextsReturn(t *testing.T) {
	const size = 100000
	r := ringOf(keyOf(1, "k"))
	long := manyKeys(size)
	if impl.RingOk(long) || impl.LiveKey(long, 50) != -1 || impl.Seal(long, "text", 50) != "" || !sameRing(impl.Rotate(long, "k", 50, 5), long) {
		t.Errorf("%d keys are a ring", size)
	}
	checkRefused(t, long, sealedBy(long.Keys[0], "text"), 50, impl.SlKey)
	for _, unit := range []string{"a", ".", "t", "t1", "t1.", "t1.aGk.", "0", "1", "-", "_", " ", "=", "\x00", "\xff", "\u00e4"} {
		s := strings.Repeat(unit, size)
		if impl.Seal(r, s, 50) != "" || impl.RingOk(ringOf(keyOf(1, s))) || !sameRing(impl.Rotate(r, s, 50, 5), r) {
			t.Errorf("%d times %q is sealed or a secret", size, unit)
		}
		for _, odd := range []string{s, "t" + s, "t1." + s, "t1." + s + ".mac", "t" + s + ".aGk.mac", s + ".aGk.mac"} {
			checkRefused(t, r, odd, 50, impl.SlForm)
		}
		checkOpen(t, r, "t1.aGk."+s, 50)
		checkOpen(t, r, sealedBy(r.Keys[0], "hi")+s, 50)
	}
}
