package dir_test

import (
	"slices"
	"strings"
	"testing"
	"unsafe"

	"glacis/api"
	"glacis/dir"
)

// The numbers of the chapter, written out: a test that took them from the program would turn with it.
const (
	longestName = 6
	lastIno     = 9
	mostBytes   = 120
)

var (
	// Names that may be, rising by bytes.
	names = []string{"!", "!!", "!~", "-", ".", "..", "0", "00", "9", "A", "AA", "Z", "\\", "_", "a", "a!", "aa", "aaaaaa", "aab", "ab", "a~", "b", "sixsix", "z", "}", "~", "~!", "~1", "~~", "~~~~~~"}
	// Names that may not be.
	wrongNames = []string{"", "/", "a/", "/a", "a/b", "seven77", "~seven7", " ", "a b", "\x00", "\x1f", "\x7f", "\x80", "\xff", "\xc3\xa9", strings.Repeat("a", 255), strings.Repeat("a", 256), strings.Repeat("a", 257), strings.Repeat("a", 262)}
	// Numbers that no node has; some of them have a lowest byte that may be.
	wrongInos = []int{0, 10, 11, 255, 256, 257, 258, 265, -1, -2, -9, -255, -256, 1 << 16, 1<<16 + 1, 1<<32 + 1, 1 << 62, -1 << 63, 1<<63 - 1}
)

func entry(name string, ino int) api.Entry { return api.Entry{Name: name, Ino: ino} }

// list is these names, their numbers from 1 on, round and round.
func list(names ...string) []api.Entry {
	var l []api.Entry
	for i, s := range names {
		l = append(l, entry(s, i%lastIno+1))
	}
	return l
}

// goodName tells, byte by byte, what the words say of a name that is one's own.
func goodName(s string) bool {
	for _, b := range []byte(s) {
		if b <= 32 || b >= 127 || b == '/' {
			return false
		}
	}
	return s != "" && len(s) <= longestName
}

// below tells whether a stands ahead of b, byte by byte.
func below(a, b string) bool {
	for i := range min(len(a), len(b)) {
		if a[i] != b[i] {
			return a[i] < b[i]
		}
	}
	return len(a) < len(b)
}

// goodList tells what the words say of entries.
func goodList(l []api.Entry) bool {
	n := 0
	for i, e := range l {
		if !goodName(e.Name) || e.Ino < 1 || e.Ino > lastIno || i > 0 && !below(l[i-1].Name, e.Name) {
			return false
		}
		n += len(e.Name) + 2
	}
	return n <= mostBytes
}

// written is the bytes of entries that may be, from the last one to the first.
func written(l []api.Entry) string {
	s := ""
	for i := len(l) - 1; i >= 0; i-- {
		s = string([]byte{byte(len(l[i].Name))}) + l[i].Name + string([]byte{byte(l[i].Ino)}) + s
	}
	return s
}

// read is what the words say of a body.
func read(body string) ([]api.Entry, bool) {
	var l []api.Entry
	for at := 0; at < len(body); {
		from := at + 1
		to := from + int(body[at])
		if to >= len(body) {
			return nil, false
		}
		l = append(l, entry(body[from:to], int(body[to])))
		at = to + 1
	}
	return l, goodList(l)
}

// wantPut: the bytes of l are these, and are taken as l again.
func wantPut(t *testing.T, l []api.Entry, body string) {
	t.Helper()
	if got, ok := dir.Put(l); !ok || got != body {
		t.Errorf("Put of %v: got %q %v, want %q", l, got, ok, body)
	}
	if got, ok := dir.Take(body); !ok || !slices.Equal(got, l) {
		t.Errorf("Take of %q: got %v %v, want %v", body, got, ok, l)
	}
}

// wantNotPut: beside the no there are no bytes.
func wantNotPut(t *testing.T, l []api.Entry) {
	t.Helper()
	if got, ok := dir.Put(l); ok || got != "" {
		t.Errorf("Put of %v: got %q %v, want no", l, got, ok)
	}
}

// wantNotTaken: beside the no there are no entries.
func wantNotTaken(t *testing.T, body string) {
	t.Helper()
	if got, ok := dir.Take(body); ok || len(got) != 0 {
		t.Errorf("Take of %q: got %v %v, want no", body, got, ok)
	}
}

// wantListAsSaid: l is put, or refused, as the words say.
func wantListAsSaid(t *testing.T, l []api.Entry) {
	t.Helper()
	if goodList(l) {
		wantPut(t, l, written(l))
	} else {
		wantNotPut(t, l)
	}
}

// wantAsRead: body is taken, or refused, as the words say; what is taken is put as body again.
func wantAsRead(t *testing.T, body string) {
	t.Helper()
	l, ok := read(body)
	if !ok {
		wantNotTaken(t, body)
		return
	}
	wantPut(t, l, body)
}

func wantFind(t *testing.T, l []api.Entry, name string, ino int) {
	t.Helper()
	if got, ok := dir.Find(l, name); !ok || got != ino {
		t.Errorf("Find of %q in %v: got %d %v, want %d", name, l, got, ok, ino)
	}
}

func wantNotFound(t *testing.T, l []api.Entry, name string) {
	t.Helper()
	if got, ok := dir.Find(l, name); ok || got != 0 {
		t.Errorf("Find of %q in %v: got %d %v, want no", name, l, got, ok)
	}
}

func wantWith(t *testing.T, l []api.Entry, e api.Entry, want []api.Entry, is bool) {
	t.Helper()
	before := slices.Clone(l)
	if got, ok := dir.With(l, e); ok != is || !slices.Equal(got, want) {
		t.Errorf("With of %v in %v: got %v %v, want %v %v", e, before, got, ok, want, is)
	}
	if !slices.Equal(l, before) {
		t.Errorf("With of %v has changed %v to %v", e, before, l)
	}
}

func wantLess(t *testing.T, l []api.Entry, name string, want []api.Entry, is bool) {
	t.Helper()
	before := slices.Clone(l)
	if got, ok := dir.Less(l, name); ok != is || !slices.Equal(got, want) {
		t.Errorf("Less of %q in %v: got %v %v, want %v %v", name, before, got, ok, want, is)
	}
	if !slices.Equal(l, before) {
		t.Errorf("Less of %q has changed %v to %v", name, before, l)
	}
}

// texts calls f with every text of at most n of these bytes.
func texts(bytes string, n int, f func(string)) {
	var longer func(s string)
	longer = func(s string) {
		f(s)
		if len(s) == n {
			return
		}
		for i := range len(bytes) {
			longer(s + bytes[i:i+1])
		}
	}
	longer("")
}

// chance tells numbers that follow no plain order, the same ones for the same seed.
func chance(seed int) func(below int) int {
	x := uint32(seed)*2654435761 + 12345
	return func(below int) int {
		x = x*1664525 + 1013904223
		return int(x>>16) % below
	}
}

// mixed is at most n entries that rise, all of them in one body.
func mixed(n, seed int) []api.Entry {
	next := chance(seed)
	var l []api.Entry
	for range n {
		b := make([]byte, 1+next(longestName))
		for i := range b {
			b[i] = byte(33 + next(94))
		}
		e := entry(strings.ReplaceAll(string(b), "/", "~"), 1+next(lastIno))
		is := func(x api.Entry) bool { return x.Name == e.Name }
		if !slices.ContainsFunc(l, is) && len(written(l))+len(e.Name)+2 <= mostBytes {
			l = append(l, e)
		}
	}
	slices.SortFunc(l, func(a, b api.Entry) int { return strings.Compare(a.Name, b.Name) })
	return l
}

// P7.1, Put and Take: entries that are written out.
func TestPutKnown(t *testing.T) {
	wantPut(t, nil, "")
	wantPut(t, []api.Entry{}, "")
	wantPut(t, []api.Entry{entry("a", 1)}, "\x01a\x01")
	wantPut(t, []api.Entry{entry("a", 9)}, "\x01a\x09")
	wantPut(t, []api.Entry{entry("sixsix", 2)}, "\x06sixsix\x02")
	wantPut(t, []api.Entry{entry("~~~~~~", 2)}, "\x06~~~~~~\x02")
	wantPut(t, []api.Entry{entry("a", 2), entry("b", 2)}, "\x01a\x02\x01b\x02")
	wantPut(t, []api.Entry{entry("a", 9), entry("aa", 1), entry("b", 5)}, "\x01a\x09\x02aa\x01\x01b\x05")
	wantPut(t, []api.Entry{entry("10", 3), entry("9", 4), entry("A", 5), entry("a", 6), entry("~3", 7)}, "\x0210\x03\x019\x04\x01A\x05\x01a\x06\x02~3\x07")
}

// P7.1, Put: each Ino, and those that no node has, at each place.
func TestPutInos(t *testing.T) {
	for at := range 4 {
		with := func(ino int) []api.Entry {
			l := list("a", "b", "c", "d")
			l[at].Ino = ino
			return l
		}
		for ino := -300; ino <= 300; ino++ {
			wantListAsSaid(t, with(ino))
		}
		for ino := 1; ino <= 9; ino++ {
			wantPut(t, with(ino), written(with(ino)))
		}
		for _, ino := range wrongInos {
			wantNotPut(t, with(ino))
		}
	}
}

// P7.1, Put: names that may not be, at the place where they rise.
func TestPutNames(t *testing.T) {
	for _, s := range names {
		wantPut(t, []api.Entry{entry(s, 3)}, string([]byte{byte(len(s))})+s+"\x03")
	}
	for _, s := range wrongNames {
		wantNotPut(t, list(s))
		for n := range len(names) - 20 {
			l := list(append(slices.Clone(names[n:n+10]), s)...)
			slices.SortFunc(l, func(a, b api.Entry) int { return strings.Compare(a.Name, b.Name) })
			wantNotPut(t, l)
		}
	}
	for n := 1; n <= 8; n++ {
		for at := range n {
			for b := range 256 {
				s := strings.Repeat("a", at) + string([]byte{byte(b)}) + strings.Repeat("a", n-at-1)
				wantListAsSaid(t, list(s))
			}
		}
	}
}

// P7.1, Put: two names rise, or do not, by bytes, whichever they are and wherever they stand.
func TestPutRising(t *testing.T) {
	for i, a := range names {
		for j, b := range names {
			if i < j {
				wantPut(t, list(a, b), written(list(a, b)))
			} else {
				wantNotPut(t, list(a, b))
			}
			for _, c := range names {
				wantListAsSaid(t, list(a, b, c))
			}
		}
	}
	// One name twice, whether of one node or of two.
	wantNotPut(t, []api.Entry{entry("a", 2), entry("a", 2)})
	wantNotPut(t, []api.Entry{entry("a", 2), entry("a", 3)})
	// Two of many that stand the wrong way round, or are alike.
	for n := 2; n <= 20; n++ {
		for at := range n - 1 {
			l := list(names[:n]...)
			l[at], l[at+1] = l[at+1], l[at]
			wantNotPut(t, l)
			l[at] = l[at+1]
			wantNotPut(t, l)
		}
	}
	// Numbers do not count: they may rise, fall and be alike.
	wantPut(t, []api.Entry{entry("a", 9), entry("b", 1), entry("c", 1), entry("d", 4)}, "\x01a\x09\x01b\x01\x01c\x01\x01d\x04")
}

// short is n entries with names of one byte.
func short(n int) []api.Entry {
	var l []api.Entry
	for b := 33; len(l) < n; b++ {
		if b != '/' {
			l = append(l, entry(string([]byte{byte(b)}), 1))
		}
	}
	return l
}

// long is n entries with names of six bytes.
func long(n int) []api.Entry {
	var l []api.Entry
	for i := range n {
		l = append(l, entry("name"+string([]byte{byte('a' + i/10), byte('0' + i%10)}), 1))
	}
	return l
}

// P7.1, Put and Take: just so many bytes as a body may have, one less, one more, and many more.
func TestRoom(t *testing.T) {
	wantPut(t, short(40), written(short(40)))
	wantPut(t, long(15), written(long(15)))
	if n := len(written(short(40))); n != 120 {
		t.Fatalf("forty short names have %d bytes", n)
	}
	if n := len(written(long(15))); n != 120 {
		t.Fatalf("fifteen long names have %d bytes", n)
	}
	// 14 long names have 112 bytes: behind them there is room for a name of any length.
	for n := 1; n <= 6; n++ {
		l := append(long(14), entry(strings.Repeat("z", n), 9))
		wantPut(t, l, written(l))
	}
	// 39 short names have 117 bytes: behind them there is room for 3.
	for n := 1; n <= 6; n++ {
		l := append(short(39), entry(strings.Repeat("z", n), 9))
		if n == 1 {
			wantPut(t, l, written(l))
			continue
		}
		wantNotPut(t, l)
		wantNotTaken(t, written(l))
	}
	for _, l := range [][]api.Entry{short(41), short(42), short(90), long(16), long(17), long(32), long(40), append(long(15), entry("z", 9))} {
		wantNotPut(t, l)
		wantNotTaken(t, written(l))
	}
	// 121 bytes, the first count that is too much.
	l := append(long(14), entry("y", 9), entry("zzzz", 2))
	if n := len(written(l)); n != 121 {
		t.Fatalf("%d bytes, want 121", n)
	}
	wantNotPut(t, l)
	wantNotTaken(t, written(l))
}

// P7.1, Put: of each count of bytes about the most that may be.
func TestRoomEachCount(t *testing.T) {
	seen := map[int]bool{}
	for n := range 16 {
		for short := 1; short <= 6; short++ {
			for other := 1; other <= 6; other++ {
				l := append(long(n), entry(strings.Repeat("y", short), 3), entry(strings.Repeat("z", other), 4))
				wantListAsSaid(t, l)
				wantAsRead(t, written(l))
				seen[len(written(l))] = true
			}
		}
	}
	for n := 112; n <= 128; n++ {
		if !seen[n] {
			t.Errorf("no body of %d bytes was tried", n)
		}
	}
}

// P7.1, Take: of nothing, no entries; of what is no body, nothing.
func TestTakeKnown(t *testing.T) {
	if got, ok := dir.Take(""); !ok || len(got) != 0 {
		t.Errorf("Take of nothing: got %v %v", got, ok)
	}
	for _, s := range []string{
		"\x00", "\x01", "\x01a", "\x02a", "\x02ab", "\xff", "a", "\x01a\x01\x01", // cut short
		"\x00\x01", "\x00\x02\x01a\x02", "\x01a\x02\x00\x02", // an empty name
		"\x02a\x02", "\x03ab\x02", "\x06a\x02", "\xffa\x02", "\x01a\x02\x02b\x02", // a length that reaches past the end
		"\x01a\x02\x00", "\x01a\x02a", "\x01a\x02\x02", "\x01a\x02\x01b", // bytes behind the last entry
		"\x01a\x00", "\x01a\x0a", "\x01a\xff", "\x01a\x80", "\x01a1", "\x01a\x02\x01b\x00", "\x01a\x00\x01b\x02", // Ino may not be
		"\x01b\x02\x01a\x02", "\x01a\x02\x01a\x02", "\x01a\x02\x01a\x03", "\x02aa\x02\x01a\x02", // they do not rise
		"\x01/\x02", "\x01 \x02", "\x02a \x02", "\x01\x7f\x02", "\x01\x00\x02", "\x01\xff\x02", "\x07seven77\x02", "\x03a/b\x02", // a name may not be
	} {
		wantNotTaken(t, s)
	}
}

// P7.1, Take: a body that is cut short anywhere is one of fewer entries, or none.
func TestTakeCut(t *testing.T) {
	for _, l := range [][]api.Entry{list("a"), list("sixsix"), list("a", "bb", "ccc", "dddd"), list(names[:20]...), short(40), long(15)} {
		body := written(l)
		whole := map[int]int{}
		for n := range len(l) + 1 {
			whole[len(written(l[:n]))] = n
		}
		for cut := range len(body) + 1 {
			if n, ok := whole[cut]; ok {
				wantPut(t, l[:n], body[:cut])
			} else {
				wantNotTaken(t, body[:cut])
			}
			wantAsRead(t, body[cut:])
		}
	}
}

// P7.1, Take: a body with one byte more, ahead, between or behind, or one less, or another one.
func TestTakeTurned(t *testing.T) {
	for _, l := range [][]api.Entry{list("a"), list("a", "b"), list("a", "bb", "~1"), list("sixsix", "t")} {
		body := written(l)
		for at := range len(body) + 1 {
			for b := range 256 {
				one := string([]byte{byte(b)})
				wantAsRead(t, body[:at]+one+body[at:])
				if at < len(body) {
					wantAsRead(t, body[:at]+one+body[at+1:])
				}
			}
			if at < len(body) {
				wantAsRead(t, body[:at]+body[at+1:])
			}
		}
		for b := range 256 {
			wantNotTaken(t, body+string([]byte{byte(b)}))
		}
	}
}

// P7.1, Take: every text of some bytes that make a difference, and every one of three bytes.
func TestTakeAll(t *testing.T) {
	texts("\x00\x01\x02ab", 8, func(s string) { wantAsRead(t, s) })
	texts("\x01a\x09\x0a", 9, func(s string) { wantAsRead(t, s) })
	for a := range 256 {
		for b := range 256 {
			wantAsRead(t, string([]byte{byte(a)}))
			wantAsRead(t, string([]byte{byte(a), byte(b)}))
			wantAsRead(t, string([]byte{1, byte(a), byte(b)}))
			wantAsRead(t, string([]byte{byte(a), 'a', byte(b)}))
			wantAsRead(t, string([]byte{1, byte(a), 2, 1, byte(b), 3}))
			wantAsRead(t, string([]byte{2, 'a', byte(a), 2, 2, 'a', byte(b), 3}))
		}
	}
}

// P7.1, Put and Take: what is put is taken, and of different bodies no two have the same entries.
func TestPutIsTaken(t *testing.T) {
	seen := map[string][]api.Entry{}
	for seed := range 3000 {
		l := mixed(seed%30, seed)
		wantPut(t, l, written(l))
		body, _ := dir.Put(l)
		if other, ok := seen[body]; ok && !slices.Equal(other, l) {
			t.Errorf("%v and %v have one body", l, other)
		}
		seen[body] = l
	}
}

// P7.1, Find: names that are there, and such that are not.
func TestFind(t *testing.T) {
	l := []api.Entry{entry("b", 7), entry("d", 2), entry("da", 9), entry("f", 7)}
	wantFind(t, l, "b", 7)
	wantFind(t, l, "d", 2)
	wantFind(t, l, "da", 9)
	wantFind(t, l, "f", 7)
	for _, s := range []string{"", "a", "ba", "c", "cz", "D", "d!", "d~", "dab", "e", "g", "f!", "~", "B", "/", "b/", "/b", "seven77", "\x00", "\xff"} {
		wantNotFound(t, l, s)
		wantNotFound(t, nil, s)
		wantNotFound(t, []api.Entry{}, s)
	}
	for n := range len(names) + 1 {
		for from := range n {
			l := list(names[from:n]...)
			for i, s := range names {
				if i >= from && i < n {
					wantFind(t, l, s, l[i-from].Ino)
				} else {
					wantNotFound(t, l, s)
				}
			}
		}
	}
}

// P7.1, With: before the first, between, behind the last, and in no entries.
func TestWithKnown(t *testing.T) {
	b, d := entry("b", 2), entry("d", 3)
	for _, s := range []string{"a", "!", "B", "a~", "aaaaaa"} {
		wantWith(t, []api.Entry{b, d}, entry(s, 7), []api.Entry{entry(s, 7), b, d}, true)
	}
	for _, s := range []string{"c", "ba", "b!", "cccccc", "c~"} {
		wantWith(t, []api.Entry{b, d}, entry(s, 7), []api.Entry{b, entry(s, 7), d}, true)
	}
	for _, s := range []string{"e", "da", "d!", "~", "}"} {
		wantWith(t, []api.Entry{b, d}, entry(s, 7), []api.Entry{b, d, entry(s, 7)}, true)
	}
	wantWith(t, nil, entry("a", 7), []api.Entry{entry("a", 7)}, true)
	wantWith(t, []api.Entry{}, entry("a", 7), []api.Entry{entry("a", 7)}, true)
	for _, ino := range []int{2, 3, 7, 0} {
		wantWith(t, []api.Entry{b, d}, entry("b", ino), []api.Entry{b, d}, false)
		wantWith(t, []api.Entry{b, d}, entry("d", ino), []api.Entry{b, d}, false)
		wantWith(t, []api.Entry{b}, entry("b", ino), []api.Entry{b}, false)
	}
	// A node may have several names in one folder.
	wantWith(t, []api.Entry{b, d}, entry("c", 2), []api.Entry{b, entry("c", 2), d}, true)
}

// P7.1, Less: the first, one between, the last, the only one, and names that are not there.
func TestLessKnown(t *testing.T) {
	b, d, f := entry("b", 2), entry("d", 3), entry("f", 2)
	all := []api.Entry{b, d, f}
	wantLess(t, all, "b", []api.Entry{d, f}, true)
	wantLess(t, all, "d", []api.Entry{b, f}, true)
	wantLess(t, all, "f", []api.Entry{b, d}, true)
	wantLess(t, []api.Entry{b}, "b", nil, true)
	for _, s := range []string{"", "a", "c", "e", "g", "ba", "B", "d!", "~", "/", "seven77", "\x00", "\xff"} {
		wantLess(t, all, s, all, false)
		wantLess(t, []api.Entry{b}, s, []api.Entry{b}, false)
		wantLess(t, nil, s, nil, false)
		wantLess(t, []api.Entry{}, s, nil, false)
	}
}

// P7.1, With and Less: each name, in and out of each list; what is told rises.
func TestWithAndLess(t *testing.T) {
	for n := range 13 {
		for which := range 1 << min(n, 6) {
			var l []api.Entry
			for i, s := range names[:n] {
				if which>>(i%6)&1 == 1 {
					l = append(l, entry(s, i%lastIno+1))
				}
			}
			for i, s := range names[:n] {
				at := slices.IndexFunc(l, func(x api.Entry) bool { return x.Name == s })
				e := entry(s, (i+4)%lastIno+1)
				if at >= 0 {
					wantWith(t, l, e, l, false)
					wantLess(t, l, s, append(slices.Clone(l[:at]), l[at+1:]...), true)
					continue
				}
				more := append(slices.Clone(l), e)
				slices.SortFunc(more, func(a, b api.Entry) int { return strings.Compare(a.Name, b.Name) })
				wantLess(t, l, s, l, false)
				wantWith(t, l, e, more, true)
				wantLess(t, more, s, l, true)
				wantPut(t, more, written(more))
			}
		}
	}
}

// P7.1, With and Less: names come and go in no plain order, and each is found as it was given.
func TestComeAndGo(t *testing.T) {
	for seed := range 200 {
		next := chance(seed)
		var l []api.Entry
		held := map[string]int{}
		for range 60 {
			e := entry(names[next(len(names))], 1+next(lastIno))
			_, is := held[e.Name]
			var ok bool
			if next(2) == 0 {
				if l, ok = dir.With(l, e); ok == is {
					t.Fatalf("With of %q: got %v", e.Name, ok)
				}
				if !is {
					held[e.Name] = e.Ino
				}
			} else {
				if l, ok = dir.Less(l, e.Name); ok != is {
					t.Fatalf("Less of %q: got %v", e.Name, ok)
				}
				delete(held, e.Name)
			}
			if len(l) != len(held) {
				t.Fatalf("%d entries, want %d", len(l), len(held))
			}
			for s, ino := range held {
				wantFind(t, l, s, ino)
			}
			wantListAsSaid(t, l)
		}
	}
}

// P7.1, With: it does not ask whether the entry may be; Put does.
func TestWithWhatMayNotBe(t *testing.T) {
	b := entry("b", 2)
	for _, e := range []api.Entry{entry("c", 0), entry("c", 10), entry("c", -1), entry("seven77", 2), entry("c/", 2)} {
		wantWith(t, []api.Entry{b}, e, []api.Entry{b, e}, true)
		l, _ := dir.With([]api.Entry{b}, e)
		wantNotPut(t, l)
	}
	wantWith(t, []api.Entry{b}, entry("", 2), []api.Entry{entry("", 2), b}, true)
	// More than there is room for.
	more, ok := dir.With(short(40), entry("z", 2))
	if !ok || len(more) != 41 {
		t.Errorf("With of a name too much: got %d entries %v", len(more), ok)
	}
	wantNotPut(t, more)
}

// R1: what is no list that rises, and far more than may be, ends and does not panic.
func TestWhateverItIs(t *testing.T) {
	many := slices.Repeat(list("b", "a", "", "seven77"), 1<<16)
	wantNotPut(t, many)
	wantNotPut(t, slices.Repeat(list("a"), 1<<16))
	for _, s := range []string{"", "a", "b", "z", "\x00"} {
		dir.Find(many, s)
		dir.With(many, entry(s, -1))
		dir.Less(many, s)
	}
	for _, s := range []string{"\x00", "\x01a\x02", "\xff", "\x00\x01", "\x01", "a"} {
		wantNotTaken(t, strings.Repeat(s, 1<<20))
	}
	// Names that rise, each of which may be, but far too many.
	var l []api.Entry
	for a := 'A'; a <= 'Z'; a++ {
		for b := 'a'; b <= 'z'; b++ {
			for c := 'a'; c <= 'z'; c++ {
				l = append(l, entry(string([]rune{a, b, c}), 2))
			}
		}
	}
	wantNotPut(t, l)
	wantNotTaken(t, written(l[:600]))
}

// R3: neither a list nor the room behind it changes.
func TestRoomBehind(t *testing.T) {
	room := list("b", "d", "f", "h", "j")
	before := slices.Clone(room)
	for n := range len(room) + 1 {
		l := room[:n]
		for _, s := range []string{"a", "b", "c", "d", "e", "f", "g", "h", "i", "j", "k"} {
			with, _ := dir.With(l, entry(s, 5))
			less, _ := dir.Less(l, s)
			dir.Find(l, s)
			dir.Put(l)
			for _, got := range [][]api.Entry{with, less} {
				got = got[:cap(got)]
				for i := range got {
					got[i] = entry("x", 1)
				}
			}
			if !slices.Equal(room, before) {
				t.Fatalf("%q in %d entries: what was handed in is %v", s, n, room)
			}
		}
	}
}

// R3: what was told stays as it was, whatever is done to what it was made of, or told next.
func TestAnswersNew(t *testing.T) {
	l := list("b", "d")
	with, _ := dir.With(l, entry("c", 7))
	same, _ := dir.With(l, entry("d", 7))
	less, _ := dir.Less(l, "b")
	none, _ := dir.Less(l, "c")
	first, _ := dir.Take("\x01a\x02\x01b\x03")
	second, _ := dir.Take("\x01a\x02\x01b\x03")
	l[0], l[1] = entry("x", 1), entry("y", 1)
	first[0], first[1] = entry("x", 1), entry("y", 1)
	if !slices.Equal(with, []api.Entry{entry("b", 1), entry("c", 7), entry("d", 2)}) {
		t.Errorf("With: %v", with)
	}
	if !slices.Equal(same, list("b", "d")) || !slices.Equal(none, list("b", "d")) {
		t.Errorf("beside a no: %v, %v", same, none)
	}
	if !slices.Equal(less, []api.Entry{entry("d", 2)}) {
		t.Errorf("Less: %v", less)
	}
	if !slices.Equal(second, []api.Entry{entry("a", 2), entry("b", 3)}) {
		t.Errorf("Take: %v", second)
	}
}

// within tells whether s lies in the memory of whole.
func within(whole, s string) bool {
	from, at := uintptr(unsafe.Pointer(unsafe.StringData(whole))), uintptr(unsafe.Pointer(unsafe.StringData(s)))
	return at >= from && at < from+uintptr(len(whole))
}

// R3: the names that are told do not lie in what was handed in.
func TestNamesNew(t *testing.T) {
	body := written(long(15))
	l, _ := dir.Take(body)
	for _, e := range l {
		if within(body, e.Name) {
			t.Errorf("%q lies in the body that was handed in", e.Name)
		}
	}
	kept := l[3].Name
	with, _ := dir.With(l, entry("z", 2))
	same, _ := dir.With(l, entry(kept, 2))
	less, _ := dir.Less(l, l[0].Name)
	for _, got := range [][]api.Entry{with, same, less} {
		for _, e := range got {
			if within(kept, e.Name) {
				t.Errorf("%q lies in a name that was handed in", e.Name)
			}
		}
	}
}

// R4: the same call tells the same, from several at once, whatever was asked between.
func TestSameEachTime(t *testing.T) {
	l := list("a", "c", "e")
	done := make(chan bool)
	for i := range 8 {
		go func() {
			dir.Put(mixed(i*3, i))
			body, ok := dir.Put(l)
			back, is := dir.Take(body)
			ino, there := dir.Find(l, "c")
			with, new := dir.With(l, entry("b", 9))
			less, old := dir.Less(with, "b")
			done <- ok && is && there && new && old && ino == 2 && body == "\x01a\x01\x01c\x02\x01e\x03" && slices.Equal(back, l) && len(with) == 4 && slices.Equal(less, l)
		}()
	}
	for range 8 {
		if !<-done {
			t.Error("asked by several, it tells something else")
		}
	}
}
