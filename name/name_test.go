package name_test

import (
	"slices"
	"strings"
	"testing"
	"unsafe"

	"glacis/name"
)

// The numbers of the chapter, written out: a test that took them from the program would turn with it.
const (
	longest = 6
	deepest = 8
)

var (
	// Names that anybody may give.
	anyones = []string{"a", "!", "}", "0", "Z", ".", "..", "a.b", "a~", "!~", "a~~~~~", "sixsix", "!!!!!!", "}}}}}}", "A9_-", "\\", "\"'", "a\\b", "-~-", "*?%:"}
	// Names that are one's own alone.
	owns = []string{"~", "~~", "~3", "~a", "~~a", "~!", "~sixsi", "~~~~~~"}
	// Names that nobody may give, none of them with "/".
	nobodys = []string{"", "seven77", "~seven7", "a~~~~~~", "a b", " ", " a", "a ", "~ ", " ~", "\x7f", "\x7fa", "a\x7f", "\x1f", "\x00", "a\x00", "\x00a", "a\tb", "a\n", "\x80", "\xff", "\xc3\xa9", "aa\xc3\xa9", "\u2215", "~\x00", "~\xff", strings.Repeat("a", 255), strings.Repeat("a", 256), strings.Repeat("a", 257), strings.Repeat("a", 1<<16+1)}
)

// good tells, byte by byte, what the words say of a name.
func good(s string, own bool) bool {
	if s == "" || len(s) > longest || !own && s[0] == '~' {
		return false
	}
	for _, b := range []byte(s) {
		if b <= 32 || b >= 127 || b == '/' {
			return false
		}
	}
	return true
}

// read is what the words say of a way, byte by byte.
func read(path string, own bool) ([]string, bool) {
	if path == "/" {
		return nil, true
	}
	if path == "" || path[0] != '/' {
		return nil, false
	}
	var l []string
	from := 1
	for at := 1; at <= len(path); at++ {
		if at < len(path) && path[at] != '/' {
			continue
		}
		if !good(path[from:at], own) {
			return nil, false
		}
		l = append(l, path[from:at])
		from = at + 1
	}
	return l, len(l) <= deepest
}

// wantName: whether anybody may give it, and whether oneself.
func wantName(t *testing.T, s string, may, own bool) {
	t.Helper()
	if got := name.May(s); got != may {
		t.Errorf("May of %q: got %v", s, got)
	}
	if got := name.Own(s); got != own {
		t.Errorf("Own of %q: got %v", s, got)
	}
}

func wantParts(t *testing.T, path string, own bool, l ...string) {
	t.Helper()
	if got, ok := name.Parts(path, own); !ok || !slices.Equal(got, l) {
		t.Errorf("Parts of %q, %v: got %q %v, want %q", path, own, got, ok, l)
	}
}

// wantNoWay: beside the no there are no names.
func wantNoWay(t *testing.T, path string, own bool) {
	t.Helper()
	if got, ok := name.Parts(path, own); ok || len(got) != 0 {
		t.Errorf("Parts of %q, %v: got %q %v, want no", path, own, got, ok)
	}
}

// wantAsRead: path is told as the words say, and its parts are that way again.
func wantAsRead(t *testing.T, path string) {
	t.Helper()
	for _, own := range []bool{false, true} {
		l, ok := read(path, own)
		if !ok {
			wantNoWay(t, path, own)
			continue
		}
		wantParts(t, path, own, l...)
		if got, _ := name.Parts(path, own); name.Path(got...) != path {
			t.Errorf("the parts of %q, %v are the way %q", path, own, name.Path(got...))
		}
	}
}

// texts calls f with every text of at most n of these bytes.
func texts(bytes string, n int, f func(string)) {
	var longer func(s string)
	longer = func(s string) {
		f(s)
		if len(s) == n {
			return
		}
		for i := range len(bytes) {
			longer(s + bytes[i:i+1])
		}
	}
	longer("")
}

// mixed is n names that follow no plain order, the same ones for the same n and seed; with own some of them begin with "~".
func mixed(n, seed int, own bool) []string {
	x := uint32(seed)*2654435761 + uint32(n)
	next := func(below int) int {
		x = x*1664525 + 1013904223
		return int(x>>16) % below
	}
	var l []string
	for len(l) < n {
		b := make([]byte, 1+next(longest))
		for i := range b {
			b[i] = byte(33 + next(94))
		}
		if own && next(3) == 0 {
			b[0] = '~'
		}
		if good(string(b), own) {
			l = append(l, string(b))
		}
	}
	return l
}

// P6.1, Own and May: names that are written out.
func TestNamesKnown(t *testing.T) {
	for _, s := range anyones {
		wantName(t, s, true, true)
	}
	for _, s := range owns {
		wantName(t, s, false, true)
	}
	for _, s := range nobodys {
		wantName(t, s, false, false)
	}
	for _, s := range []string{"/", "//", "a/b", "/a", "a/", "~/", "/~", "aaaaa/", "/aaaaa", "aa/aaa"} {
		wantName(t, s, false, false)
	}
}

// P6.1, Own and May: each length, whatever the bytes are.
func TestNameLengths(t *testing.T) {
	for n := range 300 {
		fits := n >= 1 && n <= 6
		for _, s := range []string{"a", "!", "}", "0"} {
			wantName(t, strings.Repeat(s, n), fits, fits)
		}
		wantName(t, strings.Repeat("~", n), false, fits)
		wantName(t, strings.Repeat("/", n), false, false)
		wantName(t, strings.Repeat("\x00", n), false, false)
	}
}

// P6.1, Own and May: each byte, at each place of a name of each length.
func TestNameBytes(t *testing.T) {
	for n := 1; n <= longest+1; n++ {
		for at := range n {
			for b := range 256 {
				s := strings.Repeat("a", at) + string([]byte{byte(b)}) + strings.Repeat("a", n-at-1)
				own := n <= 6 && b >= 33 && b <= 126 && b != 47
				wantName(t, s, own && (at > 0 || b != 126), own)
			}
		}
	}
}

// P6.1, Own and May: every name of two bytes, and every one of some bytes at the edges.
func TestNamesAll(t *testing.T) {
	for a := range 256 {
		for b := range 256 {
			s := string([]byte{byte(a), byte(b)})
			wantName(t, s, good(s, false), good(s, true))
		}
	}
	texts(" !./0}~\x7f", 4, func(s string) { wantName(t, s, good(s, false), good(s, true)) })
	texts("~/a", 7, func(s string) { wantName(t, s, good(s, false), good(s, true)) })
}

// P6.1, Parts: the way without names, and ways that are written out.
func TestPartsKnown(t *testing.T) {
	for _, own := range []bool{false, true} {
		wantParts(t, "/", own)
		wantParts(t, "/a", own, "a")
		wantParts(t, "/a/b", own, "a", "b")
		wantParts(t, "/a/a", own, "a", "a")
		wantParts(t, "/b/a", own, "b", "a")
		wantParts(t, "/sixsix/!/a~", own, "sixsix", "!", "a~")
		wantParts(t, "/./../..", own, ".", "..", "..")
		wantParts(t, "/a/b/c/d/e/f/g/h", own, "a", "b", "c", "d", "e", "f", "g", "h")
	}
	wantParts(t, "/~", true, "~")
	wantParts(t, "/~3/a", true, "~3", "a")
	wantParts(t, "/a/~3", true, "a", "~3")
	wantParts(t, "/~1/~2/~3/~4/~5/~6/~7/~8", true, "~1", "~2", "~3", "~4", "~5", "~6", "~7", "~8")
}

// P6.1, Parts: ways of each count of names, up to the most, and of more.
func TestPartsDeep(t *testing.T) {
	for n := range 40 {
		for _, s := range append(slices.Clone(anyones), owns...) {
			path := strings.Repeat("/"+s, n)
			if n == 0 {
				path = "/"
			}
			for _, own := range []bool{false, true} {
				if n <= 8 && (own || n == 0 || s[0] != '~') {
					wantParts(t, path, own, slices.Repeat([]string{s}, n)...)
				} else {
					wantNoWay(t, path, own)
				}
			}
		}
	}
	eight := "/a/b/c/d/e/f/g/h"
	for _, own := range []bool{false, true} {
		for _, tail := range []string{"/", "/i", "/~", "//", "/ ", "/i/j", "/seven77", "/a/b/c/d/e/f/g/h"} {
			wantNoWay(t, eight+tail, own)
		}
	}
}

// P6.1, Parts: ways that are none.
func TestPartsNone(t *testing.T) {
	for _, own := range []bool{false, true} {
		for _, s := range []string{"", "a", "a/", "a/b", "~", "~/a", " /a", "\x00/a", "\\a", "\x2e", "sixsix", " /", "\x00"} {
			wantNoWay(t, s, own)
		}
		for _, s := range []string{"//", "///", "//a", "/a/", "/a//", "/a//b", "/a/b/", "//a/b", "/a/b//c", "/a/b/c//"} {
			wantNoWay(t, s, own)
		}
	}
}

// P6.1, Parts: one name that may not be, at each place of a way of each depth.
func TestPartsWithOneWrong(t *testing.T) {
	for n := 1; n <= deepest; n++ {
		for at := range n {
			put := func(s string) string {
				l := slices.Repeat([]string{"a"}, n)
				l[at] = s
				return "/" + strings.Join(l, "/")
			}
			for _, s := range nobodys {
				// Alone an empty name is none: that is the way without names.
				if n == 1 && s == "" {
					continue
				}
				wantNoWay(t, put(s), false)
				wantNoWay(t, put(s), true)
			}
			for _, s := range owns {
				wantNoWay(t, put(s), false)
				wantAsRead(t, put(s))
			}
			for _, s := range anyones {
				wantAsRead(t, put(s))
			}
			for b := range 256 {
				wantAsRead(t, put(string([]byte{byte(b)})))
				wantAsRead(t, put("a"+string([]byte{byte(b)})))
			}
		}
	}
}

// P6.1, Parts: several names that may not be, of both sorts, in each order.
func TestPartsWithSeveralWrong(t *testing.T) {
	names := slices.Concat(anyones[:4], owns[:4], nobodys[:12])
	for _, a := range names {
		for _, b := range names {
			for _, c := range names {
				wantAsRead(t, "/"+a+"/"+b+"/"+c)
			}
		}
	}
}

// P6.1, Parts: every text of some bytes that make a difference.
func TestPartsAll(t *testing.T) {
	texts("/a~ ", 8, func(s string) { wantAsRead(t, s) })
	texts("/a", 14, func(s string) { wantAsRead(t, s) })
	texts("/a", 6, func(s string) { wantAsRead(t, "/b/c/d/e/f"+s) })
	for b := range 256 {
		for n := range 20 {
			wantAsRead(t, strings.Repeat(string([]byte{byte(b)}), n))
			wantAsRead(t, "/"+strings.Repeat(string([]byte{byte(b)}), n))
		}
	}
}

// R1: ways far beyond what may be.
func TestPartsLong(t *testing.T) {
	for _, s := range []string{"/", "a", "/a", "/~", "a/", "/seven77", "\x00"} {
		wantNoWay(t, strings.Repeat(s, 1<<20), false)
		wantNoWay(t, strings.Repeat(s, 1<<20), true)
		wantNoWay(t, "/"+strings.Repeat(s, 1<<20), true)
	}
}

// P6.1, Path: of none, of one, of several, whatever the names are.
func TestPathKnown(t *testing.T) {
	for _, c := range []struct {
		l    []string
		path string
	}{
		{nil, "/"},
		{[]string{}, "/"},
		{[]string{"a"}, "/a"},
		{[]string{"~3"}, "/~3"},
		{[]string{"a", "b"}, "/a/b"},
		{[]string{"b", "a"}, "/b/a"},
		{[]string{"a", "a", "a"}, "/a/a/a"},
		{[]string{"a", "b", "c", "d", "e", "f", "g", "h"}, "/a/b/c/d/e/f/g/h"},
		{[]string{"1", "2", "3", "4", "5", "6", "7", "8", "9"}, "/1/2/3/4/5/6/7/8/9"},
		{[]string{""}, "/"},
		{[]string{"", ""}, "//"},
		{[]string{"a", ""}, "/a/"},
		{[]string{"", "a"}, "//a"},
		{[]string{"a", "", "b"}, "/a//b"},
		{[]string{"/"}, "//"},
		{[]string{"/a", "b/"}, "//a/b/"},
		{[]string{"seven77", " ", "\x00\xff"}, "/seven77/ /\x00\xff"},
	} {
		if got := name.Path(c.l...); got != c.path {
			t.Errorf("Path of %q: got %q, want %q", c.l, got, c.path)
		}
	}
	if got := name.Path(); got != "/" {
		t.Errorf("Path of nothing: got %q", got)
	}
	if got := name.Path(slices.Repeat([]string{"ab"}, 1<<16)...); got != strings.Repeat("/ab", 1<<16) {
		t.Error("Path of many names is another one")
	}
}

// P6.1, Parts and Path: names that may be are the parts of their way; one name more, and there is none.
func TestPartsOfPath(t *testing.T) {
	for seed := range 2000 {
		for n := range deepest + 2 {
			for _, own := range []bool{false, true} {
				l := mixed(n, seed, own)
				path := name.Path(l...)
				if n > 8 {
					wantNoWay(t, path, own)
					continue
				}
				wantParts(t, path, own, l...)
				wantParts(t, path, true, l...)
				wantAsRead(t, path)
			}
		}
	}
	for _, s := range append(slices.Clone(anyones), owns...) {
		wantParts(t, name.Path(s), true, s)
		wantParts(t, name.Path(s, "a", s), true, s, "a", s)
	}
}

// P6.1, Parts and Path: of different ways no two have the same parts, of different names no two the same way.
func TestPartsTellApart(t *testing.T) {
	seen := map[string]string{}
	texts("/ab~", 7, func(s string) {
		l, ok := name.Parts(s, true)
		if !ok {
			return
		}
		key := strings.Join(l, " ")
		if other, ok := seen[key]; ok {
			t.Errorf("%q and %q have the same parts", s, other)
		}
		seen[key] = s
	})
}

// R3: a list that is handed in, and the room behind it, stay as they were.
func TestPathList(t *testing.T) {
	all := []string{"b", "a", "", "c", "behind"}
	before := slices.Clone(all)
	if got := name.Path(all[:2]...); got != "/b/a" {
		t.Errorf("got %q", got)
	}
	if !slices.Equal(all, before) {
		t.Error("Path has changed its list")
	}
	path := name.Path(all...)
	all[0] = "x"
	if path != "/b/a//c/behind" {
		t.Errorf("a way has changed with the list that it was made of: %q", path)
	}
}

// R3: the parts that are told are new, and so is the room behind them.
func TestPartsNew(t *testing.T) {
	first, _ := name.Parts("/a/b", false)
	second, _ := name.Parts("/a/b", false)
	first[0], first[1] = "x", "y"
	first = append(first, "z")
	wantParts(t, "/a/b", false, "a", "b")
	if !slices.Equal(second, []string{"a", "b"}) {
		t.Errorf("two answers share memory: %q", second)
	}
	if longer := append(second[:cap(second)], "c"); slices.Contains(longer, "z") {
		t.Error("two answers share the room behind them")
	}
}

// within tells whether s lies in the memory of whole.
func within(whole, s string) bool {
	from, at := uintptr(unsafe.Pointer(unsafe.StringData(whole))), uintptr(unsafe.Pointer(unsafe.StringData(s)))
	return at >= from && at < from+uintptr(len(whole))
}

// R3: neither the parts nor a way lie in what was handed in.
func TestTextsNew(t *testing.T) {
	path := strings.Repeat("/sixsix", 8)
	l, _ := name.Parts(path, false)
	for _, s := range l {
		if within(path, s) {
			t.Errorf("%q lies in the way that was handed in", s)
		}
	}
	for n := 1; n <= len(l); n++ {
		if within(name.Path(l[:n]...), l[0]) {
			t.Errorf("the way of %d names shares their memory", n)
		}
	}
}

// R4: the same call tells the same, from several at once, whatever was asked between.
func TestSameEachTime(t *testing.T) {
	done := make(chan bool)
	for i := range 8 {
		go func() {
			name.Parts(name.Path(mixed(i, i, true)...), i%2 == 0)
			l, ok := name.Parts("/a/~3/b", true)
			none, is := name.Parts("/a/~3/b", false)
			done <- ok && !is && len(none) == 0 && name.Path(l...) == "/a/~3/b" && name.May("a") && !name.May("~3") && name.Own("~3")
		}()
	}
	for range 8 {
		if !<-done {
			t.Error("asked by several, it tells something else")
		}
	}
}
