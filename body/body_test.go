package body_test

import (
	"math"
	"slices"
	"strings"
	"testing"
	"unsafe"

	"glacis/api"
	"glacis/body"
	"glacis/edit"
	"glacis/tree"
)

// The numbers of the chapters, written out: a test that took them from the program would turn with it.
const (
	nodes    = 9
	most     = 120
	mostMode = 255
)

func file(mode int, text string) api.Node {
	return api.Node{Kind: 1, Mode: mode, Body: text}
}

// folder has the names l, which rise, behind each the number of its node as one digit.
func folder(mode int, l ...string) api.Node {
	var b strings.Builder
	for _, e := range entries(l...) {
		b.WriteByte(byte(len(e.Name)))
		b.WriteString(e.Name)
		b.WriteByte(byte(e.Ino))
	}
	return api.Node{Kind: 2, Mode: mode, Body: b.String()}
}

func entries(l ...string) []api.Entry {
	var out []api.Entry
	for _, s := range l {
		last := len(s) - 1
		out = append(out, api.Entry{Name: s[:last], Ino: int(s[last] - '0')})
	}
	return out
}

// of is these nodes, and behind them such that are not there.
func of(l ...api.Node) api.Tree {
	return append(slices.Clone(l), make(api.Tree, nodes-len(l))...)
}

// some is a tree with a folder in a folder (4 in 2), an empty one (7), a file of three names in three folders (3), one of two in one (6), and one's own names; node 9 is not there.
func some() api.Tree {
	return of(
		folder(7, "a2", "b3", "e6", "f6", "g7", "~28"),
		folder(1, "c3", "d4"),
		file(2, "glacier"),
		folder(0, "x3", "~55"),
		file(255, "ice\x00"),
		file(0, ""),
		folder(255),
		file(254, all(most)),
	)
}

// deep is folders that lie in one another, as deep as may be, and a file at the end.
func deep() api.Tree {
	t := of()
	for i := range nodes - 1 {
		t[i] = folder(i, "a"+string([]byte{byte('2' + i)}))
	}
	t[nodes-1] = file(9, "deep")
	return t
}

// many is one file with as many names as three folders have room for.
func many() api.Tree {
	var l []string
	for c := byte('0'); len(l) < 38; c++ {
		l = append(l, string([]byte{c, '4'}))
	}
	return of(folder(7, append(slices.Clone(l), "y2", "z3")...), folder(3, append(l, "y4", "z4")...), folder(4, l...), file(5, "many"))
}

// all is n bytes, all of them different, none of them nought.
func all(n int) string {
	b := make([]byte, n)
	for i := range b {
		b[i] = byte(255 - i)
	}
	return string(b)
}

// single is a tree of one file, /f, of that text.
func single(text string) api.Tree {
	return of(folder(7, "f2"), file(3, text))
}

func shapes() []api.Tree {
	return []api.Tree{tree.New(), some(), deep(), many(), single(""), single(all(most)), single(strings.Repeat("\x00", 7))}
}

// TestShapes: what the tests begin with may be.
func TestShapes(t *testing.T) {
	for i, x := range shapes() {
		if !tree.May(x) {
			t.Errorf("shape %d may not be: %#v", i, x)
		}
	}
}

// call is one of the six, with what it is handed; n is the number beside the way.
type call struct {
	what, path string
	n          int
	text       string
	own        bool
}

// answer is all that the six may tell.
type answer struct {
	t    api.Tree
	text string
	st   api.Stat
	l    []api.Entry
	e    api.Errno
}

func (c call) do(x api.Tree) (a answer) {
	switch c.what {
	case "read":
		a.text, a.e = body.Read(x, c.path, c.own)
	case "write":
		a.t, a.e = body.Write(x, c.path, c.n, c.text, c.own)
	case "cut":
		a.t, a.e = body.Cut(x, c.path, c.n, c.own)
	case "mode":
		a.t, a.e = body.Mode(x, c.path, c.n, c.own)
	case "stat":
		a.st, a.e = body.Stat(x, c.path, c.own)
	case "list":
		a.l, a.e = body.List(x, c.path, c.own)
	}
	return a
}

// changes tells whether c tells a tree.
func (c call) changes() bool {
	return c.what == "write" || c.what == "cut" || c.what == "mode"
}

func (a answer) same(b answer) bool {
	return slices.Equal(a.t, b.t) && a.text == b.text && a.st == b.st && slices.Equal(a.l, b.l) && a.e == b.e
}

func reads(path string) call { return call{what: "read", path: path} }

func writes(path string, off int, text string) call {
	return call{what: "write", path: path, n: off, text: text}
}

func cuts(path string, size int) call { return call{what: "cut", path: path, n: size} }

func modes(path string, mode int) call { return call{what: "mode", path: path, n: mode} }

func stats(path string) call { return call{what: "stat", path: path} }

func lists(path string) call { return call{what: "list", path: path} }

// too is c with the names that the program alone gives.
func (c call) too() call {
	c.own = true
	return c
}

// each is the six at that way, those with a number beside it with several that may be and several that may not.
func each(path string) []call {
	l := []call{reads(path), stats(path), lists(path)}
	for _, n := range []int{math.MinInt, -256, -1, 0, 1, 7, 120, 121, 255, 256, 257, math.MaxInt} {
		l = append(l, writes(path, n, ""), writes(path, n, "ice"), writes(path, n, all(121)), cuts(path, n), modes(path, n))
	}
	for _, c := range l {
		l = append(l, c.too())
	}
	return l
}

// within tells whether s lies in the memory of whole.
func within(whole, s string) bool {
	from, at := uintptr(unsafe.Pointer(unsafe.StringData(whole))), uintptr(unsafe.Pointer(unsafe.StringData(s)))
	return whole != "" && s != "" && at >= from && at < from+uintptr(len(whole))
}

// owned is x in memory of its own, each Body too.
func owned(x api.Tree) api.Tree {
	x = slices.Clone(x)
	for i := range x {
		x[i].Body = strings.Clone(x[i].Body)
	}
	return x
}

// wantNew: what was told shares no memory with what was handed in.
func wantNew(t *testing.T, c call, x api.Tree, a answer) {
	t.Helper()
	if len(x) > 0 && len(a.t) > 0 && &x[0] == &a.t[0] {
		t.Errorf("%+v: the nodes told are those handed in", c)
	}
	told := []string{a.text}
	for _, n := range a.t {
		told = append(told, n.Body)
	}
	for _, e := range a.l {
		told = append(told, e.Name)
	}
	for _, s := range told {
		if within(c.path, s) || within(c.text, s) {
			t.Errorf("%+v: %q lies in what was handed in", c, s)
		}
		for _, n := range x {
			if within(n.Body, s) {
				t.Errorf("%+v: %q lies in the tree that was handed in", c, s)
			}
		}
	}
}

// want: c tells just that, and x, which was handed in, is as it was.
func want(t *testing.T, x api.Tree, c call, is answer) {
	t.Helper()
	x = owned(x)
	before := owned(x)
	a := c.do(x)
	if !a.same(is) {
		t.Fatalf("%+v of %#v:\ngot  %#v\nwant %#v", c, before, a, is)
	}
	if c.changes() && !tree.May(a.t) {
		t.Fatalf("%+v of %#v: this may not be: %#v", c, before, a.t)
	}
	if !slices.Equal(x, before) {
		t.Fatalf("%+v: what was handed in, %#v, is now %#v", c, before, x)
	}
	wantNew(t, c, x, a)
}

// wantDone: c tells x with node ino turned into n.
func wantDone(t *testing.T, x api.Tree, c call, ino int, n api.Node) {
	t.Helper()
	y := slices.Clone(x)
	y[ino-1] = n
	want(t, x, c, answer{t: y})
}

// wantError: each of l tells that error, and nothing beside it but the tree as it was, if it tells a tree.
func wantError(t *testing.T, x api.Tree, e api.Errno, l ...call) {
	t.Helper()
	for _, c := range l {
		a := answer{e: e}
		if c.changes() {
			a.t = x
		}
		want(t, x, c, a)
	}
}

// badWays: name.Parts refuses them, with one's own names and without.
func badWays() []string {
	return []string{
		"", "a", "b", "a/b", "~", "//", "/a/", "/b/", "//a", "/a//c", "/seven77", "/a/seven77", "/ ", "/a b", "/\x7f", "/\x00", "/\xff", "/b\n",
		"/1/2/3/4/5/6/7/8/9", strings.Repeat("/a", 9), strings.Repeat("/a", 1000), strings.Repeat("a", 1000),
	}
}

// ownWays: name.Parts refuses them without one's own names; some of them are there in some.
func ownWays() []string {
	return []string{"/~", "/~2", "/a/d/~5", "/~/a", "/a/~", "/~~~~~~", "/~9/~8", "/b/~", "/~2/x"}
}

// P10.1: a way that may not be, whatever stands beside it.
func TestWays(t *testing.T) {
	for _, x := range shapes() {
		for _, way := range badWays() {
			wantError(t, x, api.EArg, each(way)...)
		}
		for _, way := range ownWays() {
			for _, c := range each(way) {
				if !c.own {
					wantError(t, x, api.EArg, c)
				}
			}
		}
	}
}

// P10.1: a way that leads nowhere, whatever stands beside it.
func TestNowhere(t *testing.T) {
	for _, x := range shapes() {
		for _, way := range []string{"/q", "/sixsix", "/q/r", "/q/r/s/t/u/v/w/x"} {
			wantError(t, x, api.ENone, each(way)...)
		}
	}
	x := some()
	for _, way := range []string{"/a/q", "/a/d/q", "/a/q/r", "/g/q", "/g/g", "/A", "/bb", "/a/a", "/a/b", "/a/d/c"} {
		wantError(t, x, api.ENone, each(way)...)
	}
	for _, way := range []string{"/b/x", "/b/b", "/e/x/y", "/a/c/x", "/a/c/d/e", "/a/d/x/3", "/f/f/f/f/f/f/f/f"} {
		wantError(t, x, api.ENoDir, each(way)...)
	}
	for _, c := range each("/~") {
		if c.own {
			wantError(t, x, api.ENone, c)
		}
	}
	for _, c := range each("/a/d/~5/x") {
		if c.own {
			wantError(t, x, api.ENoDir, c)
		}
	}
	wantError(t, deep(), api.ENone, each(strings.Repeat("/a", 7)+"/b")...)
	wantError(t, single("f"), api.ENoDir, each("/f/f")...)
}

// folders is all folders of some, by their ways.
func folders() []string { return []string{"/", "/a", "/a/d", "/g"} }

// P10.1, Read: a file's bytes, by each of its names, whatever they are; of a folder none.
func TestRead(t *testing.T) {
	x := some()
	for way, text := range map[string]string{"/b": "glacier", "/a/c": "glacier", "/a/d/x": "glacier", "/e": "", "/f": ""} {
		want(t, x, reads(way), answer{text: text})
		want(t, x, reads(way).too(), answer{text: text})
	}
	want(t, x, reads("/~2").too(), answer{text: all(most)})
	want(t, x, reads("/a/d/~5").too(), answer{text: "ice\x00"})
	want(t, deep(), reads(strings.Repeat("/a", 8)), answer{text: "deep"})
	for n := range most + 1 {
		want(t, single(all(n)), reads("/f"), answer{text: all(n)})
		want(t, single(strings.Repeat("\x00", n)), reads("/f"), answer{text: strings.Repeat("\x00", n)})
	}
	for b := range 256 {
		want(t, single(string([]byte{byte(b)})), reads("/f"), answer{text: string([]byte{byte(b)})})
	}
	// What is in a folder would be a file's bytes too.
	want(t, single(folder(0, "a2").Body), reads("/f"), answer{text: "\x01a\x02"})
	for _, way := range folders() {
		wantError(t, x, api.EDir, reads(way), reads(way).too())
	}
	for _, x := range shapes() {
		wantError(t, x, api.EDir, reads("/"), reads("/").too())
	}
}

// over is what the words say of text in was, from off on, byte by byte.
func over(was string, off int, text string) string {
	var b []byte
	for i := 0; i < len(was) || text != "" && i < off+len(text); i++ {
		switch {
		case i >= off && i < off+len(text):
			b = append(b, text[i-off])
		case i < len(was):
			b = append(b, was[i])
		default:
			b = append(b, 0)
		}
	}
	return string(b)
}

// P10.1, Write: at the beginning, within, across the end, at the end, behind it.
func TestWrite(t *testing.T) {
	for _, c := range []struct {
		was  string
		off  int
		text string
		is   string
	}{
		{"", 0, "x", "x"},
		{"", 2, "x", "\x00\x00x"},
		{"glacier", 0, "G", "Glacier"},
		{"glacier", 0, "GLACIER", "GLACIER"},
		{"glacier", 0, "glaciers", "glaciers"},
		{"glacier", 2, "oss", "glosser"},
		{"glacier", 6, "l", "glaciel"},
		{"glacier", 6, "lly", "glacielly"},
		{"glacier", 7, "s", "glaciers"},
		{"glacier", 8, "s", "glacier\x00s"},
		{"glacier", 10, "\x00\x00", "glacier\x00\x00\x00\x00\x00"},
		{"glacier", 3, "\x00", "gla\x00ier"},
		{"", 119, "z", strings.Repeat("\x00", 119) + "z"},
		{"a", 119, "z", "a" + strings.Repeat("\x00", 118) + "z"},
		{"", 0, all(120), all(120)},
		{"a", 1, all(119), "a" + all(119)},
		{all(120), 119, "z", all(119) + "z"},
		{all(120), 0, "z", "z" + all(120)[1:]},
	} {
		wantDone(t, single(c.was), writes("/f", c.off, c.text), 2, file(3, c.is))
		wantDone(t, single(c.was), writes("/f", c.off, c.text).too(), 2, file(3, c.is))
	}
}

// P10.1, Write: each off and each length, about the edges too, in files of several lengths.
func TestWriteEach(t *testing.T) {
	for _, long := range []int{0, 1, 2, 39, 119, 120} {
		x := single(all(long))
		for off := -2; off <= most+2; off++ {
			for n := range most + 3 {
				text := strings.Repeat("w", n)
				y, e := body.Write(x, "/f", off, text, false)
				switch {
				case off < 0:
					wantSame(t, x, y, e, api.EArg, off, n)
				case off > most || off+n > most:
					wantSame(t, x, y, e, api.EFull, off, n)
				case e != api.OK || !tree.Same(y, single(over(all(long), off, text))) || !tree.May(y):
					t.Fatalf("%d at %d into %d: %d, %#v", n, off, long, e, y)
				}
			}
		}
		if !tree.Same(x, single(all(long))) {
			t.Fatalf("what was handed in is %#v", x)
		}
	}
}

// wantSame: beside that error, of Write of n bytes at off, y is x.
func wantSame(t *testing.T, x, y api.Tree, e, is api.Errno, off, n int) {
	t.Helper()
	if e != is || !tree.Same(x, y) {
		t.Fatalf("%d bytes at %d into %d: got error %d, want %d, %#v", n, off, len(x[1].Body), e, is, y)
	}
}

// P10.1, Write: of no text nothing changes, wherever it would be put; beyond what may be it is refused.
func TestWriteNothing(t *testing.T) {
	for _, long := range []int{0, 1, 7, 40, 119, 120} {
		x := single(all(long))
		for off := range most + 1 {
			wantDone(t, x, writes("/f", off, ""), 2, x[1])
		}
		for _, off := range []int{-1, -120, -121, math.MinInt} {
			wantError(t, x, api.EArg, writes("/f", off, ""))
		}
		for _, off := range []int{121, 122, 1 << 8, 1 << 32, math.MaxInt - 1, math.MaxInt} {
			wantError(t, x, api.EFull, writes("/f", off, ""))
		}
	}
}

// P10.1, Write: numbers whose sum would turn over, or that would be small if they were cut to fewer bits; EArg ahead of EFull.
func TestWriteFar(t *testing.T) {
	long := strings.Repeat("x", 1<<20)
	for _, text := range []string{"x", "xy", all(119), all(120), all(121), all(255), long[:256], long[:257], long[:1<<16], long} {
		for _, x := range []api.Tree{single(""), single("abc"), single(all(120))} {
			for _, off := range []int{121, 128, 255, 256, 257, 1 << 16, 1<<31 - 1, 1 << 31, 1 << 32, 1<<32 + 1, 1 << 62, math.MaxInt - 119, math.MaxInt - 1, math.MaxInt} {
				wantError(t, x, api.EFull, writes("/f", off, text))
			}
			for _, off := range []int{-1, -2, -119, -120, -121, -255, -256, -1 << 31, -1 << 32, 1 - 1<<32, -1 << 62, 2 - len(long), -len(long), math.MinInt, math.MinInt + 1, math.MinInt + 120} {
				wantError(t, x, api.EArg, writes("/f", off, text))
			}
			wantError(t, x, api.EFull, writes("/f", 121-min(len(text), 121), text), writes("/f", 120, text))
		}
	}
}

// P10.1, Write and Cut: a file has its bytes by each of its names; mode, names and all else stay.
func TestNames(t *testing.T) {
	x := some()
	for _, way := range []string{"/b", "/a/c", "/a/d/x"} {
		wantDone(t, x, writes(way, 1, "L"), 3, file(2, "gLacier"))
		wantDone(t, x, writes(way, 7, "s").too(), 3, file(2, "glaciers"))
		wantDone(t, x, cuts(way, 3), 3, file(2, "gla"))
		wantDone(t, x, cuts(way, 9).too(), 3, file(2, "glacier\x00\x00"))
		wantDone(t, x, modes(way, 9), 3, file(9, "glacier"))
		y, e := body.Write(x, way, 9, "s", false)
		for _, other := range []string{"/b", "/a/c", "/a/d/x"} {
			want(t, y, reads(other), answer{text: "glacier\x00\x00s", e: e})
		}
	}
	wantDone(t, x, writes("/e", 0, "e"), 6, file(0, "e"))
	wantDone(t, x, writes("/f", 1, "f"), 6, file(0, "\x00f"))
	wantDone(t, x, writes("/~2", 119, "\x00").too(), 8, file(254, all(119)+"\x00"))
	wantDone(t, x, writes("/a/d/~5", 4, "~").too(), 5, file(255, "ice\x00~"))
	wantDone(t, x, cuts("/a/d/~5", 3).too(), 5, file(255, "ice"))
	wantDone(t, deep(), writes(strings.Repeat("/a", 8), 4, "er"), 9, file(9, "deeper"))
	wantDone(t, many(), writes("/y/z", 0, "M"), 4, file(5, "Many"))
}

// P10.1, Write and Cut: a folder's bytes are not a file's: EDir, whatever number and text stand beside it.
func TestFolders(t *testing.T) {
	for _, way := range folders() {
		for _, c := range each(way) {
			if c.what == "write" || c.what == "cut" || c.what == "read" {
				wantError(t, some(), api.EDir, c)
			}
		}
	}
	for _, x := range shapes() {
		wantError(t, x, api.EDir, writes("/", -1, ""), writes("/", 121, all(121)), writes("/", 0, ""), writes("/", 0, x[0].Body), cuts("/", 0), cuts("/", -1), cuts("/", 121), cuts("/", len(x[0].Body)))
	}
}

// P10.1, Cut: each size, of files of each length.
func TestCut(t *testing.T) {
	noughts := strings.Repeat("\x00", most)
	for long := range most + 1 {
		x := single(all(long))
		for size := range most + 1 {
			wantDone(t, x, cuts("/f", size), 2, file(3, (all(long) + noughts)[:size]))
		}
	}
	for _, x := range []api.Tree{single(""), single("abc"), single(all(120))} {
		for _, size := range []int{-1, -2, -119, -120, -121, -255, -256, -1 << 31, -1 << 32, 1 - 1<<32, math.MinInt, math.MinInt + 1} {
			wantError(t, x, api.EArg, cuts("/f", size), cuts("/f", size).too())
		}
		for _, size := range []int{121, 122, 128, 255, 256, 257, 1 << 16, 1<<31 - 1, 1 << 31, 1 << 32, 1<<32 + 1, math.MaxInt - 1, math.MaxInt} {
			wantError(t, x, api.EFull, cuts("/f", size), cuts("/f", size).too())
		}
	}
}

// P10.1, Cut: what was cut off is not there again: noughts are.
func TestCutAgain(t *testing.T) {
	x, e := body.Cut(single("glacier"), "/f", 3, false)
	if e != api.OK {
		t.Fatal(e)
	}
	wantDone(t, x, cuts("/f", 7), 2, file(3, "gla\x00\x00\x00\x00"))
	wantDone(t, x, writes("/f", 5, "x"), 2, file(3, "gla\x00\x00x"))
}

// P10.1, Mode: each that may be, of a file, a folder and the root; each that may not.
func TestMode(t *testing.T) {
	x := some()
	for way, ino := range map[string]int{"/": 1, "/a": 2, "/b": 3, "/a/c": 3, "/a/d": 4, "/e": 6, "/f": 6, "/g": 7} {
		for mode := range mostMode + 1 {
			n := x[ino-1]
			n.Mode = mode
			wantDone(t, x, modes(way, mode), ino, n)
		}
		for _, mode := range []int{-1, -2, -7, -255, -256, 256, 257, 263, 511, 512, 1 << 16, 1 << 32, 1<<32 + 7, -1 << 32, math.MinInt, math.MaxInt} {
			wantError(t, x, api.EArg, modes(way, mode), modes(way, mode).too())
		}
	}
	wantDone(t, x, modes("/a/d/~5", 0).too(), 5, file(0, "ice\x00"))
	wantDone(t, x, modes("/~2", 1).too(), 8, file(1, all(most)))
	wantDone(t, x, modes("/a/d", 5).too(), 4, folder(5, "x3", "~55"))
}

// P10.1, Stat: what it is, by each of its names.
func TestStat(t *testing.T) {
	x := some()
	for way, st := range map[string]api.Stat{
		"/":       {Ino: 1, Kind: 2, Mode: 7, Links: 1, Size: 19},
		"/a":      {Ino: 2, Kind: 2, Mode: 1, Links: 1, Size: 6},
		"/b":      {Ino: 3, Kind: 1, Mode: 2, Links: 3, Size: 7},
		"/a/c":    {Ino: 3, Kind: 1, Mode: 2, Links: 3, Size: 7},
		"/a/d/x":  {Ino: 3, Kind: 1, Mode: 2, Links: 3, Size: 7},
		"/a/d":    {Ino: 4, Kind: 2, Mode: 0, Links: 1, Size: 7},
		"/a/d/~5": {Ino: 5, Kind: 1, Mode: 255, Links: 1, Size: 4},
		"/e":      {Ino: 6, Kind: 1, Mode: 0, Links: 2, Size: 0},
		"/f":      {Ino: 6, Kind: 1, Mode: 0, Links: 2, Size: 0},
		"/g":      {Ino: 7, Kind: 2, Mode: 255, Links: 1, Size: 0},
		"/~2":     {Ino: 8, Kind: 1, Mode: 254, Links: 1, Size: 120},
	} {
		want(t, x, stats(way).too(), answer{st: st})
		if !strings.Contains(way, "~") {
			want(t, x, stats(way), answer{st: st})
		}
	}
	want(t, tree.New(), stats("/"), answer{st: api.Stat{Ino: 1, Kind: 2, Mode: 7, Links: 1}})
	want(t, many(), stats("/0"), answer{st: api.Stat{Ino: 4, Kind: 1, Mode: 5, Links: 116, Size: 4}})
	want(t, many(), stats("/y"), answer{st: api.Stat{Ino: 2, Kind: 2, Mode: 3, Links: 1, Size: 120}})
	for n := 1; n < 8; n++ {
		want(t, deep(), stats(strings.Repeat("/a", n)), answer{st: api.Stat{Ino: n + 1, Kind: 2, Mode: n, Links: 1, Size: 3}})
	}
	want(t, deep(), stats(strings.Repeat("/a", 8)), answer{st: api.Stat{Ino: 9, Kind: 1, Mode: 9, Links: 1, Size: 4}})
	for n := range most + 1 {
		want(t, single(all(n)), stats("/f"), answer{st: api.Stat{Ino: 2, Kind: 1, Mode: 3, Links: 1, Size: n}})
	}
}

// P10.1, List: the entries of a folder, one's own too, rising by name; of an empty one none; of a file none, ENoDir.
func TestList(t *testing.T) {
	x := some()
	for way, l := range map[string][]string{
		"/":    {"a2", "b3", "e6", "f6", "g7", "~28"},
		"/a":   {"c3", "d4"},
		"/a/d": {"x3", "~55"},
		"/g":   {},
	} {
		want(t, x, lists(way), answer{l: entries(l...)})
		want(t, x, lists(way).too(), answer{l: entries(l...)})
	}
	want(t, tree.New(), lists("/"), answer{})
	rise := []string{"!2", "02", "A2", "Z2", "_2", "a2", "a!2", "aa2", "aaaaaa2", "b2", "~2", "~~~~~~2"}
	want(t, of(folder(7, rise...), file(0, "")), lists("/"), answer{l: entries(rise...)})
	for _, way := range []string{"/b", "/a/c", "/a/d/x", "/e", "/f"} {
		wantError(t, x, api.ENoDir, lists(way), lists(way).too())
	}
	wantError(t, x, api.ENoDir, lists("/a/d/~5").too(), lists("/~2").too())
	// A file is no folder, if its bytes are those of one.
	wantError(t, single(folder(0, "a2").Body), api.ENoDir, lists("/f"))
}

// said is what the words say of c; of several errors it tells the one that they name first.
func said(x api.Tree, c call) answer {
	var a answer
	if c.changes() {
		a.t = slices.Clone(x)
	}
	ino, e := tree.Find(x, c.path, c.own)
	if e != api.OK {
		a.e = e
		return a
	}
	n := &x[ino-1]
	if c.changes() {
		n = &a.t[ino-1]
	}
	dir := n.Kind == 2
	switch {
	case c.what == "stat":
		// A folder has one way alone: a file has as many ways as names.
		a.st = api.Stat{Ino: ino, Kind: n.Kind, Mode: n.Mode, Links: len(tree.Ways(x, ino)), Size: len(n.Body)}
	case c.what == "list" && !dir:
		a.e = api.ENoDir
	case c.what == "list":
		for b := n.Body; b != ""; b = b[b[0]+2:] {
			a.l = append(a.l, api.Entry{Name: b[1 : 1+b[0]], Ino: int(b[1+b[0]])})
		}
	case c.what == "mode" && (c.n < 0 || c.n > mostMode):
		a.e = api.EArg
	case c.what == "mode":
		n.Mode = c.n
	case dir:
		a.e = api.EDir
	case c.what == "read":
		a.text = n.Body
	case c.n < 0:
		a.e = api.EArg
	case c.n > most || c.n+len(c.text) > most:
		a.e = api.EFull
	case c.what == "write":
		n.Body = over(n.Body, c.n, c.text)
	default:
		n.Body = (n.Body + strings.Repeat("\x00", most))[:c.n]
	}
	return a
}

// waysAround is the ways of x, such that are not there but near, and such that are none.
func waysAround(x api.Tree) []string {
	l := append(ownWays(), "/q/r", "", "a", "/seven77", strings.Repeat("/a", 8), strings.Repeat("/a", 9))
	for ino := range nodes {
		ways := tree.Ways(x, ino+1)
		// Of a file of very many names, some are enough.
		for _, way := range ways[:min(len(ways), 4)] {
			l = append(l, way, strings.TrimSuffix(way, "/")+"/new", way+"/")
		}
	}
	return l
}

// P10.1: each of the six with each of many ways and numbers, of several trees, is what the words say.
func TestEach(t *testing.T) {
	for _, x := range shapes() {
		for _, way := range waysAround(x) {
			for _, c := range each(way) {
				want(t, x, c, said(x, c))
			}
		}
	}
}

// chance tells numbers that follow no plain order, the same ones for the same seed.
func chance(seed int) func(below int) int {
	x := uint64(seed)*0x9E3779B97F4A7C15 + 1
	return func(below int) int {
		x ^= x << 13
		x ^= x >> 7
		x ^= x << 17
		return int(x>>33) % below
	}
}

// renamed is x with names that have come or gone, if they could.
func renamed(x api.Tree, next func(int) int) api.Tree {
	way := anyWay(x, next)
	switch next(4) {
	case 0:
		x, _ = edit.Make(x, way, 1+next(2), next(256), 0, true)
	case 1:
		x, _ = edit.Link(x, way, anyWay(x, next), true)
	case 2:
		x, _ = edit.Move(x, way, anyWay(x, next), true)
	default:
		// Fewer go than come.
		if next(3) == 0 {
			x, _ = edit.Drop(x, way, true)
		}
	}
	return x
}

// anyWay is a way in x, or near it.
func anyWay(x api.Tree, next func(int) int) string {
	ways := tree.Ways(x, 1+next(nodes))
	if len(ways) == 0 {
		ways = []string{"/"}
	}
	way := ways[next(len(ways))]
	if next(3) == 0 {
		return strings.TrimSuffix(way, "/") + "/" + []string{"a", "b", "~1", "sixsix", "", "seven77"}[next(6)]
	}
	return way
}

// anyCall is one of the six, at a way in x, or near it.
func anyCall(x api.Tree, next func(int) int) call {
	c := call{what: []string{"read", "write", "cut", "mode", "stat", "list"}[next(6)], path: anyWay(x, next), own: next(4) > 0}
	switch c.what {
	case "write":
		c.n = next(most+5) - 3
		c.text = all(most)[:next(30)]
	case "cut":
		c.n = next(most+10) - 5
	case "mode":
		c.n = next(mostMode+20) - 10
	}
	return c
}

// P10.1, What follows: whatever is done, one behind the other, is what the words say; what may be stays so, and what is written is read.
func TestLongRuns(t *testing.T) {
	told := map[string]map[api.Errno]int{}
	for seed := range 40 {
		next := chance(seed)
		x := shapes()[seed%len(shapes())]
		for range 400 {
			x = renamed(x, next)
			c := anyCall(x, next)
			a := said(x, c)
			want(t, x, c, a)
			if told[c.what] == nil {
				told[c.what] = map[api.Errno]int{}
			}
			told[c.what][a.e]++
			if c.changes() {
				x = c.do(x).t
			}
			if c.what == "write" && a.e == api.OK && c.text != "" {
				s, e := body.Read(x, c.path, c.own)
				if e != api.OK || s[c.n:c.n+len(c.text)] != c.text {
					t.Fatalf("%+v: %d, %q is read", c, e, s)
				}
			}
		}
	}
	// The runs come by each answer that there is.
	for what, l := range map[string][]api.Errno{
		"read":  {api.OK, api.EArg, api.ENone, api.ENoDir, api.EDir},
		"write": {api.OK, api.EArg, api.ENone, api.ENoDir, api.EDir, api.EFull},
		"cut":   {api.OK, api.EArg, api.ENone, api.ENoDir, api.EDir, api.EFull},
		"mode":  {api.OK, api.EArg, api.ENone, api.ENoDir},
		"stat":  {api.OK, api.EArg, api.ENone, api.ENoDir},
		"list":  {api.OK, api.EArg, api.ENone, api.ENoDir},
	} {
		for _, e := range l {
			if told[what][e] < 5 {
				t.Errorf("%v: the runs seldom come by %s with error %d", told, what, e)
			}
		}
	}
}

// R1: whatever is handed in, each call ends, and tells an error and what it was handed.
func TestOdd(t *testing.T) {
	lost := some()
	lost[8] = folder(1, "a9")
	odd := []api.Tree{
		nil, {}, some()[:3], append(some(), some()...), make(api.Tree, nodes), make(api.Tree, 1<<16), lost,
		of(folder(7, "a2"), folder(1, "a2", "b1")), of(folder(7, "a2", "b2"), folder(1)), of(file(7, "root")), of(folder(7, "a9")), of(folder(7, "a1")),
		of(api.Node{Kind: 2, Body: "odd"}), of(api.Node{Kind: 2, Body: "\x01a\xff"}), of(api.Node{Kind: 2, Body: strings.Repeat("\x01a\x02", 1<<16)}),
		of(api.Node{Kind: math.MinInt, Mode: math.MaxInt, Body: "\xff"}), {{Kind: 2}}, {{Kind: 2, Body: "\x01a\x02"}}, {{Kind: 2, Body: "\x01a\x02"}, {Kind: 1}},
		of(folder(7, "a2"), api.Node{Kind: 3}), of(folder(256)), of(folder(7, "a2"), file(-1, "")), single(all(121)), single(strings.Repeat("x", 1<<16)),
	}
	for _, x := range odd {
		if tree.May(x) {
			t.Fatalf("this is not odd: %#v", x)
		}
		for _, way := range []string{"", "/", "/a", "/f", "/a/a", "/a/b", "/a/a/a/a/a/a/a/a", "/x", "\x00", "/\xff", strings.Repeat("/a", 1<<16)} {
			for _, c := range each(way) {
				a := c.do(x)
				is := answer{e: a.e}
				if c.changes() {
					is.t = x
				}
				if a.e == api.OK || !a.same(is) {
					t.Fatalf("%+v of %#v: %#v", c, x, a)
				}
				if len(x) > 0 && len(a.t) > 0 && &x[0] == &a.t[0] {
					t.Fatalf("%+v: the nodes told are those handed in", c)
				}
			}
		}
	}
	long := strings.Repeat("/a", 1<<20)
	wantError(t, some(), api.EArg, reads(long), writes(long, 0, long), cuts(long, 0), modes(long, 0), stats(long), lists(long))
}

// R3: what lies behind the tree that is handed in is not touched, and what is told has no room that another has.
func TestRoomBehind(t *testing.T) {
	whole := append(some(), deep()...)
	before := owned(whole)
	x := whole[:nodes]
	for _, c := range []call{
		writes("/b", 3, "ss"), writes("/b", 3, ""), writes("/b", -1, "x"), writes("/b", 3, all(120)), writes("/a", 0, "x"), writes("/q", 0, "x"),
		cuts("/b", 3), cuts("/b", 7), cuts("/b", 121), cuts("/a", 3), modes("/b", 2), modes("/", 3), modes("/b", -1), modes("", 3),
	} {
		first, second := c.do(x).t, c.do(x).t
		is := owned(second)
		first = first[:cap(first)]
		for i := range first {
			first[i] = file(1, "turned")
		}
		if !slices.Equal(whole, before) {
			t.Fatalf("%+v: what was handed in is %#v", c, whole)
		}
		if !slices.Equal(second, is) {
			t.Errorf("%+v: what was told is now %#v", c, second)
		}
	}
	first, _ := body.List(x, "/", false)
	second, _ := body.List(x, "/", false)
	is := slices.Clone(second)
	first = first[:cap(first)]
	clear(first)
	if !slices.Equal(second, is) || !slices.Equal(whole, before) {
		t.Errorf("what was listed is now %v, what was handed in %#v", second, whole)
	}
}

// R4: the same call tells the same, from several at once, whatever was done between.
func TestSameEachTime(t *testing.T) {
	x := some()
	var calls []call
	var is []answer
	for _, way := range []string{"/", "/a", "/b", "/a/d/~5", "/q"} {
		calls = append(calls, each(way)...)
	}
	for _, c := range calls {
		is = append(is, c.do(x))
	}
	done := make(chan bool)
	for i := range 8 {
		go func() {
			ok := true
			for n := range 2 * len(calls) {
				at := (n + i) % len(calls)
				calls[at].do(deep())
				ok = ok && calls[at].do(x).same(is[at])
			}
			done <- ok
		}()
	}
	for range 8 {
		if !<-done {
			t.Error("asked by several, it tells something else")
		}
	}
}
