package edit_test

import (
	"math"
	"slices"
	"sort"
	"strings"
	"testing"
	"unsafe"

	"glacis/api"
	"glacis/dir"
	"glacis/edit"
	"glacis/name"
	"glacis/tree"
)

// The numbers of the chapters, written out: a test that took them from the program would turn with it.
const (
	nodes    = 9
	room     = 120
	mostMode = 255
)

// zero is a node that is not there.
var zero api.Node

func file(mode int, body string) api.Node {
	return api.Node{Kind: 1, Mode: mode, Body: body}
}

// folder has the names l, which rise, behind each the number of its node as one digit.
func folder(mode int, l ...string) api.Node {
	var b strings.Builder
	for _, s := range l {
		n := len(s) - 1
		b.WriteByte(byte(n))
		b.WriteString(s[:n])
		b.WriteByte(s[n] - '0')
	}
	return api.Node{Kind: 2, Mode: mode, Body: b.String()}
}

// of is these nodes, and behind them such that are not there.
func of(l ...api.Node) api.Tree {
	t := make(api.Tree, nodes)
	copy(t, l)
	return t
}

// some is a tree with folders in folders, a file of two names in two of them (3), one of two in one (6), and one's own name; nodes 8 and 9 are not there.
func some() api.Tree {
	return of(
		folder(7, "a2", "b3", "e6", "f6", "g7"),
		folder(1, "c3", "d4"),
		file(2, "x"),
		folder(0, "~55"),
		file(255, "ice"),
		file(0, ""),
		folder(3),
	)
}

// crowd is a tree of which all nodes are there, in no plain order.
func crowd() api.Tree {
	return of(
		folder(7, "a9", "b2", "c5"),
		file(1, "two"),
		folder(2, "g6", "h8"),
		file(3, ""),
		folder(4, "d3", "e4"),
		folder(5),
		file(6, "seven"),
		file(7, "eight"),
		folder(8, "f7", "i7"),
	)
}

// chain is folders that lie in one another as deep as nine nodes may.
func chain() api.Tree {
	t := of(folder(7))
	for i := range nodes - 1 {
		t[i] = folder(i, "a"+string([]byte{byte('2' + i)}))
	}
	t[nodes-1] = folder(8)
	return t
}

// filled is n bytes of names that lead to node ino: such of six bytes, and two that have the rest.
func filled(n, ino int) string {
	var b []byte
	for c := byte('0'); n >= 16; c++ {
		b = append(b, "\x06name0"...)
		b = append(b, c, byte(ino))
		n -= 8
	}
	for i, part := range []int{n / 2, n - n/2} {
		b = append(b, byte(part-2))
		b = append(b, "xxxxxxyyyyyy"[6*i:6*i+part-2]...)
		b = append(b, byte(ino))
	}
	return string(b)
}

// short is a tree with two folders in the root that have little room, of so many bytes each; the root has some.
func short(a, b int) api.Tree {
	return of(
		folder(7, "a2", "b3", "f4", "g5"),
		api.Node{Kind: 2, Body: filled(a, 4)},
		api.Node{Kind: 2, Body: filled(b, 4)},
		file(1, "four"),
		folder(2),
	)
}

// shapes is trees that may be, of several shapes.
func shapes() []api.Tree {
	full := short(117, 118)
	full[0] = api.Node{Kind: 2, Mode: 7, Body: "\x01a\x02\x01b\x03\x01f\x04\x01g\x05" + strings.ReplaceAll(filled(108, 4), "\x06name0", "\x06other")}
	return []api.Tree{tree.New(), some(), crowd(), chain(), short(120, 119), full}
}

// TestShapes: what the tests begin with may be.
func TestShapes(t *testing.T) {
	for i, x := range shapes() {
		if !tree.May(x) {
			t.Errorf("shape %d may not be: %#v", i, x)
		}
	}
	for n := 16; n <= room; n++ {
		if x := short(n, room); len(x[1].Body) != n || !tree.May(x) {
			t.Errorf("short of %d may not be: %#v", n, x)
		}
	}
}

// call is one of the four, with what it is handed.
type call struct {
	what            string
	path, to        string
	kind, mode, ino int
	own             bool
}

func (c call) do(x api.Tree) (api.Tree, api.Errno) {
	switch c.what {
	case "make":
		return edit.Make(x, c.path, c.kind, c.mode, c.ino, c.own)
	case "link":
		return edit.Link(x, c.path, c.to, c.own)
	case "drop":
		return edit.Drop(x, c.path, c.own)
	}
	return edit.Move(x, c.path, c.to, c.own)
}

func makes(path string, kind, mode, ino int) call {
	return call{what: "make", path: path, kind: kind, mode: mode, ino: ino}
}

func links(from, to string) call { return call{what: "link", path: from, to: to} }

func drops(path string) call { return call{what: "drop", path: path} }

func moves(from, to string) call { return call{what: "move", path: from, to: to} }

// too is c with the names that the program alone gives.
func (c call) too() call {
	c.own = true
	return c
}

// within tells whether s lies in the memory of whole.
func within(whole, s string) bool {
	from, at := uintptr(unsafe.Pointer(unsafe.StringData(whole))), uintptr(unsafe.Pointer(unsafe.StringData(s)))
	return whole != "" && s != "" && at >= from && at < from+uintptr(len(whole))
}

// wantNew: y shares no memory with x and the ways of c, and the rest of what was handed in is as it was.
func wantNew(t *testing.T, c call, x, before, y api.Tree) {
	t.Helper()
	if !slices.Equal(x, before) {
		t.Fatalf("%+v: what was handed in, %#v, is now %#v", c, before, x)
	}
	if len(x) > 0 && len(y) > 0 && &x[0] == &y[0] {
		t.Errorf("%+v: the nodes told are those handed in", c)
	}
	for _, n := range y {
		for _, m := range x {
			if within(m.Body, n.Body) {
				t.Errorf("%+v: %q lies in what was handed in", c, n.Body)
			}
		}
		if within(c.path, n.Body) || within(c.to, n.Body) {
			t.Errorf("%+v: %q lies in a way that was handed in", c, n.Body)
		}
	}
}

// owned is x, each Body in memory of its own.
func owned(x api.Tree) api.Tree {
	x = slices.Clone(x)
	for i := range x {
		x[i].Body = strings.Clone(x[i].Body)
	}
	return x
}

// wantDone: c tells OK and want, which may be; x, which was handed in, is as it was.
func wantDone(t *testing.T, x api.Tree, c call, want api.Tree) {
	t.Helper()
	x = owned(x)
	before := owned(x)
	y, e := c.do(x)
	if e != api.OK || !tree.Same(y, want) {
		t.Fatalf("%+v of %#v:\ngot  %d, %#v\nwant %#v", c, before, e, y, want)
	}
	if !tree.May(y) {
		t.Fatalf("%+v of %#v: this may not be: %#v", c, before, y)
	}
	wantNew(t, c, x, before, y)
}

// wantError: c tells that error, and x as it was.
func wantError(t *testing.T, x api.Tree, want api.Errno, l ...call) {
	t.Helper()
	for _, c := range l {
		x := owned(x)
		before := owned(x)
		y, e := c.do(x)
		if e != want {
			t.Errorf("%+v of %#v: got error %d, want %d", c, before, e, want)
		}
		if !slices.Equal(y, before) {
			t.Errorf("%+v of %#v: beside an error it tells %#v", c, before, y)
		}
		wantNew(t, c, x, before, y)
	}
}

// set is x with those nodes turned: their numbers are the keys.
func set(x api.Tree, l map[int]api.Node) api.Tree {
	x = slices.Clone(x)
	for ino, n := range l {
		x[ino-1] = n
	}
	return x
}

// badWays: name.Parts refuses them, with one's own names and without.
func badWays() []string {
	return []string{
		"", "a", "a/b", "//", "/a/", "//a", "/a//b", "/seven77", "/a/seven77", "/ ", "/a b", "/\x7f", "/\x00", "/\xff", "/a\n",
		"/1/2/3/4/5/6/7/8/9", "/a/a/a/a/a/a/a/a/a", strings.Repeat("/a", 1000), strings.Repeat("a", 1000),
	}
}

// ownWays: name.Parts refuses them without one's own names.
func ownWays() []string {
	return []string{"/~", "/~1", "/~/a", "/a/~", "/a/d/~5", "/~~~~~~", "/~9/~8"}
}

// P9.1, Make: what is made: a File and a Folder, of each mode, in the root and deeper, at the least number or at the one that is asked.
func TestMake(t *testing.T) {
	n := tree.New()
	wantDone(t, n, makes("/a", api.Folder, 5, 0), of(folder(7, "a2"), folder(5)))
	wantDone(t, n, makes("/a", api.File, 0, 0), of(folder(7, "a2"), file(0, "")))
	for mode := range 256 {
		wantDone(t, n, makes("/ice", 1, mode, 0), of(folder(7, "ice2"), file(mode, "")))
		wantDone(t, n, makes("/ice", 2, mode, 2), of(folder(7, "ice2"), folder(mode)))
	}
	for ino := 2; ino <= 9; ino++ {
		at := string([]byte{byte('0' + ino)})
		wantDone(t, n, makes("/sixsix", 1, 1, ino), set(n, map[int]api.Node{1: folder(7, "sixsix"+at), ino: file(1, "")}))
		wantDone(t, n, makes("/!", 2, 2, ino), set(n, map[int]api.Node{1: folder(7, "!"+at), ino: folder(2)}))
	}
	x := some()
	wantDone(t, x, makes("/h", 1, 9, 0), set(x, map[int]api.Node{1: folder(7, "a2", "b3", "e6", "f6", "g7", "h8"), 8: file(9, "")}))
	wantDone(t, x, makes("/0", 2, 9, 9), set(x, map[int]api.Node{1: folder(7, "09", "a2", "b3", "e6", "f6", "g7"), 9: folder(9)}))
	wantDone(t, x, makes("/a/cc", 1, 0, 0), set(x, map[int]api.Node{2: folder(1, "c3", "cc8", "d4"), 8: file(0, "")}))
	wantDone(t, x, makes("/a/d/a", 2, 255, 0), set(x, map[int]api.Node{4: folder(0, "a8", "~55"), 8: folder(255)}))
	wantDone(t, x, makes("/g/a", 1, 0, 9), set(x, map[int]api.Node{7: folder(3, "a9"), 9: file(0, "")}))
	// The same name as in another folder.
	wantDone(t, x, makes("/a/a", 1, 0, 0), set(x, map[int]api.Node{2: folder(1, "a8", "c3", "d4"), 8: file(0, "")}))
	wantDone(t, x, makes("/A", 1, 0, 0), set(x, map[int]api.Node{1: folder(7, "A8", "a2", "b3", "e6", "f6", "g7"), 8: file(0, "")}))
}

// P9.1, Make: the least number is the first that is not there, wherever it lies.
func TestMakeLeast(t *testing.T) {
	for ino := 2; ino <= 9; ino++ {
		x := of(folder(7))
		want := of(folder(7))
		var l, m []string
		for i := 2; i <= 9; i++ {
			s := string([]byte{byte('a' + i), byte('0' + i)})
			m = append(m, s)
			want[i-1] = file(i, "x")
			if i != ino {
				l = append(l, s)
				x[i-1] = file(i, "x")
			}
		}
		x[0], want[0] = folder(7, l...), folder(7, m...)
		want[ino-1] = file(4, "")
		way := "/" + string([]byte{byte('a' + ino)})
		wantDone(t, x, makes(way, 1, 4, 0), want)
		wantDone(t, x, makes(way, 1, 4, ino), want)
	}
	// Of several that are not there, the first.
	x := of(folder(7, "a3", "b6"), zero, file(1, ""), zero, zero, file(2, ""))
	wantDone(t, x, makes("/c", 1, 0, 0), set(x, map[int]api.Node{1: folder(7, "a3", "b6", "c2"), 2: file(0, "")}))
}

// P9.1, Make: names that the program alone gives.
func TestMakeOwn(t *testing.T) {
	x := some()
	wantDone(t, x, makes("/~1", 1, 0, 0).too(), set(x, map[int]api.Node{1: folder(7, "a2", "b3", "e6", "f6", "g7", "~18"), 8: file(0, "")}))
	wantDone(t, x, makes("/a/d/~", 2, 0, 0).too(), set(x, map[int]api.Node{4: folder(0, "~8", "~55"), 8: folder(0)}))
	wantDone(t, x, makes("/g/a", 1, 0, 0).too(), set(x, map[int]api.Node{7: folder(3, "a8"), 8: file(0, "")}))
	for _, way := range ownWays() {
		wantError(t, x, api.EArg, makes(way, 1, 0, 0))
	}
}

// P9.1, Make: EArg, of each of the four; the way "/" too, and ways that lead nowhere.
func TestMakeArg(t *testing.T) {
	for _, x := range shapes() {
		for _, way := range badWays() {
			wantError(t, x, api.EArg, makes(way, 1, 0, 0), makes(way, 2, 0, 0).too(), makes(way, 3, 256, 10))
		}
		for _, way := range []string{"/", "/new", "/a", "/a/b", "/q/r", "/b/x", "/a/d/x"} {
			for _, kind := range []int{0, 3, -1, 4, 255, 257, 258, 1<<32 + 1, math.MinInt, math.MaxInt} {
				wantError(t, x, api.EArg, makes(way, kind, 0, 0), makes(way, kind, 0, 9).too())
			}
			for _, mode := range []int{-1, 256, -2, -255, -256, 257, 511, 512, 1<<32 + 1, math.MinInt, math.MaxInt} {
				wantError(t, x, api.EArg, makes(way, 1, mode, 0), makes(way, 2, mode, 9).too())
			}
			for _, ino := range []int{-1, 10, -9, 11, 18, 256, 258, 1<<32 + 2, math.MinInt, math.MaxInt} {
				wantError(t, x, api.EArg, makes(way, 1, 0, ino), makes(way, 2, 255, ino).too())
			}
		}
	}
}

// P9.1, Make: EExist of "/", the place's errors, and EExist of a name that is there, whatever has it and whatever is asked.
func TestMakePlace(t *testing.T) {
	x := some()
	for _, ino := range []int{0, 1, 2, 8, 9} {
		for _, kind := range []int{1, 2} {
			both := func(path string) []call { return []call{makes(path, kind, 3, ino), makes(path, kind, 3, ino).too()} }
			wantError(t, x, api.EExist, both("/")...)
			wantError(t, x, api.ENone, both("/q/r")...)
			wantError(t, x, api.ENone, both("/a/q/r")...)
			wantError(t, x, api.ENone, both("/q/r/s/t")...)
			wantError(t, x, api.ENone, both("/a/d/q/r")...)
			wantError(t, x, api.ENoDir, both("/b/x")...)
			wantError(t, x, api.ENoDir, both("/b/x/y")...)
			wantError(t, x, api.ENoDir, both("/a/c/x")...)
			wantError(t, x, api.ENoDir, both("/e/e")...)
			wantError(t, x, api.EExist, both("/a")...)
			wantError(t, x, api.EExist, both("/b")...)
			wantError(t, x, api.EExist, both("/f")...)
			wantError(t, x, api.EExist, both("/a/c")...)
			wantError(t, x, api.EExist, both("/a/d")...)
			wantError(t, x, api.EExist, makes("/a/d/~5", kind, 3, ino).too())
			wantError(t, x, api.ENoDir, makes("/a/d/~5/a", kind, 3, ino).too())
			wantError(t, x, api.ENone, makes("/a/~/a", kind, 3, ino).too())
		}
	}
	wantError(t, tree.New(), api.EExist, makes("/", 1, 0, 0), makes("/", 2, 0, 2))
	wantError(t, tree.New(), api.ENone, makes("/a/b", 1, 0, 0))
}

// P9.1, Make: no node is left, and a node that is there already.
func TestMakeNumber(t *testing.T) {
	x := crowd()
	wantError(t, x, api.EFull, makes("/x", 1, 0, 0), makes("/a/x", 2, 0, 0), makes("/c/d/g/x", 1, 0, 0), makes("/~1", 1, 0, 0).too())
	for ino := 1; ino <= 9; ino++ {
		wantError(t, x, api.EExist, makes("/x", 1, 0, ino), makes("/c/e", 1, 0, ino), makes("/c/x", 2, 0, ino))
	}
	// The place and the name are told ahead of there being none left.
	wantError(t, x, api.EExist, makes("/", 1, 0, 0), makes("/b", 1, 0, 0))
	wantError(t, x, api.ENone, makes("/x/y", 1, 0, 0))
	wantError(t, x, api.ENoDir, makes("/b/y", 1, 0, 0))
	for ino := 1; ino <= 7; ino++ {
		wantError(t, some(), api.EExist, makes("/x", 1, 0, ino), makes("/a/x", 2, 0, ino))
	}
	// A node that is there is told ahead of there being no room for the name.
	wantError(t, short(120, 119), api.EExist, makes("/a/x", 1, 0, 5), makes("/b/x", 1, 0, 1))
	wantError(t, short(120, 119), api.EFull, makes("/a/x", 1, 0, 6), makes("/a/x", 1, 0, 0), makes("/b/x", 2, 0, 9))
}

// P9.1, Make and Link: a folder has room for 120 bytes, and not for one more, whatever the name's length.
func TestRoom(t *testing.T) {
	for long := 1; long <= 6; long++ {
		name := "zzzzzz"[:long]
		for n := 100; n <= room; n++ {
			x := short(n, 16)
			if n+long+2 > room {
				wantError(t, x, api.EFull, makes("/a/"+name, 1, 0, 0), makes("/a/"+name, 2, 0, 9), links("/f", "/a/"+name))
				wantError(t, x, api.EFull, moves("/f", "/a/"+name), moves("/g", "/a/"+name))
				continue
			}
			with := func(ino byte) api.Node {
				l, _ := dir.Take(x[1].Body)
				l = append(l, api.Entry{Name: name, Ino: int(ino)})
				slices.SortFunc(l, func(a, b api.Entry) int { return strings.Compare(a.Name, b.Name) })
				body, _ := dir.Put(l)
				return api.Node{Kind: 2, Body: body}
			}
			wantDone(t, x, makes("/a/"+name, 1, 0, 0), set(x, map[int]api.Node{2: with(6), 6: file(0, "")}))
			wantDone(t, x, links("/f", "/a/"+name), set(x, map[int]api.Node{2: with(4)}))
			wantDone(t, x, moves("/g", "/a/"+name), set(x, map[int]api.Node{1: folder(7, "a2", "b3", "f4"), 2: with(5)}))
		}
	}
}

// P9.1, Link: one name more, in the same folder and in another one; the file's bytes, and all else, stay.
func TestLink(t *testing.T) {
	x := some()
	wantDone(t, x, links("/b", "/bb"), set(x, map[int]api.Node{1: folder(7, "a2", "b3", "bb3", "e6", "f6", "g7")}))
	wantDone(t, x, links("/a/c", "/0"), set(x, map[int]api.Node{1: folder(7, "03", "a2", "b3", "e6", "f6", "g7")}))
	wantDone(t, x, links("/b", "/a/b"), set(x, map[int]api.Node{2: folder(1, "b3", "c3", "d4")}))
	wantDone(t, x, links("/e", "/g/e"), set(x, map[int]api.Node{7: folder(3, "e6")}))
	wantDone(t, x, links("/e", "/a/d/sixsix"), set(x, map[int]api.Node{4: folder(0, "sixsix6", "~55")}))
	wantDone(t, x, links("/a/c", "/a/e"), set(x, map[int]api.Node{2: folder(1, "c3", "d4", "e3")}))
	wantDone(t, x, links("/a/d/~5", "/a/d/~6").too(), set(x, map[int]api.Node{4: folder(0, "~55", "~65")}))
	wantDone(t, x, links("/a/d/~5", "/ice").too(), set(x, map[int]api.Node{1: folder(7, "a2", "b3", "e6", "f6", "g7", "ice5")}))
	// All nodes are there: that is no hindrance.
	y := crowd()
	wantDone(t, y, links("/b", "/x"), set(y, map[int]api.Node{1: folder(7, "a9", "b2", "c5", "x2")}))
	wantDone(t, y, links("/c/d/h", "/c/d/g/h"), set(y, map[int]api.Node{6: folder(5, "h8")}))
}

// P9.1, Link: each of its errors.
func TestLinkErrors(t *testing.T) {
	x := some()
	for _, bad := range badWays() {
		for _, way := range []string{"/", "/a", "/b", "/q", "/b/x", "/new", "", "/q/r"} {
			wantError(t, x, api.EArg, links(bad, way), links(way, bad), links(bad, way).too(), links(way, bad).too())
		}
	}
	for _, bad := range ownWays() {
		for _, way := range []string{"/", "/a", "/b", "/q", "/b/x", "/new", "/q/r"} {
			wantError(t, x, api.EArg, links(bad, way), links(way, bad))
		}
	}
	for _, to := range []string{"/", "/a", "/b", "/new", "/q/r", "/b/x", "/a/c"} {
		wantError(t, x, api.ENone, links("/q", to), links("/a/q", to), links("/q/r/s", to), links("/a/d/q", to), links("/~5", to).too())
		wantError(t, x, api.ENoDir, links("/b/x", to), links("/a/c/x/y", to), links("/a/d/~5/x", to).too())
		wantError(t, x, api.EDir, links("/", to), links("/a", to), links("/a/d", to), links("/g", to), links("/g", to).too())
	}
	for _, from := range []string{"/b", "/a/c", "/e", "/f"} {
		wantError(t, x, api.EExist, links(from, "/"), links(from, "/a"), links(from, "/b"), links(from, "/f"), links(from, "/a/c"), links(from, "/a/d"), links(from, from))
		wantError(t, x, api.ENone, links(from, "/q/r"), links(from, "/a/q/r"), links(from, "/a/d/q/r"))
		wantError(t, x, api.ENoDir, links(from, "/b/x"), links(from, "/e/x"), links(from, "/a/c/x/y"), links(from, from+"/x"))
		wantError(t, x, api.EExist, links(from, "/a/d/~5").too())
	}
	full := short(120, 119)
	wantError(t, full, api.EFull, links("/f", "/a/z"), links("/f", "/b/z"), links("/a/name00", "/a/q"))
	wantError(t, full, api.EExist, links("/f", "/a/name00"))
}

// P9.2, Drop: the name goes; the node too, once no name is left; all else stays.
func TestDrop(t *testing.T) {
	x := some()
	// The one of two that is left has the bytes.
	wantDone(t, x, drops("/b"), set(x, map[int]api.Node{1: folder(7, "a2", "e6", "f6", "g7")}))
	wantDone(t, x, drops("/a/c"), set(x, map[int]api.Node{2: folder(1, "d4")}))
	wantDone(t, x, drops("/e"), set(x, map[int]api.Node{1: folder(7, "a2", "b3", "f6", "g7")}))
	wantDone(t, x, drops("/f"), set(x, map[int]api.Node{1: folder(7, "a2", "b3", "e6", "g7")}))
	// One name.
	wantDone(t, x, drops("/a/d/~5").too(), set(x, map[int]api.Node{4: folder(0), 5: zero}))
	// An empty folder.
	wantDone(t, x, drops("/g"), set(x, map[int]api.Node{1: folder(7, "a2", "b3", "e6", "f6"), 7: zero}))
	// One after the other, until there is nothing.
	l := []call{drops("/a/d/~5").too(), drops("/a/d"), drops("/b"), drops("/e"), drops("/a/c"), drops("/a"), drops("/g"), drops("/f")}
	for _, c := range l {
		y, e := c.do(x)
		if e != api.OK || !tree.May(y) {
			t.Fatalf("%+v of %#v: %d, %#v", c, x, e, y)
		}
		x = y
	}
	if !tree.Same(x, tree.New()) {
		t.Errorf("all is gone, but %#v", x)
	}
}

// P9.2, Drop: each of its errors.
func TestDropErrors(t *testing.T) {
	for _, x := range shapes() {
		for _, bad := range badWays() {
			wantError(t, x, api.EArg, drops(bad), drops(bad).too())
		}
		for _, bad := range ownWays() {
			wantError(t, x, api.EArg, drops(bad))
		}
		// The root is refused as a folder is that may not go, with names and without.
		wantError(t, x, api.EDir, drops("/"), drops("/").too())
		wantError(t, x, api.ENone, drops("/q"), drops("/q/r"), drops("/~8").too())
	}
	x := some()
	wantError(t, x, api.ENone, drops("/a/q"), drops("/a/d/q"), drops("/a/q/r"), drops("/a/d/5"))
	wantError(t, x, api.ENoDir, drops("/b/x"), drops("/a/c/x/y"), drops("/e/e"), drops("/a/d/~5/x").too())
	wantError(t, x, api.EEmpty, drops("/a"), drops("/a/d"), drops("/a/d").too())
	for n := 1; n < 8; n++ {
		wantError(t, chain(), api.EEmpty, drops(strings.Repeat("/a", n)))
	}
	last := chain()
	wantDone(t, last, drops(strings.Repeat("/a", 8)), set(last, map[int]api.Node{8: folder(7), 9: zero}))
}

// P9.2, Move: within one folder, and from one to another; a file, and a folder with all that lies in it.
func TestMove(t *testing.T) {
	x := some()
	wantDone(t, x, moves("/b", "/h"), set(x, map[int]api.Node{1: folder(7, "a2", "e6", "f6", "g7", "h3")}))
	wantDone(t, x, moves("/g", "/0"), set(x, map[int]api.Node{1: folder(7, "07", "a2", "b3", "e6", "f6")}))
	wantDone(t, x, moves("/a", "/aa"), set(x, map[int]api.Node{1: folder(7, "aa2", "b3", "e6", "f6", "g7")}))
	wantDone(t, x, moves("/a/c", "/a/e"), set(x, map[int]api.Node{2: folder(1, "d4", "e3")}))
	wantDone(t, x, moves("/b", "/a/b"), set(x, map[int]api.Node{1: folder(7, "a2", "e6", "f6", "g7"), 2: folder(1, "b3", "c3", "d4")}))
	wantDone(t, x, moves("/a/c", "/c"), set(x, map[int]api.Node{1: folder(7, "a2", "b3", "c3", "e6", "f6", "g7"), 2: folder(1, "d4")}))
	wantDone(t, x, moves("/e", "/g/f"), set(x, map[int]api.Node{1: folder(7, "a2", "b3", "f6", "g7"), 7: folder(3, "f6")}))
	wantDone(t, x, moves("/a/d", "/d"), set(x, map[int]api.Node{1: folder(7, "a2", "b3", "d4", "e6", "f6", "g7"), 2: folder(1, "c3")}))
	wantDone(t, x, moves("/a/d", "/g/a"), set(x, map[int]api.Node{2: folder(1, "c3"), 7: folder(3, "a4")}))
	wantDone(t, x, moves("/a", "/g/a"), set(x, map[int]api.Node{1: folder(7, "b3", "e6", "f6", "g7"), 7: folder(3, "a2")}))
	wantDone(t, x, moves("/g", "/a/d/g"), set(x, map[int]api.Node{1: folder(7, "a2", "b3", "e6", "f6"), 4: folder(0, "g7", "~55")}))
	wantDone(t, x, moves("/a/d/~5", "/a/d/five").too(), set(x, map[int]api.Node{4: folder(0, "five5")}))
	wantDone(t, x, moves("/a", "/~2").too(), set(x, map[int]api.Node{1: folder(7, "b3", "e6", "f6", "g7", "~22")}))
	y := crowd()
	wantDone(t, y, moves("/c", "/a/c"), set(y, map[int]api.Node{1: folder(7, "a9", "b2"), 9: folder(8, "c5", "f7", "i7")}))
	// A name that begins with that of a folder does not lie in it.
	z := of(folder(7, "a2", "ab3"), folder(1), folder(2))
	wantDone(t, z, moves("/a", "/ab/a"), set(z, map[int]api.Node{1: folder(7, "ab3"), 3: folder(2, "a2")}))
	// What lies in another folder of the same name does not lie in it either.
	z = of(folder(7, "a2", "b3"), folder(1), folder(2, "a4"), folder(3))
	wantDone(t, z, moves("/a", "/b/a/a"), set(z, map[int]api.Node{1: folder(7, "b3"), 4: folder(3, "a2")}))
	// Out of what it lies in.
	w := chain()
	wantDone(t, w, moves("/a/a/a", "/b"), set(w, map[int]api.Node{1: folder(0, "a2", "b4"), 3: folder(2)}))
}

// P9.2, Move: the same name of the same folder: OK, and nothing is another.
func TestMoveNothing(t *testing.T) {
	for _, x := range shapes() {
		for ino := 2; ino <= 9; ino++ {
			for _, way := range tree.Ways(x, ino) {
				wantDone(t, x, moves(way, way).too(), x)
				if !strings.Contains(way, "~") {
					wantDone(t, x, moves(way, way), x)
				}
			}
		}
	}
}

// P9.2, Move: each of its errors.
func TestMoveErrors(t *testing.T) {
	x := some()
	for _, bad := range badWays() {
		for _, way := range []string{"/", "/a", "/b", "/q", "/b/x", "/new", "", "/q/r"} {
			wantError(t, x, api.EArg, moves(bad, way), moves(way, bad), moves(bad, way).too(), moves(way, bad).too())
		}
		wantError(t, x, api.EArg, moves(bad, bad), moves(bad, bad).too())
	}
	for _, bad := range ownWays() {
		for _, way := range []string{"/", "/a", "/b", "/q", "/b/x", "/new", "/q/r"} {
			wantError(t, x, api.EArg, moves(bad, way), moves(way, bad), moves(bad, bad))
		}
	}
	for _, to := range []string{"/", "/a", "/b", "/new", "/q/r", "/b/x", "/a/c", "/q"} {
		wantError(t, x, api.ENone, moves("/q", to), moves("/a/q", to), moves("/q/r/s", to), moves("/a/d/q", to), moves("/~5", to).too())
		wantError(t, x, api.ENoDir, moves("/b/x", to), moves("/a/c/x/y", to), moves("/a/d/~5/x", to).too())
		wantError(t, x, api.EDir, moves("/", to), moves("/", to).too())
	}
	for _, from := range []string{"/a", "/b", "/a/c", "/a/d", "/e", "/g"} {
		wantError(t, x, api.EExist, moves(from, "/"))
		wantError(t, x, api.ENone, moves(from, "/q/r"), moves(from, "/a/q/r"), moves(from, "/a/d/q/r"))
		wantError(t, x, api.ENoDir, moves(from, "/b/x"), moves(from, "/e/x"), moves(from, "/a/c/x/y"))
		wantError(t, x, api.EExist, moves(from, "/a/d/~5").too())
		for _, to := range []string{"/a", "/b", "/e", "/f", "/g", "/a/c", "/a/d"} {
			if to != from {
				wantError(t, x, api.EExist, moves(from, to), moves(from, to).too())
			}
		}
	}
	// The other name of the same file, in the same folder and in another one.
	wantError(t, x, api.EExist, moves("/e", "/f"), moves("/f", "/e"), moves("/b", "/a/c"), moves("/a/c", "/b"))
}

// P9.2, Move: no folder comes to lie in itself; what is told ahead of that.
func TestMoveLoop(t *testing.T) {
	x := some()
	wantError(t, x, api.ELoop, moves("/a", "/a/x"), moves("/a", "/a/d/x"), moves("/a", "/a/a"), moves("/a/d", "/a/d/x"), moves("/a/d", "/a/d/d"), moves("/g", "/g/g"))
	wantError(t, x, api.ELoop, moves("/a", "/a/~").too(), moves("/a/d", "/a/d/~").too())
	wantError(t, x, api.EExist, moves("/a", "/a/c"), moves("/a", "/a/d"), moves("/a/d", "/a"), moves("/a", "/a/d/~5").too())
	wantError(t, x, api.ENone, moves("/a", "/a/x/y"), moves("/g", "/g/x/y"))
	wantError(t, x, api.ENoDir, moves("/a", "/a/c/y"))
	for n := 1; n <= 7; n++ {
		way := strings.Repeat("/a", n)
		for deep := n; deep <= 7; deep++ {
			wantError(t, chain(), api.ELoop, moves(way, strings.Repeat("/a", deep)+"/b"))
		}
		for deep := 1; deep < n; deep++ {
			wantError(t, chain(), api.EExist, moves(way, strings.Repeat("/a", deep)))
		}
	}
	// There is no room in it either: that is told behind.
	full := short(120, 119)
	full[1] = api.Node{Kind: 2, Body: filled(room, 4)}
	wantError(t, full, api.ELoop, moves("/a", "/a/z"), moves("/b", "/b/z"))
}

// P9.2, Move: no room: nothing has changed; the name that goes makes room where it stands in the same folder.
func TestMoveFull(t *testing.T) {
	full := short(120, 119)
	wantError(t, full, api.EFull, moves("/f", "/a/z"), moves("/g", "/a/z"), moves("/b", "/a/z"), moves("/f", "/b/z"), moves("/a", "/b/zz"))
	wantError(t, full, api.EFull, moves("/b/name00", "/a/z"), moves("/a/name00", "/b/z"))
	// The name that goes has six bytes, and so may the one that comes.
	l, _ := dir.Take(full[1].Body)
	l[0].Name = "0ther0"
	body, _ := dir.Put(l)
	wantDone(t, full, moves("/a/name00", "/a/0ther0"), set(full, map[int]api.Node{2: {Kind: 2, Body: body}}))
	l[0].Name = "0"
	body, _ = dir.Put(l)
	wantDone(t, full, moves("/a/name00", "/a/0"), set(full, map[int]api.Node{2: {Kind: 2, Body: body}}))
	// One byte longer than there is room for, with what goes.
	x := short(120, 16)
	for i := 0; i < len(l); i++ {
		e, _ := dir.Take(x[1].Body)
		from := "/a/" + e[i].Name
		for long := 1; long <= 6; long++ {
			to := "/a/" + "~~~~~~"[:long]
			if long > len(e[i].Name) {
				wantError(t, x, api.EFull, moves(from, to).too())
				continue
			}
			y, err := edit.Move(x, from, to, true)
			if err != api.OK || len(y[1].Body) != room-len(e[i].Name)+long || !tree.May(y) {
				t.Errorf("Move of %q to %q: %d, %d bytes", from, to, err, len(y[1].Body))
			}
		}
	}
}

// thing is a node as the words have it: its names lead to things, not to numbers.
type thing struct {
	ino, kind, mode int
	text            string
	names           map[string]*thing
}

// model is the things by number.
type model map[int]*thing

func modelOf(x api.Tree) model {
	m := model{}
	for i, n := range x {
		if n.Kind != 0 {
			m[i+1] = &thing{ino: i + 1, kind: n.Kind, mode: n.Mode, text: n.Body, names: map[string]*thing{}}
		}
	}
	for i, n := range x {
		if n.Kind == 2 {
			l, _ := dir.Take(n.Body)
			for _, e := range l {
				m[i+1].names[e.Name] = m[e.Ino]
			}
			m[i+1].text = ""
		}
	}
	return m
}

func (m model) tree() api.Tree {
	x := of()
	for ino, n := range m {
		x[ino-1] = api.Node{Kind: n.kind, Mode: n.mode, Body: n.text + n.entries()}
	}
	return x
}

func (n *thing) entries() string {
	var l []string
	for s := range n.names {
		l = append(l, s)
	}
	sort.Strings(l)
	text := ""
	for _, s := range l {
		text += string([]byte{byte(len(s))}) + s + string([]byte{byte(n.names[s].ino)})
	}
	return text
}

// holds tells whether other is n, or lies in it.
func (n *thing) holds(other *thing) bool {
	if n == other {
		return true
	}
	for _, x := range n.names {
		if x.holds(other) {
			return true
		}
	}
	return false
}

func (m model) walk(l []string) (*thing, api.Errno) {
	n := m[1]
	for _, s := range l {
		switch {
		case n.kind != 2:
			return nil, api.ENoDir
		case n.names[s] == nil:
			return nil, api.ENone
		}
		n = n.names[s]
	}
	return n, api.OK
}

// spot is the folder of a way and its last name, as the words say what the place of a way is.
func (m model) spot(l []string) (*thing, string, api.Errno) {
	if len(l) == 0 {
		return nil, "", api.EExist
	}
	in, e := m.walk(l[:len(l)-1])
	if e == api.OK && in.kind != 2 {
		e = api.ENoDir
	}
	return in, l[len(l)-1], e
}

// put lets that name of a folder lead to n.
func (m model) put(in *thing, s string, n *thing) api.Errno {
	if len(in.entries())+len(s)+2 > room {
		return api.EFull
	}
	in.names[s] = n
	return api.OK
}

// do is what the words say of c; beside an error m may be anything.
func (m model) do(c call) api.Errno {
	from, ok := name.Parts(c.path, c.own)
	to, also := name.Parts(c.to, c.own)
	if !ok || !also && (c.what == "link" || c.what == "move") {
		return api.EArg
	}
	if c.what == "make" {
		return m.make(c, from)
	}
	x, e := m.walk(from)
	if e != api.OK {
		return e
	}
	switch c.what {
	case "link":
		return m.link(x, to)
	case "drop":
		return m.drop(x, from)
	}
	return m.move(x, from, to)
}

func (m model) make(c call, l []string) api.Errno {
	if c.kind != 1 && c.kind != 2 || c.mode < 0 || c.mode > mostMode || c.ino < 0 || c.ino > nodes {
		return api.EArg
	}
	in, last, e := m.spot(l)
	if e != api.OK {
		return e
	}
	ino := c.ino
	switch {
	case in.names[last] != nil:
		return api.EExist
	case ino == 0 && len(m) == nodes:
		return api.EFull
	case m[ino] != nil:
		return api.EExist
	}
	for try := nodes; c.ino == 0 && try > 1; try-- {
		if m[try] == nil {
			ino = try
		}
	}
	m[ino] = &thing{ino: ino, kind: c.kind, mode: c.mode, names: map[string]*thing{}}
	return m.put(in, last, m[ino])
}

func (m model) link(x *thing, to []string) api.Errno {
	if x.kind == 2 {
		return api.EDir
	}
	in, last, e := m.spot(to)
	if e != api.OK {
		return e
	}
	if in.names[last] != nil {
		return api.EExist
	}
	return m.put(in, last, x)
}

func (m model) drop(x *thing, l []string) api.Errno {
	if x == m[1] {
		return api.EDir
	}
	if len(x.names) > 0 {
		return api.EEmpty
	}
	in, last, _ := m.spot(l)
	delete(in.names, last)
	if !m[1].holds(x) {
		delete(m, x.ino)
	}
	return api.OK
}

func (m model) move(x *thing, l, to []string) api.Errno {
	if x == m[1] {
		return api.EDir
	}
	in, last, e := m.spot(to)
	if e != api.OK {
		return e
	}
	was, old, _ := m.spot(l)
	switch {
	case was == in && old == last:
		return api.OK
	case in.names[last] != nil:
		return api.EExist
	case x.holds(in):
		return api.ELoop
	}
	delete(was.names, old)
	return m.put(in, last, x)
}

// wantAsSaid: c does to x what the words say; what is behind it is told.
func wantAsSaid(t *testing.T, x api.Tree, c call) (api.Tree, api.Errno) {
	t.Helper()
	m := modelOf(x)
	e := m.do(c)
	if e != api.OK {
		wantError(t, x, e, c)
		return x, e
	}
	want := m.tree()
	wantDone(t, x, c, want)
	return want, e
}

// waysAround is the ways of x, such that are not there but near, and such that are none.
func waysAround(x api.Tree) []string {
	l := []string{"/", "/q/r", "/q/r/s", "/1/2/3/4/5/6/7/8", "", "a", "/seven77", strings.Repeat("/a", 9)}
	var inside []string
	for ino := range nodes {
		all := tree.Ways(x, ino+1)
		// Of a file of very many names, some are enough.
		l = append(l, all[:min(len(all), 5)]...)
		if len(all) > 0 {
			inside = append(inside, strings.TrimSuffix(all[0], "/"))
		}
	}
	for _, way := range inside {
		l = append(l, way+"/b", way+"/new", way+"/~5")
	}
	return append(l, "/a/", "/sixsix")
}

// P9.1 and P9.2: each call with each of many ways, of several trees, is what the words say.
func TestEachWay(t *testing.T) {
	for _, x := range shapes() {
		ways := waysAround(x)
		for _, from := range ways {
			for _, own := range []bool{false, true} {
				wantAsSaid(t, x, call{what: "drop", path: from, own: own})
				for _, to := range ways {
					wantAsSaid(t, x, call{what: "link", path: from, to: to, own: own})
					wantAsSaid(t, x, call{what: "move", path: from, to: to, own: own})
				}
			}
		}
	}
}

// P9.1: Make with each of many ways, kinds, modes and numbers, of several trees, is what the words say.
func TestEachMake(t *testing.T) {
	for _, x := range shapes() {
		for _, path := range waysAround(x) {
			for kind := range 4 {
				for ino := -1; ino <= nodes+1; ino++ {
					wantAsSaid(t, x, makes(path, kind, 7, ino))
					wantAsSaid(t, x, makes(path, kind, 0, ino).too())
				}
			}
			wantAsSaid(t, x, makes(path, 1, -1, 0))
			wantAsSaid(t, x, makes(path, 1, 256, 0))
			wantAsSaid(t, x, makes(path, 2, 255, 9))
		}
	}
}

// chance tells numbers that follow no plain order, the same ones for the same seed.
func chance(seed int) func(below int) int {
	x := uint64(seed)*0x9E3779B97F4A7C15 + 1
	return func(below int) int {
		x ^= x << 13
		x ^= x >> 7
		x ^= x << 17
		return int(x>>33) % below
	}
}

// anyWay is a way in x, or near it.
func anyWay(x api.Tree, next func(int) int) string {
	way := ""
	for range next(3) {
		way += "/" + []string{"a", "b", "c", "ab", "a!", "~1", "sixsix"}[next(7)]
	}
	if all := tree.Ways(x, 1+next(nodes)); len(all) > 0 && next(5) > 0 {
		is := all[next(len(all))]
		if next(2) == 0 {
			return strings.TrimSuffix(is, "/") + way
		}
		return is
	}
	return way
}

// P9.1 and P9.2, What follows: whatever is done, one behind the other, what may be stays so, and is what the words say; files have bytes of their own then.
func TestLongRuns(t *testing.T) {
	told := map[string]map[api.Errno]int{}
	for seed := range 40 {
		next := chance(seed)
		all := shapes()
		x := all[seed%len(all)]
		for range 400 {
			what := []string{"make", "make", "make", "make", "link", "link", "link", "drop", "move", "move"}[next(10)]
			c := call{what: what, path: anyWay(x, next), kind: 1 + next(2), mode: next(256), own: next(4) > 0}
			switch what {
			case "make":
				c.ino = max(0, next(15)-5)
			case "link", "move":
				c.to = anyWay(x, next)
			}
			y, e := wantAsSaid(t, x, c)
			if told[what] == nil {
				told[what] = map[api.Errno]int{}
			}
			told[what][e]++
			x = y
			if ino := next(nodes); x[ino].Kind == 1 {
				x[ino].Body = strings.Repeat("x", next(room+1))
			}
		}
	}
	// The runs come by each answer that there is.
	for what, l := range map[string][]api.Errno{
		"make": {api.OK, api.EArg, api.EExist, api.ENone, api.ENoDir, api.EFull},
		"link": {api.OK, api.EArg, api.ENone, api.ENoDir, api.EDir, api.EExist, api.EFull},
		"drop": {api.OK, api.EArg, api.ENone, api.ENoDir, api.EDir, api.EEmpty},
		"move": {api.OK, api.EArg, api.ENone, api.ENoDir, api.EDir, api.EExist, api.ELoop, api.EFull},
	} {
		for _, e := range l {
			if told[what][e] < 5 {
				t.Errorf("%d of %v: the runs seldom come by %s with error %d", told[what][e], told, what, e)
			}
		}
	}
}

// R1: whatever is handed in, each call ends, and tells an error and what it was handed.
func TestOdd(t *testing.T) {
	lost := some()
	lost[8] = folder(1, "a9")
	twice := some()
	twice[6] = folder(3, "a2")
	loop := of(folder(7, "a2"), folder(1, "a2", "b1"))
	odd := []api.Tree{
		nil, {}, some()[:3], append(some(), some()...), make(api.Tree, nodes), make(api.Tree, 1<<16), lost, twice, loop,
		of(file(7, "root")), of(folder(7, "a9")), of(zero, folder(7)), of(folder(7, "a1")),
		of(api.Node{Kind: 2, Body: "odd"}), of(api.Node{Kind: 2, Body: "\x01a\xff"}), of(api.Node{Kind: 2, Body: "\x01a\x00"}),
		of(api.Node{Kind: 2, Body: strings.Repeat("\x01a\x02", 1<<16)}), of(api.Node{Kind: math.MinInt, Mode: math.MaxInt, Body: "\xff"}),
		{{Kind: 2}}, {{Kind: 2, Body: "\x01a\x02"}}, {{Kind: 2, Body: "\x01a\x02"}, {Kind: 1}}, of(folder(7, "a2"), api.Node{Kind: 3}), of(folder(256)),
	}
	ways := []string{"", "/", "/a", "/a/a", "/a/b", "/a/a/a/a/a/a/a/a", "/x", "\x00", "/\xff", strings.Repeat("/a", 1<<16)}
	for _, x := range odd {
		if tree.May(x) {
			t.Fatalf("this is not odd: %#v", x)
		}
		for _, from := range ways {
			l := []call{drops(from)}
			for _, ino := range []int{math.MinInt, -1, 0, 1, 2, 9, 10, math.MaxInt} {
				l = append(l, makes(from, 1, 7, ino), makes(from, ino, ino, ino))
			}
			for _, to := range ways {
				l = append(l, links(from, to), moves(from, to))
			}
			for _, c := range l {
				y, e := c.too().do(x)
				if e == api.OK || !slices.Equal(x, y) {
					t.Fatalf("%+v of %#v: %d, %#v", c, x, e, y)
				}
				if len(x) > 0 && &x[0] == &y[0] {
					t.Fatalf("%+v: the nodes told are those handed in", c)
				}
			}
		}
	}
	long := strings.Repeat("/a", 1<<20)
	wantError(t, some(), api.EArg, makes(long, 1, 0, 0), drops(long), links(long, "/x"), links("/b", long), moves(long, long))
}

// R3: what lies behind the tree that is handed in is not touched, and what is told has no room that another has.
func TestRoomBehind(t *testing.T) {
	whole := append(some(), crowd()...)
	before := owned(whole)
	x := whole[:nodes]
	calls := []call{
		makes("/x", 1, 0, 0), makes("/b", 1, 0, 0), links("/b", "/x"), links("/b", "/a"), drops("/b"), drops("/g"), drops("/a"),
		moves("/a", "/x"), moves("/a", "/a"), moves("/a", "/a/x"), moves("/a", "/g/x"),
	}
	for _, c := range calls {
		first, _ := c.do(x)
		second, _ := c.do(x)
		want := slices.Clone(second)
		first = first[:cap(first)]
		for i := range first {
			first[i] = file(1, "turned")
		}
		if !slices.Equal(whole, before) {
			t.Fatalf("%+v: what was handed in is %#v", c, whole)
		}
		if !slices.Equal(second, want) {
			t.Errorf("%+v: what was told is now %#v", c, second)
		}
	}
}

// R4: the same call tells the same, from several at once, whatever was done between.
func TestSameEachTime(t *testing.T) {
	x := some()
	calls := []call{makes("/x", 2, 5, 0), links("/b", "/g/x"), drops("/g"), moves("/a", "/g/x"), moves("/a", "/a/x"), drops("/a")}
	var want []api.Tree
	var errs []api.Errno
	for _, c := range calls {
		y, e := c.do(x)
		want, errs = append(want, y), append(errs, e)
	}
	done := make(chan bool)
	for i := range 8 {
		go func() {
			ok := true
			for n := range 50 {
				c := (n + i) % len(calls)
				calls[c].do(crowd())
				y, e := calls[c].do(x)
				ok = ok && slices.Equal(y, want[c]) && e == errs[c]
			}
			done <- ok
		}()
	}
	for range 8 {
		if !<-done {
			t.Error("asked by several, it tells something else")
		}
	}
}
