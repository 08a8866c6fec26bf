package tree_test

import (
	"math"
	"slices"
	"strings"
	"testing"
	"unsafe"

	"glacis/api"
	"glacis/tree"
)

// The numbers of the chapters, written out: a test that took them from the program would turn with it.
const (
	nodes     = 9
	mostBytes = 120
	mostMode  = 255
	longest   = 6
	deepest   = 8
)

// zero is a node that is not there.
var zero api.Node

func file(mode int, body string) api.Node {
	return api.Node{Kind: 1, Mode: mode, Body: body}
}

// folder has the names l, in that order, behind each the number of its node as one digit.
func folder(mode int, l ...string) api.Node {
	return api.Node{Kind: 2, Mode: mode, Body: names(l...)}
}

func names(l ...string) string {
	s := ""
	for _, x := range l {
		last := len(x) - 1
		s += string([]byte{byte(last)}) + x[:last] + string([]byte{x[last] - '0'})
	}
	return s
}

// of is these nodes, and behind them such that are not there.
func of(l ...api.Node) api.Tree {
	t := make(api.Tree, nodes)
	copy(t, l)
	return t
}

// turned is t with another node ino.
func turned(t api.Tree, ino int, n api.Node) api.Tree {
	t = slices.Clone(t)
	t[ino-1] = n
	return t
}

// some is a tree with two folders and a file of two names, and a name that is one's own; nodes 7 to 9 are not there.
func some() api.Tree {
	return of(
		folder(7, "a2", "b3", "e6"),
		folder(1, "c3", "d4"),
		file(2, "x"),
		folder(0, "~55"),
		file(255, "ice"),
		file(0, ""),
	)
}

// someOther is some, with another node ino.
func someOther(ino int, n api.Node) api.Tree {
	return turned(some(), ino, n)
}

// chain is folders that lie in one another as deep as may be, with last at the end.
func chain(last api.Node) api.Tree {
	t := of()
	for i := range nodes - 1 {
		t[i] = folder(i, "sixsix"+string([]byte{byte('2' + i)}))
	}
	return turned(t, nodes, last)
}

// short is n names of one byte that rise, each of node ino.
func short(n, ino int) string {
	var b []byte
	for c := byte('0'); len(b) < 3*n; c++ {
		b = append(b, 1, c, byte(ino))
	}
	return string(b)
}

// full is one file with as many names as two folders have room for.
func full() api.Tree {
	return of(api.Node{Kind: 2, Body: short(39, 2) + "\x01z\x03"}, file(0, ""), api.Node{Kind: 2, Body: short(40, 2)})
}

// goodName tells, byte by byte, what the words say of a name.
func goodName(s string, own bool) bool {
	for _, b := range []byte(s) {
		if b <= 32 || b >= 127 || b == '/' {
			return false
		}
	}
	return s != "" && len(s) <= longest && (own || s[0] != '~')
}

// read is what the words say of a folder's body.
func read(body string) ([]api.Entry, bool) {
	var l []api.Entry
	last := ""
	for at := 0; at < len(body); {
		to := at + 1 + int(body[at])
		if to >= len(body) {
			return nil, false
		}
		e := api.Entry{Name: body[at+1 : to], Ino: int(body[to])}
		if !goodName(e.Name, true) || e.Name <= last || e.Ino < 1 || e.Ino > nodes {
			return nil, false
		}
		l = append(l, e)
		last = e.Name
		at = to + 1
	}
	return l, len(body) <= mostBytes
}

// goodNode tells what the words say of a node by itself.
func goodNode(n api.Node) bool {
	_, entries := read(n.Body)
	may := n.Kind == 1 && len(n.Body) <= mostBytes || n.Kind == 2 && entries
	return n == zero || may && n.Mode >= 0 && n.Mode <= mostMode
}

// goodTree tells what the words say of a tree: going down from the root, each folder is come to once, and all that is there is come to.
func goodTree(t api.Tree) bool {
	for _, n := range t {
		if !goodNode(n) {
			return false
		}
	}
	if len(t) != nodes || t[0].Kind != 2 {
		return false
	}
	come := map[int]int{1: 1}
	var below func(ino int) bool
	below = func(ino int) bool {
		l, _ := read(t[ino-1].Body)
		for _, e := range l {
			come[e.Ino]++
			kind := t[e.Ino-1].Kind
			if kind == 0 || kind == 2 && (come[e.Ino] > 1 || !below(e.Ino)) {
				return false
			}
		}
		return true
	}
	if !below(1) {
		return false
	}
	for i, n := range t {
		if n.Kind != 0 && come[i+1] == 0 {
			return false
		}
	}
	return true
}

// allWays is every way of a tree that may be, and the node at its end.
func allWays(t api.Tree) map[string]int {
	found := map[string]int{"/": 1}
	var below func(way string, ino int)
	below = func(way string, ino int) {
		if t[ino-1].Kind != 2 {
			return
		}
		l, _ := read(t[ino-1].Body)
		for _, e := range l {
			found[way+"/"+e.Name] = e.Ino
			below(way+"/"+e.Name, e.Ino)
		}
	}
	below("", 1)
	return found
}

// goodWay tells what the words say of a way, and what its names are.
func goodWay(path string, own bool) ([]string, bool) {
	if path == "/" {
		return nil, true
	}
	l := strings.Split(path, "/")
	if l[0] != "" || len(l) < 2 || len(l) > deepest+1 {
		return nil, false
	}
	for _, s := range l[1:] {
		if !goodName(s, own) {
			return nil, false
		}
	}
	return l[1:], true
}

// look is what the words say of a way in a tree that may be, with these ways.
func look(t api.Tree, ways map[string]int, path string, own bool) (int, api.Errno) {
	l, ok := goodWay(path, own)
	if !ok {
		return 0, api.EArg
	}
	for n := range l {
		if t[ways["/"+strings.Join(l[:n], "/")]-1].Kind != 2 {
			return 0, api.ENoDir
		}
		if ways["/"+strings.Join(l[:n+1], "/")] == 0 {
			return 0, api.ENone
		}
	}
	return ways[path], api.OK
}

// chance tells numbers that follow no plain order, the same ones for the same seed.
func chance(seed int) func(below int) int {
	x := uint32(seed)*2654435761 + 12345
	return func(below int) int {
		x = x*1664525 + 1013904223
		return int(x>>16) % below
	}
}

// grown is body with that entry in its place; body, if the name is there, or there is no room.
func grown(body, name string, ino int) string {
	l, _ := read(body)
	is := func(e api.Entry) bool { return e.Name == name }
	if slices.ContainsFunc(l, is) || len(body)+len(name)+2 > mostBytes {
		return body
	}
	l = append(l, api.Entry{Name: name, Ino: ino})
	slices.SortFunc(l, func(a, b api.Entry) int { return strings.Compare(a.Name, b.Name) })
	s := ""
	for _, e := range l {
		s += string([]byte{byte(len(e.Name))}) + e.Name + string([]byte{byte(e.Ino)})
	}
	return s
}

// mixed is a tree that may be, of any shape, its nodes in no plain order.
func mixed(seed int) api.Tree {
	next := chance(seed)
	name := func() string {
		b := make([]byte, 1+next(3))
		for i := range b {
			b[i] = "!-.a~"[next(5)]
		}
		return string(b)
	}
	t := of(folder(next(256)))
	free := []int{2, 3, 4, 5, 6, 7, 8, 9}
	folders := []int{1}
	for range next(nodes) {
		at := next(len(free))
		ino, in := free[at], &t[folders[next(len(folders))]-1]
		body := grown(in.Body, name(), ino)
		if body == in.Body {
			continue
		}
		in.Body = body
		free = slices.Delete(free, at, at+1)
		if next(2) == 0 {
			t[ino-1] = folder(next(256))
			folders = append(folders, ino)
			continue
		}
		t[ino-1] = file(next(256), strings.Repeat("x", next(mostBytes+1)))
		for range next(5) {
			in := &t[folders[next(len(folders))]-1]
			in.Body = grown(in.Body, name(), ino)
		}
	}
	return t
}

func wantMay(t *testing.T, x api.Tree) {
	t.Helper()
	if !goodTree(x) {
		t.Fatalf("this may not be by its words: %#v", x)
	}
	if !tree.May(x) {
		t.Errorf("May of %#v: got no", x)
	}
}

func wantMayNot(t *testing.T, x api.Tree) {
	t.Helper()
	if goodTree(x) {
		t.Fatalf("this may be by its words: %#v", x)
	}
	if tree.May(x) {
		t.Errorf("May of %#v: got yes", x)
	}
}

// wantAsSaid: x may be, or may not, as the words say; if it may, all its ways are what they say.
func wantAsSaid(t *testing.T, x api.Tree) {
	t.Helper()
	if !goodTree(x) {
		wantMayNot(t, x)
		return
	}
	wantMay(t, x)
	wantWaysAsSaid(t, x)
}

// wantWaysAsSaid: Ways and Links of each number, and each way finds its node.
func wantWaysAsSaid(t *testing.T, x api.Tree) {
	t.Helper()
	of := map[int][]string{}
	for way, ino := range allWays(x) {
		of[ino] = append(of[ino], way)
		wantFind(t, x, way, true, ino)
	}
	for ino := -2; ino <= nodes+3; ino++ {
		slices.Sort(of[ino])
		wantWays(t, x, ino, of[ino]...)
		wantLinks(t, x, ino, len(of[ino]))
	}
}

func wantWays(t *testing.T, x api.Tree, ino int, want ...string) {
	t.Helper()
	if got := tree.Ways(x, ino); !slices.Equal(got, want) {
		t.Errorf("Ways of %d in %#v: got %q, want %q", ino, x, got, want)
	}
}

func wantLinks(t *testing.T, x api.Tree, ino, want int) {
	t.Helper()
	if got := tree.Links(x, ino); got != want {
		t.Errorf("Links of %d in %#v: got %d, want %d", ino, x, got, want)
	}
}

func wantFind(t *testing.T, x api.Tree, path string, own bool, want int) {
	t.Helper()
	if got, e := tree.Find(x, path, own); got != want || e != api.OK {
		t.Errorf("Find of %q (own: %v) in %#v: got %d, error %d, want %d", path, own, x, got, e, want)
	}
}

// wantNotFound: beside the error there is no node.
func wantNotFound(t *testing.T, x api.Tree, path string, own bool, want api.Errno) {
	t.Helper()
	if got, e := tree.Find(x, path, own); got != 0 || e != want {
		t.Errorf("Find of %q (own: %v) in %#v: got %d, error %d, want error %d", path, own, x, got, e, want)
	}
}

// wantLook: each of these ways is found, or not, as the words say, with one's own names and without.
func wantLook(t *testing.T, x api.Tree, paths ...string) {
	t.Helper()
	ways := allWays(x)
	for _, path := range paths {
		for _, own := range []bool{false, true} {
			if ino, e := look(x, ways, path, own); e == api.OK {
				wantFind(t, x, path, own, ino)
			} else {
				wantNotFound(t, x, path, own, e)
			}
		}
	}
}

// P8.1, New: nine nodes, none but a root without names.
func TestNew(t *testing.T) {
	n := tree.New()
	if len(n) != 9 || n[0] != (api.Node{Kind: api.Folder, Mode: 7, Body: ""}) {
		t.Fatalf("New: got %#v", n)
	}
	for i, x := range n[1:] {
		if x != (api.Node{Kind: api.None}) {
			t.Errorf("New: node %d is %#v", i+2, x)
		}
	}
	wantMay(t, n)
	wantWaysAsSaid(t, n)
	wantFind(t, n, "/", false, 1)
	wantNotFound(t, n, "/a", false, api.ENone)
}

// P8.1, May: trees of several shapes.
func TestMayShapes(t *testing.T) {
	for _, x := range []api.Tree{
		some(), full(), chain(file(1, "x")), chain(folder(1)), of(folder(0)), of(folder(255)),
		of(folder(7, "a9"), zero, zero, zero, zero, zero, zero, zero, file(1, "")),
		of(folder(7, "a2", "b3", "c4", "d5", "e6", "f7", "g8", "h9"), folder(1), folder(2), folder(3), folder(4), folder(5), folder(6), folder(7), folder(8)),
		of(folder(7, "a2", "b3", "c4", "d5", "e6", "f7", "g8", "h9"), file(1, ""), file(2, ""), file(3, ""), file(4, ""), file(5, ""), file(6, ""), file(7, ""), file(8, "")),
		of(folder(7, "~22"), folder(1, "~33"), file(1, "")),
		// Numbers that fall on the way down.
		of(folder(7, "a9"), file(1, ""), folder(1, "b2", "c2"), zero, zero, zero, zero, folder(2, "d3"), folder(3, "e8")),
	} {
		wantAsSaid(t, x)
	}
	wantMay(t, some())
	wantMay(t, full())
	wantMay(t, chain(file(1, "x")))
	wantMay(t, chain(folder(1)))
}

// orders calls f with every order of the numbers l.
func orders(l []int, f func([]int)) {
	var from func(n int)
	from = func(n int) {
		if n == len(l) {
			f(l)
		}
		for i := n; i < len(l); i++ {
			l[n], l[i] = l[i], l[n]
			from(n + 1)
			l[n], l[i] = l[i], l[n]
		}
	}
	from(0)
}

// P8.1 and P8.2: nodes that lie in one another as deep as may be, whichever their numbers are on the way down.
func TestDeepInEachOrder(t *testing.T) {
	way := strings.Repeat("/a", 8)
	orders([]int{2, 3, 4, 5, 6, 7, 8, 9}, func(l []int) {
		x := of(folder(7))
		in := 1
		for _, ino := range l {
			x[in-1] = folder(in, "a"+string([]byte{byte('0' + ino)}))
			in = ino
		}
		x[in-1] = file(1, "x")
		wantMay(t, x)
		wantFind(t, x, way, false, in)
		wantWays(t, x, in, way)
		// The last folder leads to itself: the file is lost.
		last := l[len(l)-2]
		wantMayNot(t, turned(x, last, folder(1, "a"+string([]byte{byte('0' + last)}))))
	})
}

// P8.1, May: each Mode, and each count of bytes in a file, that may be.
func TestMayEdges(t *testing.T) {
	for mode := range 256 {
		wantMay(t, someOther(1, folder(mode, "a2", "b3", "e6")))
		wantMay(t, someOther(4, folder(mode, "~55")))
		wantMay(t, someOther(6, file(mode, "")))
		wantMay(t, someOther(6, file(mode, strings.Repeat("x", 120))))
	}
	for n := range 121 {
		wantMay(t, someOther(3, file(2, strings.Repeat("x", n))))
		wantMay(t, someOther(6, file(0, strings.Repeat("\x00", n))))
	}
	for b := range 256 {
		wantMay(t, someOther(6, file(0, strings.Repeat(string([]byte{byte(b)}), 120))))
	}
}

// P8.1, May: a File has one name or several, in one folder or in several.
func TestMayNamesOfFiles(t *testing.T) {
	for _, x := range []api.Tree{
		of(folder(7, "a2"), file(1, "")),
		of(folder(7, "a2"), folder(1, "a3"), file(1, "")), // none but through a folder
		of(folder(7, "a2", "b2"), file(1, "")),
		of(folder(7, "a2", "b2", "c2", "d3"), file(1, ""), folder(1, "a2", "b2", "c2")),
		of(folder(7, "a2", "b3"), folder(1, "a4"), folder(1, "a4"), file(1, "")),
		of(folder(7, "a2"), folder(1, "a3"), folder(1, "a4"), file(1, "x")),
		of(folder(7, "a3", "b4"), file(1, ""), folder(1, "a2"), folder(1, "a2", "b2")),
	} {
		wantMay(t, x)
		wantWaysAsSaid(t, x)
	}
	// What is in a file are no entries, even if it looks like some.
	for _, s := range []string{names("a1"), names("a6"), names("a9"), names("a2", "b3"), "\x01a", "odd"} {
		wantMay(t, someOther(6, file(0, s)))
		wantWaysAsSaid(t, someOther(6, file(0, s)))
	}
}

// P8.1, May: no list of fewer or more than nine nodes.
func TestMayNotCount(t *testing.T) {
	wantMayNot(t, nil)
	wantMayNot(t, api.Tree{})
	wantMayNot(t, make(api.Tree, 9)) // nine, but none that is there
	for n := range 9 {
		for _, x := range []api.Tree{tree.New(), some(), chain(file(1, ""))} {
			wantMayNot(t, x[:n])
			wantMayNot(t, append(slices.Clone(x), make(api.Tree, n+1)...))
			wantMayNot(t, append(slices.Clone(x), x[:n+1]...))
		}
	}
	wantMayNot(t, append(tree.New(), make(api.Tree, 247)...))
	wantMayNot(t, append(tree.New(), make(api.Tree, 256)...))
}

// P8.1, May: a node that is not there is zero.
func TestMayNotNone(t *testing.T) {
	for ino := 1; ino <= 9; ino++ {
		for _, x := range []api.Tree{tree.New(), some(), chain(file(1, "x"))} {
			wantMayNot(t, turned(x, ino, api.Node{Mode: 1}))
			wantMayNot(t, turned(x, ino, api.Node{Mode: 7}))
			wantMayNot(t, turned(x, ino, api.Node{Mode: -1}))
			wantMayNot(t, turned(x, ino, api.Node{Mode: 256}))
			wantMayNot(t, turned(x, ino, api.Node{Body: "x"}))
			wantMayNot(t, turned(x, ino, api.Node{Body: "\x00"}))
			wantMayNot(t, turned(x, ino, api.Node{Mode: 1, Body: "x"}))
		}
	}
}

// P8.1, May: Kinds that are none, and Modes below and above those that may be, of each node.
func TestMayNotKindMode(t *testing.T) {
	for _, x := range []api.Tree{some(), full(), chain(file(1, "")), chain(folder(1))} {
		for ino := 1; ino <= 9; ino++ {
			for _, kind := range []int{-1, 3, 4, -2, 255, 256, 257, 258, 1<<32 + 1, math.MinInt, math.MaxInt} {
				n := x[ino-1]
				n.Kind = kind
				wantMayNot(t, turned(x, ino, n))
			}
			for _, mode := range []int{-1, 256, -2, -255, -256, 257, 511, 512, 1<<32 + 1, math.MinInt, math.MaxInt} {
				n := x[ino-1]
				n.Mode = mode
				wantMayNot(t, turned(x, ino, n))
			}
		}
	}
}

// P8.1, May: a file of more than 120 bytes, and a folder whose bytes are no entries.
func TestMayNotBody(t *testing.T) {
	for _, n := range []int{121, 122, 128, 240, 255, 256, 1000, 1 << 20} {
		wantMayNot(t, someOther(6, file(0, strings.Repeat("x", n))))
	}
	for _, s := range []string{
		"odd", "\x00", "\x01", "\x01a", "\x02a\x03", "\x01a\x03\x00", "\x00\x03", // cut short, or behind
		"\x01b\x03\x01a\x03", "\x01a\x03\x01a\x03", "\x01a\x03\x01a\x05", // they do not rise
		"\x01a\x00", "\x01a\x0a", "\x01a\xff", // Ino is none
		"\x01/\x03", "\x01 \x03", "\x07seven77\x03", "\x01\x7f\x03", // the name is none
		short(41, 3), short(60, 3), // no room
	} {
		wantMayNot(t, someOther(2, api.Node{Kind: 2, Mode: 1, Body: s}))
		wantMayNot(t, someOther(6, api.Node{Kind: 2, Mode: 1, Body: s}))
		wantMayNot(t, of(api.Node{Kind: 2, Mode: 1, Body: s}, zero, file(1, "")))
	}
}

// P8.1, May: the root is a Folder, and in no folder.
func TestMayNotRoot(t *testing.T) {
	for _, root := range []api.Node{zero, file(7, ""), file(7, "x"), file(7, names("a2", "b3", "e6"))} {
		wantMayNot(t, of(root))
		wantMayNot(t, someOther(1, root))
	}
	// No node that is there, and no root: nothing else is wrong.
	wantMayNot(t, of(zero, folder(7)))
	for _, x := range []api.Tree{
		of(folder(7, "a1")),
		someOther(1, folder(7, "a2", "b3", "e6", "f1")),
		someOther(2, folder(1, "c3", "d4", "e1")),
		someOther(4, folder(0, "a1", "~55")),
		turned(chain(folder(1)), 9, folder(1, "a1")),
		// The root lies in a folder that nothing else leads to.
		of(folder(7), folder(7, "a1")),
	} {
		wantMayNot(t, x)
	}
}

// P8.1, May: each entry's node is there, in whichever folder it stands.
func TestMayNotEntries(t *testing.T) {
	for ino := 2; ino <= 9; ino++ {
		name := "a" + string([]byte{byte('0' + ino)})
		wantMayNot(t, of(folder(7, name)))
		wantMayNot(t, turned(of(folder(7, name), file(1, ""), file(1, ""), file(1, ""), file(1, ""), file(1, ""), file(1, ""), file(1, ""), file(1, "")), ino, zero))
	}
	for _, last := range []string{"f7", "f8", "f9"} {
		wantMayNot(t, someOther(1, folder(7, "a2", "b3", "e6", last)))
		wantMayNot(t, someOther(2, folder(1, "c3", "d4", last)))
		wantMayNot(t, someOther(4, folder(0, last, "~55")))
	}
	for _, ino := range []int{2, 3, 5, 6} {
		wantMayNot(t, someOther(ino, zero))
	}
	wantMayNot(t, chain(zero))
}

// P8.1, May: all that is there is reached from the root, not only from somewhere.
func TestMayNotReached(t *testing.T) {
	for ino := 7; ino <= 9; ino++ {
		in := string([]byte{byte('0' + ino)})
		wantMayNot(t, someOther(ino, file(0, "")))
		wantMayNot(t, someOther(ino, folder(0)))
		wantMayNot(t, someOther(ino, folder(0, "a3")))   // a file that is reached, but it is not
		wantMayNot(t, someOther(ino, folder(0, "a"+in))) // it lies in itself
	}
	lost := func(l ...api.Node) api.Tree {
		return append(some()[:6], l...)
	}
	wantMayNot(t, lost(folder(0, "a8"), folder(0, "a7"), zero))              // in one another
	wantMayNot(t, lost(folder(0, "a8"), folder(0, "a9"), folder(0, "a7")))   // three of them
	wantMayNot(t, lost(folder(0, "a8", "b9"), folder(0, "a7"), file(0, ""))) // with a file
	wantMayNot(t, lost(folder(0, "a8"), file(0, ""), zero))                  // a file that is in a lost one
	wantMayNot(t, lost(folder(0, "a8"), folder(0, "a9"), file(0, "")))
	wantMayNot(t, someOther(1, folder(7, "a2", "b3"))) // the name of 6 is gone
	wantMayNot(t, someOther(2, folder(1, "c3")))       // that of 4, and with it 5
	// One after the other loses its name in a long row.
	for ino := 1; ino <= 8; ino++ {
		wantMayNot(t, turned(chain(file(1, "")), ino, folder(1)))
	}
}

// P8.1, May: a Folder has one name alone.
func TestMayNotNamesOfFolders(t *testing.T) {
	for _, x := range []api.Tree{
		of(folder(7, "a2", "b2"), folder(1)),                                     // in one folder
		of(folder(7, "a2", "b3"), folder(1, "a3"), folder(1)),                    // in two
		of(folder(7, "a2", "b3"), folder(1), folder(1, "a2")),                    // that is ahead of its own
		of(folder(7, "a2"), folder(1, "a2")),                                     // in the root, and in itself
		of(folder(7, "a2"), folder(1, "a3"), folder(1, "a2")),                    // in the root, and below itself
		of(folder(7, "a2"), folder(1, "a3", "b3"), folder(1, "c4"), file(1, "")), // deeper, with a file
		someOther(1, folder(7, "a2", "b3", "e6", "f4")),
		someOther(2, folder(1, "c3", "d4", "e4")),
		someOther(4, folder(0, "a2", "~55")),
		someOther(4, folder(0, "a4", "~55")),
	} {
		wantMayNot(t, x)
	}
	wantMayNot(t, of(api.Node{Kind: 2, Body: short(40, 2)}, folder(1)))
}

// P8.1 and P8.2: every tree of four nodes, the first three of any Kind, with any names "a" and "b".
func TestEachSmallTree(t *testing.T) {
	kinds := []api.Node{zero, file(1, "")}
	for a := range 5 {
		for b := range 5 {
			var l []string
			if a > 0 {
				l = append(l, "a"+string([]byte{byte('0' + a)}))
			}
			if b > 0 {
				l = append(l, "b"+string([]byte{byte('0' + b)}))
			}
			kinds = append(kinds, folder(1, l...))
		}
	}
	var paths []string
	for _, one := range []string{"", "/a", "/b", "/c", "/~"} {
		for _, two := range []string{"", "/a", "/b"} {
			for _, three := range []string{"", "/a", "/b", "/a/b", "/"} {
				paths = append(paths, one+two+three)
			}
		}
	}
	good := 0
	for _, first := range kinds {
		for _, second := range kinds {
			for _, third := range kinds {
				for _, fourth := range []api.Node{zero, file(1, ""), folder(1), folder(1, "a2"), folder(1, "a3")} {
					x := of(first, second, third, fourth)
					wantAsSaid(t, x)
					if goodTree(x) {
						wantLook(t, x, paths...)
						good++
					}
				}
			}
		}
	}
	if good < 400 {
		t.Errorf("of these only %d may be", good)
	}
}

// P8.1 and P8.2: trees of any shape, and such with one thing turned.
func TestMixed(t *testing.T) {
	kept := 0
	for seed := range 1500 {
		x := mixed(seed)
		wantMay(t, x)
		wantWaysAsSaid(t, x)
		next := chance(seed + 1<<20)
		for range 10 {
			ino := 1 + next(nodes)
			n := x[ino-1]
			switch next(4) {
			case 0:
				n.Kind = next(5) - 1
			case 1:
				n.Mode = next(300) - 20
			case 2:
				n.Body = grown(n.Body, "a-a", 1+next(nodes))
			case 3:
				n = x[next(nodes)]
			}
			wantAsSaid(t, turned(x, ino, n))
			if goodTree(turned(x, ino, n)) {
				kept++
			}
		}
	}
	if kept < 1500 || kept > 13500 {
		t.Errorf("of 15000 with one thing turned %d may be", kept)
	}
}

// P8.1, Same: alike in all, or not in one thing.
func TestSame(t *testing.T) {
	trees := []api.Tree{nil, tree.New(), some(), full(), chain(zero), chain(file(1, "x")), chain(folder(1)), some()[:8], some()[:6], append(some(), zero), make(api.Tree, 9), make(api.Tree, 1)}
	for i, a := range trees {
		for j, b := range trees {
			if got := tree.Same(a, slices.Clone(b)); got != (i == j) {
				t.Errorf("Same of trees %d and %d: got %v", i, j, got)
			}
		}
	}
	if !tree.Same(nil, api.Tree{}) || !tree.Same(api.Tree{}, nil) || !tree.Same(nil, nil) {
		t.Error("Same of no nodes: got no")
	}
	// The same bytes at another place of memory.
	for i := range nodes {
		x := some()
		x[i].Body = strings.Clone(x[i].Body)
		if !tree.Same(x, some()) {
			t.Errorf("Same with the same bytes of node %d: got no", i+1)
		}
	}
}

// P8.1, Same: trees that differ in one thing, whether they may be or not.
func TestSameNot(t *testing.T) {
	differ := func(what string, a, b api.Tree) {
		t.Helper()
		if tree.Same(a, b) || tree.Same(b, a) {
			t.Errorf("Same with another %s: got yes: %#v, %#v", what, a, b)
		}
	}
	for i := range nodes {
		x := some()
		x[i].Kind++
		differ("Kind", some(), x)
		x = some()
		x[i].Mode++
		differ("Mode", some(), x)
		x = some()
		x[i].Mode += 1 << 40
		differ("Mode", some(), x)
		x = some()
		x[i].Body += "\x00"
		differ("Body", some(), x)
		for at := range some()[i].Body {
			b := []byte(some()[i].Body)
			b[at] ^= 1
			x[i].Body = string(b)
			differ("byte", some(), x)
		}
		for j := range i {
			x = some()
			x[i], x[j] = x[j], x[i]
			if some()[i] != some()[j] {
				differ("order", some(), x)
			}
		}
	}
}

// P8.2, Find: "/", and ways to files and folders.
func TestFind(t *testing.T) {
	for path, ino := range map[string]int{"/": 1, "/a": 2, "/b": 3, "/e": 6, "/a/c": 3, "/a/d": 4} {
		wantFind(t, some(), path, false, ino)
		wantFind(t, some(), path, true, ino)
	}
	way := ""
	for i := range 8 {
		way += "/sixsix"
		wantFind(t, chain(file(1, "x")), way, false, i+2)
		wantFind(t, chain(folder(1)), way, false, i+2)
	}
	for _, path := range []string{"/0", "/V", "/z"} {
		wantLook(t, full(), path)
	}
	wantFind(t, full(), "/0", false, 2)
	wantFind(t, full(), "/V", false, 2)
	wantFind(t, full(), "/z", false, 3)
	wantFind(t, full(), "/z/W", false, 2)
	wantNotFound(t, full(), "/W", false, api.ENone)
}

// P8.2, Find: names that are one's own, which alone may say so.
func TestFindOwn(t *testing.T) {
	wantFind(t, some(), "/a/d/~5", true, 5)
	wantNotFound(t, some(), "/a/d/~5", false, api.EArg)
	wantNotFound(t, some(), "/a/d/~6", true, api.ENone)
	wantNotFound(t, some(), "/a/d/~6", false, api.EArg)
	wantNotFound(t, some(), "/~5", true, api.ENone)
	wantNotFound(t, some(), "/b/~5", true, api.ENoDir)
	wantNotFound(t, some(), "/b/~5", false, api.EArg)
	x := of(folder(7, "~22"), folder(1, "a3"), file(1, ""))
	wantFind(t, x, "/~2", true, 2)
	wantFind(t, x, "/~2/a", true, 3)
	wantNotFound(t, x, "/~2", false, api.EArg)
	wantNotFound(t, x, "/~2/a", false, api.EArg)
	// Not at its front, "~" is a byte like another.
	x = of(folder(7, "a~2"), folder(1, "a~~3"), file(1, ""))
	wantFind(t, x, "/a~/a~~", false, 3)
	wantFind(t, x, "/a~/a~~", true, 3)
}

// P8.2, Find, EArg: what is no way, ahead of whatever else is wrong with it.
func TestFindNoWay(t *testing.T) {
	for _, path := range []string{
		"", "a", "a/c", "//", "///", "/a/", "/a//c", "//a", "/a/c/", "/e/", " /", "~", "\\a",
		"/ ", "/a b", "/\x00", "/\x7f", "/\xff", "/\xc3\xa9", "/seven77", "/a/seven77", "/\x1f",
		"/x/ ", "/b/x/", "/b//x", "/x//", "/b/ ", "/a/c/x/", // none, or no folder, ahead of what may not be
		"/a/a/a/a/a/a/a/a/a", "/b/x/x/x/x/x/x/x/x", "/x/x/x/x/x/x/x/x/x", strings.Repeat("/a", 100),
	} {
		for _, own := range []bool{false, true} {
			wantNotFound(t, some(), path, own, api.EArg)
			wantNotFound(t, tree.New(), path, own, api.EArg)
		}
	}
	wantNotFound(t, chain(folder(1)), strings.Repeat("/sixsix", 9), false, api.EArg)
	wantNotFound(t, chain(file(1, "")), strings.Repeat("/sixsix", 9), true, api.EArg)
	for b := range 256 {
		one := string([]byte{byte(b)})
		for _, s := range []string{one, "/" + one, "/a" + one, "/" + one + "a", "/a/" + one, "/a/c" + one, "/b/" + one, "/a/d/" + one + "5", "/x/" + one} {
			wantLook(t, some(), s)
		}
	}
}

// P8.2, Find, ENoDir and ENone: whichever comes first on the way down.
func TestFindNot(t *testing.T) {
	for path, want := range map[string]api.Errno{
		"/x": api.ENone, "/A": api.ENone, "/aa": api.ENone, "/c": api.ENone, "/d": api.ENone, "/sixsix": api.ENone,
		"/a/x": api.ENone, "/a/a": api.ENone, "/a/b": api.ENone, "/a/d/x": api.ENone, "/a/d/d": api.ENone,
		"/x/y": api.ENone, "/x/a": api.ENone, "/a/x/c": api.ENone, "/c/d": api.ENone, "/x/x/x/x/x/x/x/x": api.ENone,
		"/b/x": api.ENoDir, "/e/x": api.ENoDir, "/b/b": api.ENoDir, "/b/c": api.ENoDir, "/a/c/x": api.ENoDir,
		"/a/c/x/y": api.ENoDir, "/b/x/y": api.ENoDir, "/b/x/x/x/x/x/x/x": api.ENoDir,
	} {
		wantNotFound(t, some(), path, false, want)
		wantNotFound(t, some(), path, true, want)
	}
	// A file whose bytes look like entries is no folder.
	x := someOther(6, file(0, names("x3")))
	wantNotFound(t, x, "/e/x", false, api.ENoDir)
	wantNotFound(t, x, "/e/y", false, api.ENoDir)
}

// P8.2, Links: the root, and nodes of no name, of one, of several.
func TestLinks(t *testing.T) {
	for ino, want := range []int{0, 1, 1, 2, 1, 1, 1, 0, 0, 0, 0} {
		wantLinks(t, some(), ino, want)
	}
	wantLinks(t, full(), 2, 79)
	wantLinks(t, full(), 3, 1)
	for _, ino := range []int{-1, 0, 10, 11, 255, 256, 257, 258, 1<<32 + 2, math.MinInt, math.MaxInt} {
		for _, x := range []api.Tree{tree.New(), some(), full(), chain(file(1, ""))} {
			wantLinks(t, x, ino, 0)
		}
	}
	for ino := 1; ino <= 9; ino++ {
		wantLinks(t, chain(file(1, "")), ino, 1)
	}
	wantLinks(t, tree.New(), 1, 1)
	wantLinks(t, tree.New(), 2, 0)
}

// P8.2, Ways: the root, and nodes of no name, of one, of several.
func TestWays(t *testing.T) {
	for ino, want := range [][]string{nil, {"/"}, {"/a"}, {"/a/c", "/b"}, {"/a/d"}, {"/a/d/~5"}, {"/e"}, nil, nil, nil, nil} {
		wantWays(t, some(), ino, want...)
	}
	for _, ino := range []int{-1, 0, 10, 11, 255, 256, 257, 258, 1<<32 + 2, math.MinInt, math.MaxInt} {
		for _, x := range []api.Tree{tree.New(), some(), full(), chain(file(1, ""))} {
			wantWays(t, x, ino)
		}
	}
	wantWays(t, tree.New(), 1, "/")
	wantWays(t, tree.New(), 2)
	for ino := 2; ino <= 9; ino++ {
		wantWays(t, chain(folder(1)), ino, strings.Repeat("/sixsix", ino-1))
	}
}

// P8.2, Ways: they rise as texts, not by folder, by name, or by how many names they have.
func TestWaysRise(t *testing.T) {
	// "!" to "." are below "/", the rest is above it.
	x := of(folder(7, "a2", "a!3", "a.3", "a03", "aa3", "b3"), folder(1, "!3", "z3"), file(1, ""))
	wantWays(t, x, 3, "/a!", "/a.", "/a/!", "/a/z", "/a0", "/aa", "/b")
	x = of(folder(7, "a2", "b3", "c4"), folder(1, "z4"), folder(1, "a4"), file(1, ""))
	wantWays(t, x, 4, "/a/z", "/b/a", "/c")
	// Folders whose numbers fall where their names rise.
	x = of(folder(7, "a4", "b3", "c2"), folder(1, "a5"), folder(1, "a5"), folder(1, "a5"), file(1, ""))
	wantWays(t, x, 5, "/a/a", "/b/a", "/c/a")
	x = of(folder(7, "B2", "a3", "~2"), file(1, ""), folder(1, "A2", "a2", "~2"))
	wantWays(t, x, 2, "/B", "/a/A", "/a/a", "/a/~", "/~")
	for _, x := range []api.Tree{some(), full()} {
		for ino := 1; ino <= 9; ino++ {
			if !slices.IsSorted(tree.Ways(x, ino)) {
				t.Errorf("Ways of %d do not rise: %q", ino, tree.Ways(x, ino))
			}
		}
	}
}

// What follows: each way finds its node, and is found once.
func TestEachWayFinds(t *testing.T) {
	for seed := range 2000 {
		x := mixed(seed)
		seen := map[string]int{}
		for ino := 1; ino <= nodes; ino++ {
			l := tree.Ways(x, ino)
			wantLinks(t, x, ino, len(l))
			for _, way := range l {
				wantFind(t, x, way, true, ino)
				wantLook(t, x, way+"/a", way+"/", way+"/~!", way+"!", way[1:])
				seen[way]++
			}
		}
		for way := range allWays(x) {
			if seen[way] != 1 {
				t.Errorf("%q is told %d times", way, seen[way])
			}
		}
	}
}

// R1: what is no tree, and no way, whatever it is, ends and does not panic.
func TestWhateverItIs(t *testing.T) {
	crowd := of()
	for i := range crowd {
		// Each node has 40 names, in each folder four or five: the ways have no end.
		var b []byte
		for k := range 40 {
			b = append(b, 1, byte('0'+k), byte(1+k%nodes))
		}
		crowd[i] = api.Node{Kind: 2, Mode: i, Body: string(b)}
	}
	long := slices.Repeat(crowd, 1<<11)
	odd := []api.Tree{
		nil, {}, of(), of(file(1, names("a1"))), crowd, crowd[:1], crowd[:2], long, slices.Repeat(some(), 1<<12),
		of(folder(7, "a1")), of(folder(7, "a2"), folder(7, "a2")), of(folder(7, "a2"), folder(7, "a3"), folder(7, "a2")),
		of(folder(7, "a9"))[:3], {{Kind: 2, Body: "odd"}}, {{Kind: 2, Body: strings.Repeat("\xff", 1<<20)}}, {{Kind: -1, Mode: math.MinInt}},
		{{Kind: 2, Body: strings.Repeat(names("a2"), 1<<18)}},
	}
	for _, x := range odd {
		wantMayNot(t, x)
		tree.Same(x, crowd)
		tree.Same(some(), x)
		for _, ino := range []int{math.MinInt, -1, 0, 1, 2, 3, 9, 10, 11, len(x), len(x) + 1, math.MaxInt} {
			tree.Links(x, ino)
			tree.Ways(x, ino)
		}
		for _, path := range []string{"", "/", "/a", "/0", "/0/1/2/3", "/a/a/a/a/a/a/a/a", "/9/9", "\x00", "/\xff"} {
			tree.Find(x, path, false)
			tree.Find(x, path, true)
		}
	}
	for _, s := range []string{"/", "a", "/a", "/sixsix", "\x00", "~/"} {
		wantNotFound(t, some(), strings.Repeat(s, 1<<20), true, api.EArg)
	}
}

// R3: no call changes the tree that it is handed, or the room behind it.
func TestRoomBehind(t *testing.T) {
	for _, whole := range []api.Tree{append(some(), some()...), append(full(), file(1, "x"), folder(2), file(3, "z"))} {
		before := slices.Clone(whole)
		for n := range len(whole) + 1 {
			x := whole[:n]
			tree.May(x)
			tree.Same(x, whole)
			for ino := -1; ino <= nodes+1; ino++ {
				tree.Links(x, ino)
				l := tree.Ways(x, ino)
				l = l[:cap(l)]
				for i := range l {
					l[i] = "turned"
				}
			}
			for _, path := range []string{"/", "/a/c", "/a/d/~5", "/x", "/b/x", "a"} {
				tree.Find(x, path, true)
			}
			if !slices.Equal(whole, before) {
				t.Fatalf("of %d nodes: what was handed in is %#v", n, whole)
			}
		}
	}
}

// R3: what was told stays as it was, whatever is done to what else is told.
func TestAnswersNew(t *testing.T) {
	first, second := tree.New(), tree.New()
	for i := range first {
		first[i] = file(1, "turned")
	}
	if third := tree.New(); !slices.Equal(second, third) || second[0] != folder(7) {
		t.Errorf("New is %#v, then %#v", second, third)
	}
	x := some()
	a, b := tree.Ways(x, 3), tree.Ways(x, 3)
	a[0], a[1] = "turned", "turned"
	x[0], x[1] = zero, zero
	if !slices.Equal(b, []string{"/a/c", "/b"}) {
		t.Errorf("Ways: what was told is now %q", b)
	}
}

// within tells whether s lies in the memory of whole.
func within(whole, s string) bool {
	from, at := uintptr(unsafe.Pointer(unsafe.StringData(whole))), uintptr(unsafe.Pointer(unsafe.StringData(s)))
	return whole != "" && s != "" && at >= from && at < from+uintptr(len(whole))
}

// R3: the ways that are told do not lie in what was handed in.
func TestWaysNew(t *testing.T) {
	for _, x := range []api.Tree{some(), full(), chain(file(1, "x"))} {
		for i := range x {
			x[i].Body = strings.Clone(x[i].Body)
		}
		for ino := 1; ino <= nodes; ino++ {
			for _, way := range tree.Ways(x, ino) {
				for _, n := range x {
					if within(n.Body, way) {
						t.Errorf("%q lies in the tree that was handed in", way)
					}
				}
			}
		}
	}
}

// R4: the same call tells the same, from several at once, whatever was asked between.
func TestSameEachTime(t *testing.T) {
	x := some()
	done := make(chan bool)
	for i := range 8 {
		go func() {
			tree.Ways(mixed(i), 3)
			tree.May(mixed(i * 3))
			ino, e := tree.Find(x, "/a/d/~5", true)
			_, no := tree.Find(x, "/b/x", false)
			done <- tree.May(x) && ino == 5 && e == api.OK && no == api.ENoDir && tree.Links(x, 3) == 2 &&
				slices.Equal(tree.Ways(x, 3), []string{"/a/c", "/b"}) && tree.Same(x, some()) && !tree.Same(x, tree.New())
		}()
	}
	for range 8 {
		if !<-done {
			t.Error("asked by several, it tells something else")
		}
	}
}
