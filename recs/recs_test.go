package recs_test

import (
	"math"
	"slices"
	"strings"
	"testing"
	"unsafe"

	"glacis/api"
	"glacis/body"
	"glacis/edit"
	"glacis/recs"
	"glacis/tree"
)

// The numbers of the chapters, written out: a test that took them from the program would turn with it.
const (
	nodes     = 9
	mostBytes = 120
	chunk     = 40
	mostRecs  = 36 // nine nodes, of each what it is and three chunks
)

func file(mode int, text string) api.Node {
	return api.Node{Kind: 1, Mode: mode, Body: text}
}

// folder has the names l, which rise, behind each the number of its node as one digit.
func folder(mode int, l ...string) api.Node {
	var b strings.Builder
	for _, s := range l {
		last := len(s) - 1
		b.WriteByte(byte(last))
		b.WriteString(s[:last])
		b.WriteByte(s[last] - '0')
	}
	return api.Node{Kind: 2, Mode: mode, Body: b.String()}
}

// of is these nodes, and behind them such that are not there.
func of(l ...api.Node) api.Tree {
	x := make(api.Tree, nodes)
	copy(x, l)
	return x
}

// with is x with another node ino.
func with(x api.Tree, ino int, n api.Node) api.Tree {
	x = slices.Clone(x)
	x[ino-1] = n
	return x
}

// all is n bytes, none like those about it.
func all(n int) string {
	b := make([]byte, n)
	for i := range b {
		b[i] = byte(200 - i)
	}
	return string(b)
}

// some has files of no, one, two and three chunks, numbers that are not there, and a folder of two chunks.
func some() api.Tree {
	return of(
		folder(7, "a2", "b3", "sixsix3", "~own4"),
		folder(0, "c5", "d5", "e5", "f5", "g5", "h5", "i5", "j5", "k5", "l5", "m5", "n5", "o5", "p9"),
		file(255, ""),
		file(1, all(41)),
		file(2, all(120)),
		api.Node{}, api.Node{}, api.Node{},
		file(3, "\x00"),
	)
}

// chain is folders that lie in one another as deep as may be, with a file at the end, their numbers falling.
func chain() api.Tree {
	x := of(folder(7, "a9"))
	for ino := 3; ino <= nodes; ino++ {
		x[ino-1] = folder(ino, "a"+string([]byte{byte('0' + ino - 1)}))
	}
	return with(x, 2, file(2, all(80)))
}

// fullest has as many records as a tree may have: the root and a folder have as many names as they have room for, all files as many bytes.
func fullest() api.Tree {
	x := of(folder(7, "a2", "b3", "c4", "d5", "e6", "f7", "g8", "h9"), folder(255))
	for ino := 3; ino <= nodes; ino++ {
		x[ino-1] = file(ino, all(mostBytes))
	}
	x[0].Body = names(32, 3) + x[0].Body
	x[1].Body = names(40, 3)
	return x
}

// names is n names of one byte that rise, none of them a small letter, each of node ino.
func names(n, ino int) string {
	var b []byte
	for i := range n {
		b = append(b, 1, byte('0'+i), byte(ino))
	}
	return string(b)
}

func shapes() []api.Tree {
	return []api.Tree{tree.New(), some(), chain(), fullest(), of(folder(0)), of(folder(255, "a9"), api.Node{}, api.Node{}, api.Node{}, api.Node{}, api.Node{}, api.Node{}, api.Node{}, file(0, all(40)))}
}

func rec(ino, idx int, load string) api.Rec {
	return api.Rec{Ino: ino, Idx: idx, Load: load}
}

// said is the records of x, as the words have it.
func said(x api.Tree) []api.Rec {
	var l []api.Rec
	for i, n := range x {
		if n.Kind == 0 {
			continue
		}
		l = append(l, rec(i+1, 0, string([]byte{byte(n.Kind), byte(n.Mode), byte(len(n.Body))})))
		for idx, rest := 1, n.Body; rest != ""; idx++ {
			size := chunk
			if len(rest) < size {
				size = len(rest)
			}
			l = append(l, rec(i+1, idx, rest[:size]))
			rest = rest[size:]
		}
	}
	return l
}

// saidTree is the tree that l may stand for, as the words have it: record by record, each just what must be next.
func saidTree(l []api.Rec) (api.Tree, bool) {
	x := of()
	for len(l) > 0 {
		r := l[0]
		if r.Ino < 1 || r.Ino > nodes || r.Idx != 0 || len(r.Load) != 3 || x[r.Ino-1].Kind != 0 {
			return nil, false
		}
		// Those ahead have lesser numbers.
		for _, n := range x[r.Ino-1:] {
			if n.Kind != 0 {
				return nil, false
			}
		}
		l = l[1:]
		text, left := "", int(r.Load[2])
		for idx := 1; left > 0; idx++ {
			size := min(left, chunk)
			if len(l) == 0 || l[0].Ino != r.Ino || l[0].Idx != idx || len(l[0].Load) != size {
				return nil, false
			}
			text += l[0].Load
			left -= size
			l = l[1:]
		}
		x[r.Ino-1] = api.Node{Kind: int(r.Load[0]), Mode: int(r.Load[1]), Body: text}
		if r.Load[0] == 0 {
			return nil, false
		}
	}
	return x, tree.May(x)
}

// within tells whether s lies in the memory of whole.
func within(whole, s string) bool {
	from, at := uintptr(unsafe.Pointer(unsafe.StringData(whole))), uintptr(unsafe.Pointer(unsafe.StringData(s)))
	return whole != "" && s != "" && at >= from && at < from+uintptr(len(whole))
}

// owned is x in memory of its own, each Body too.
func owned(x api.Tree) api.Tree {
	x = slices.Clone(x)
	for i := range x {
		x[i].Body = strings.Clone(x[i].Body)
	}
	return x
}

// ownedRecs is l in memory of its own, each Load too.
func ownedRecs(l []api.Rec) []api.Rec {
	l = slices.Clone(l)
	for i := range l {
		l[i].Load = strings.Clone(l[i].Load)
	}
	return l
}

// wantApart: no Body of x and no Load of l lie in one memory.
func wantApart(t *testing.T, x api.Tree, l []api.Rec) {
	t.Helper()
	for i, n := range x {
		for _, r := range l {
			if within(n.Body, r.Load) || within(r.Load, n.Body) {
				t.Fatalf("record %d of node %d lies in the memory of the Body of node %d", r.Idx, r.Ino, i+1)
			}
		}
	}
}

// wantPut: x, which may be, has just the records that the words say, is as it was, and is taken from them.
func wantPut(t *testing.T, x api.Tree) {
	t.Helper()
	if !tree.May(x) {
		t.Fatalf("this may not be: %#v", x)
	}
	x = owned(x)
	before := owned(x)
	l := recs.Put(x)
	if is := said(x); !slices.Equal(l, is) {
		t.Fatalf("Put of %#v:\ngot  %#v\nwant %#v", x, l, is)
	}
	if !slices.Equal(x, before) {
		t.Fatalf("Put: what was handed in, %#v, is now %#v", before, x)
	}
	wantApart(t, x, l)
	wantTake(t, l, before)
}

// wantNone: x, which may not be, has no records.
func wantNone(t *testing.T, x api.Tree) {
	t.Helper()
	if tree.May(x) {
		t.Fatalf("this may be: %#v", x)
	}
	before := owned(x)
	if l := recs.Put(x); len(l) != 0 {
		t.Errorf("Put of %#v: got %#v", x, l)
	}
	if !slices.Equal(x, before) {
		t.Errorf("Put: what was handed in, %#v, is now %#v", before, x)
	}
}

// wantTake: just x is taken from l, which is as it was.
func wantTake(t *testing.T, l []api.Rec, x api.Tree) {
	t.Helper()
	l = ownedRecs(l)
	before := ownedRecs(l)
	got, ok := recs.Take(l)
	if !ok || !slices.Equal(got, x) {
		t.Fatalf("Take of %#v:\ngot  %#v, %v\nwant %#v", l, got, ok, x)
	}
	if !slices.Equal(l, before) {
		t.Fatalf("Take: what was handed in, %#v, is now %#v", before, l)
	}
	wantApart(t, got, l)
}

// wantNo: no tree is taken from l, which is as it was.
func wantNo(t *testing.T, l []api.Rec) {
	t.Helper()
	before := ownedRecs(l)
	if got, ok := recs.Take(l); ok || len(got) != 0 {
		t.Fatalf("Take of %#v: got %#v, %v", l, got, ok)
	}
	if !slices.Equal(l, before) {
		t.Fatalf("Take: what was handed in, %#v, is now %#v", before, l)
	}
}

// wantAsSaid: what is taken from l is what the words say; it tells whether something is.
func wantAsSaid(t *testing.T, l []api.Rec) bool {
	t.Helper()
	x, ok := saidTree(l)
	if !ok {
		wantNo(t, l)
		return false
	}
	wantTake(t, l, x)
	wantPut(t, x)
	return true
}

// P11.1, the example: of a new tree one record.
func TestNew(t *testing.T) {
	l := recs.Put(tree.New())
	if !slices.Equal(l, []api.Rec{rec(1, 0, "\x02\x07\x00")}) {
		t.Fatalf("%#v", l)
	}
	wantPut(t, tree.New())
}

// P11.1: the records of some trees, written out.
func TestPut(t *testing.T) {
	long := all(120)
	is := []api.Rec{
		rec(1, 0, "\x02\x07\x14"), rec(1, 1, "\x01a\x02\x01b\x03\x06sixsix\x03\x04~own\x04"),
		rec(2, 0, "\x02\x00\x2a"), rec(2, 1, "\x01c\x05\x01d\x05\x01e\x05\x01f\x05\x01g\x05\x01h\x05\x01i\x05\x01j\x05\x01k\x05\x01l\x05\x01m\x05\x01n\x05\x01o\x05\x01"), rec(2, 2, "p\x09"),
		rec(3, 0, "\x01\xff\x00"),
		rec(4, 0, "\x01\x01\x29"), rec(4, 1, long[:40]), rec(4, 2, long[40:41]),
		rec(5, 0, "\x01\x02\x78"), rec(5, 1, long[:40]), rec(5, 2, long[40:80]), rec(5, 3, long[80:]),
		rec(9, 0, "\x01\x03\x01"), rec(9, 1, "\x00"),
	}
	x := some()
	x[0].Body = "\x01a\x02\x01b\x03\x06sixsix\x03\x04~own\x04"
	if l := recs.Put(x); !slices.Equal(l, is) {
		t.Errorf("got  %#v\nwant %#v", l, is)
	}
	wantTake(t, is, x)
	for _, x := range shapes() {
		wantPut(t, x)
	}
	if l := recs.Put(fullest()); len(l) != mostRecs {
		t.Errorf("the fullest tree has %d records", len(l))
	}
}

// P11.1: each count of bytes that a file may have, at each number.
func TestLengths(t *testing.T) {
	for ino := 2; ino <= nodes; ino++ {
		for n := range mostBytes + 1 {
			x := with(of(folder(7, "a"+string([]byte{byte('0' + ino)}))), ino, file(n, all(n)))
			wantPut(t, x)
			l := recs.Put(x)
			if len(l) != 3+(n+39)/40 || len(l[2].Load) != 3 || int(l[2].Load[2]) != n {
				t.Fatalf("%d bytes: %#v", n, l)
			}
			for idx, r := range l[3:] {
				if r.Ino != ino || r.Idx != idx+1 || idx < len(l)-4 && len(r.Load) != chunk {
					t.Fatalf("%d bytes: %#v", n, l)
				}
			}
		}
	}
}

// P11.1: bytes of any value, and noughts, in a chunk and at its edges.
func TestBytes(t *testing.T) {
	for b := range 256 {
		s := string([]byte{byte(b)})
		for _, n := range []int{1, 39, 40, 41, 80, 120} {
			wantPut(t, of(folder(7, "a2"), file(b, strings.Repeat(s, n))))
			wantPut(t, of(folder(7, "a2"), file(b, all(n-1)+s)))
		}
	}
}

// P11.1: each Mode of each kind of node.
func TestModes(t *testing.T) {
	for mode := range 256 {
		x := of(folder(mode, "a2", "b3"), file(255-mode, "x"), folder(mode/2))
		wantPut(t, x)
		l := recs.Put(x)
		if l[0].Load != "\x02"+string([]byte{byte(mode)})+"\x06" || l[2].Load != "\x01"+string([]byte{byte(255 - mode)})+"\x01" {
			t.Errorf("Mode %d: %#v", mode, l)
		}
	}
}

// P11.1: folders of each count of names for which there is room, cut within names too.
func TestFolders(t *testing.T) {
	for n := range 41 {
		x := of(folder(7, "a2", "b3"), file(1, ""), folder(2))
		x[2].Body = names(n, 2)
		wantPut(t, x)
		if n > 0 {
			wantPut(t, of(api.Node{Kind: 2, Mode: n, Body: names(n, 2)}, file(1, all(n))))
		}
	}
	for size := 1; size <= 6; size++ {
		var l []string
		for c := '0'; len(l)*(size+2)+size+2 <= mostBytes; c++ {
			l = append(l, strings.Repeat(string([]byte{byte(c)}), size)+"9")
		}
		wantPut(t, with(of(folder(7, l...)), 9, file(1, "x")))
	}
}

// P11.1: each choice of nodes that are not there has no records of them.
func TestGaps(t *testing.T) {
	for there := range 1 << (nodes - 1) {
		x := of(folder(7))
		var l []string
		for ino := 2; ino <= nodes; ino++ {
			if there&(1<<(ino-2)) == 0 {
				continue
			}
			l = append(l, "n"+string([]byte{byte('0' + ino), byte('0' + ino)}))
			x[ino-1] = file(ino, all(ino*13))
			if ino%3 == 0 {
				x[ino-1] = folder(ino)
			}
		}
		x[0] = folder(7, l...)
		wantPut(t, x)
		for _, r := range recs.Put(x) {
			if x[r.Ino-1].Kind == 0 {
				t.Fatalf("%#v: node %d is not there", x, r.Ino)
			}
		}
	}
}

// odd is trees that may not be.
func odd() []api.Tree {
	return []api.Tree{
		nil, {}, some()[:3], some()[:8], append(some(), api.Node{}), append(some(), some()...), make(api.Tree, nodes), make(api.Tree, 1<<16),
		with(some(), 8, file(1, "lost")), with(some(), 8, folder(1)), with(some(), 8, api.Node{Mode: 1}), with(some(), 8, api.Node{Body: "x"}), with(some(), 8, api.Node{Kind: 3}),
		with(some(), 3, file(-1, "")), with(some(), 3, file(256, "")), with(some(), 3, file(math.MaxInt, "")), with(some(), 3, file(1, all(121))), with(some(), 3, api.Node{}),
		with(some(), 3, api.Node{Kind: math.MinInt}), with(some(), 3, api.Node{Kind: 257}), with(some(), 3, api.Node{Kind: 258}), with(some(), 3, file(1, strings.Repeat("x", 1<<16))),
		of(folder(256)), of(folder(-1)), of(file(7, "")), of(folder(7, "a1")), of(folder(7, "a9")), of(folder(7, "a2"), folder(1, "a2")), of(folder(7, "a2", "b2"), folder(1)),
		of(api.Node{Kind: 2, Body: "\x01"}), of(api.Node{Kind: 2, Body: "\x01a\x00"}, file(1, "")), of(folder(7, "b2", "a2"), file(1, "")), {{Kind: 2}}, {{Kind: 2, Body: "\x01a\x02"}},
	}
}

// P11.1: a tree that may not be has none, nor is it taken from what its records would be.
func TestOdd(t *testing.T) {
	for _, x := range odd() {
		wantNone(t, x)
		// Of some no record tells what is wrong: too many nodes, the last ones not there; a Mode of two bytes.
		wantAsSaid(t, said(x))
	}
}

// P11.1: no list, and lists of what no tree has.
func TestNone(t *testing.T) {
	head := rec(1, 0, "\x02\x07\x00")
	for _, l := range [][]api.Rec{
		nil, {}, {rec(0, 0, "")}, {head, head}, {rec(0, 0, head.Load)}, {rec(2, 0, head.Load)}, {rec(-1, 0, head.Load)}, {rec(10, 0, head.Load)}, {rec(257, 0, head.Load)}, {rec(1, 1, head.Load)},
		{rec(1, -1, head.Load)}, {rec(1, 256, head.Load)}, {rec(1, 0, "")}, {rec(1, 0, "\x02")}, {rec(1, 0, "\x02\x07")}, {rec(1, 0, "\x02\x07\x00\x00")},
		{rec(1, 0, "\x00\x00\x00")}, {rec(1, 0, "\x01\x07\x00")}, {rec(1, 0, "\x03\x07\x00")}, {rec(1, 0, "\x02\x07\x01")}, {head, rec(2, 0, "\x00\x00\x00")}, {rec(5, 0, "\x00\x00\x00"), head},
		{head, rec(1, 1, "")}, {head, rec(1, 1, "x")}, {head, rec(2, 0, "\x01\x00\x00")}, {head, rec(math.MaxInt, 0, "")}, {head, rec(math.MinInt, 0, "")}, {head, rec(math.MaxInt, math.MinInt, "\xff\xff\xff")},
		// Names that lead to nothing, to the root, from a folder to itself; a folder of two names.
		{rec(1, 0, "\x02\x07\x03"), rec(1, 1, "\x01a\x02")}, {rec(1, 0, "\x02\x07\x03"), rec(1, 1, "\x01a\x01")},
		{rec(1, 0, "\x02\x07\x00"), rec(2, 0, "\x02\x07\x03"), rec(2, 1, "\x01a\x02")},
		{rec(1, 0, "\x02\x07\x06"), rec(1, 1, "\x01a\x02\x01b\x02"), rec(2, 0, "\x02\x07\x00")},
		// What is not there, with a Body, a Mode.
		{head, rec(2, 0, "\x00\x00\x01"), rec(2, 1, "x")}, {head, rec(2, 0, "\x00\x01\x00")},
	} {
		if _, ok := saidTree(l); ok {
			t.Fatalf("this is a tree: %#v", l)
		}
		wantNo(t, l)
	}
}

// P11.1: the chunks of a Body cut otherwise are those of none.
func TestChunks(t *testing.T) {
	in := []api.Rec{rec(1, 0, "\x02\x07\x03"), rec(1, 1, "\x01a\x02")}
	for n := range 122 {
		text := all(n)
		head := rec(2, 0, "\x01\x00"+string([]byte{byte(n)}))
		for first := range n + 1 {
			for _, second := range []int{0, 1, 39, 40, 41, 80} {
				l := append(slices.Clone(in), head)
				rest, idx := text, 1
				for _, size := range []int{first, second, 40, 80} {
					size = min(size, len(rest))
					l = append(l, rec(2, idx, rest[:size]))
					rest = rest[size:]
					idx++
					// Ended wherever nothing is left, and with chunks of nothing behind.
					if rest == "" {
						wantAsSaid(t, l)
					}
				}
			}
		}
	}
}

// P11.1: of the records of a tree one left out, twice there, at another place, one that changed places with another, one cut in two.
func TestOrder(t *testing.T) {
	for _, x := range shapes() {
		l := recs.Put(x)
		for i, r := range l {
			without := slices.Delete(slices.Clone(l), i, i+1)
			wantAsSaid(t, without)
			for at := range len(l) + 1 {
				wantAsSaid(t, slices.Insert(slices.Clone(l), at, r))
			}
			for at := range l {
				wantAsSaid(t, slices.Insert(slices.Clone(without), at, r))
				swapped := slices.Clone(l)
				swapped[i], swapped[at] = swapped[at], swapped[i]
				wantAsSaid(t, swapped)
			}
			for at := range len(r.Load) + 1 {
				two := slices.Clone(l)
				two[i].Load = r.Load[:at]
				wantAsSaid(t, slices.Insert(two, i+1, rec(r.Ino, r.Idx+1, r.Load[at:])))
			}
			wantAsSaid(t, l[:i])
			wantAsSaid(t, l[i:])
		}
		wantNo(t, append(slices.Clone(l), l...))
	}
}

// numbers is such as a node or a part may have, and such as none has.
func numbers() []int {
	return []int{math.MinInt, math.MinInt32, -256, -1, 0, 1, 2, 3, 4, 5, 6, 7, 8, 9, 10, 255, 256, 257, 258, 265, 1 << 16, 1<<32 + 1, 1<<32 + 2, math.MaxInt}
}

// otherBytes is such as make a difference where r has that byte: more, where it tells what a node is.
func otherBytes(r api.Rec, at int) []byte {
	l := []byte{0, r.Load[at] - 1, r.Load[at] + 1}
	if r.Idx == 0 {
		l = append(l, 1, 2, 3, 9, 10, 39, 40, 41, 79, 80, 81, 119, 120, 121, 160, 255)
	}
	return l
}

// turned calls f with l, in which one record is r instead.
func turned(l []api.Rec, at int, r api.Rec, f func(l []api.Rec)) {
	l = slices.Clone(l)
	l[at] = r
	f(l)
}

// P11.1: of the records of a tree one with another number, other bytes, more, less.
func TestTurned(t *testing.T) {
	taken := 0
	for _, x := range shapes() {
		l := recs.Put(x)
		try := func(l []api.Rec) {
			if wantAsSaid(t, l) {
				taken++
			}
		}
		for i, r := range l {
			for _, n := range numbers() {
				turned(l, i, rec(n, r.Idx, r.Load), try)
				turned(l, i, rec(r.Ino, n, r.Load), try)
				turned(l, i, rec(n, n, r.Load), try)
			}
			for at := range r.Load {
				for _, c := range otherBytes(r, at) {
					b := []byte(r.Load)
					b[at] = c
					turned(l, i, rec(r.Ino, r.Idx, string(b)), try)
				}
				turned(l, i, rec(r.Ino, r.Idx, r.Load[:at]), try)
				turned(l, i, rec(r.Ino, r.Idx, r.Load[at:]), try)
			}
			for _, more := range []string{"\x00", "x", r.Load, all(chunk), strings.Repeat("x", 256)} {
				turned(l, i, rec(r.Ino, r.Idx, r.Load+more), try)
				turned(l, i, rec(r.Ino, r.Idx, more+r.Load), try)
			}
		}
	}
	// Files that have other bytes, and nodes in another Mode, are trees.
	if taken < 1000 {
		t.Errorf("only %d trees are taken", taken)
	}
}

// P11.1: each first record of a node that there is.
func TestHeads(t *testing.T) {
	long := all(120)
	for kind := range 256 {
		for size := range 256 {
			for _, mode := range []int{0, 255} {
				head := string([]byte{byte(kind), byte(mode), byte(size)})
				wantAsSaid(t, []api.Rec{rec(1, 0, head)})
				wantAsSaid(t, []api.Rec{rec(1, 0, head), rec(1, 1, "\x01a\x02"), rec(2, 0, "\x01\x00\x00")})
				wantAsSaid(t, []api.Rec{rec(1, 0, "\x02\x07\x03"), rec(1, 1, "\x01a\x02"), rec(2, 0, head), rec(2, 1, long[:40]), rec(2, 2, long[40:80]), rec(2, 3, long[80:])})
			}
		}
	}
}

// P11.1: all short lists of records that make a difference.
func TestShortLists(t *testing.T) {
	parts := []api.Rec{
		rec(1, 0, "\x02\x07\x00"), rec(1, 0, "\x02\x07\x03"), rec(1, 1, "\x01a\x02"), rec(1, 1, ""), rec(1, 2, "x"), rec(2, 0, "\x01\x00\x00"), rec(2, 0, "\x01\x00\x01"),
		rec(2, 0, "\x02\x00\x03"), rec(2, 1, "x"), rec(2, 1, "\x01b\x03"), rec(3, 0, "\x01\x00\x00"), rec(3, 0, "\x00\x00\x00"), rec(0, 0, "\x01\x00\x00"),
	}
	taken := 0
	var from func(l []api.Rec)
	from = func(l []api.Rec) {
		if len(l) > 0 && wantAsSaid(t, l) {
			taken++
		}
		if len(l) < 5 {
			for _, r := range parts {
				from(append(l[:len(l):len(l)], r))
			}
		}
	}
	from(nil)
	// A new one; /a of no bytes, and of one; /a/b in a folder.
	if taken != 4 {
		t.Errorf("%d trees are taken", taken)
	}
}

// chance tells numbers that follow no plain order, the same ones for the same seed.
func chance(seed int) func(below int) int {
	x := uint64(seed)*0x9E3779B97F4A7C15 + 1
	return func(below int) int {
		x ^= x << 13
		x ^= x >> 7
		x ^= x << 17
		return int(x>>33) % below
	}
}

// anyWay is a way in x, or near it.
func anyWay(x api.Tree, next func(int) int) string {
	ways := tree.Ways(x, 1+next(nodes))
	if len(ways) == 0 {
		ways = []string{"/"}
	}
	way := ways[next(len(ways))]
	if next(3) == 0 {
		return strings.TrimSuffix(way, "/") + "/" + []string{"a", "b", "~1", "sixsix"}[next(4)]
	}
	return way
}

// grown is x with something else in it, if that could be.
func grown(x api.Tree, next func(int) int) api.Tree {
	way := anyWay(x, next)
	switch next(7) {
	case 0, 1:
		x, _ = edit.Make(x, way, 1+next(2), next(256), next(3)*next(5), true)
	case 2:
		x, _ = edit.Link(x, way, anyWay(x, next), true)
	case 3:
		x, _ = edit.Move(x, way, anyWay(x, next), true)
	case 4:
		x, _ = body.Write(x, way, next(100), all(next(60)), true)
	case 5:
		x, _ = body.Cut(x, way, next(mostBytes+1), true)
	default:
		x, _ = edit.Drop(x, way, true)
	}
	return x
}

// P11.1, What follows: whatever a tree has come to, what is put is taken; two trees have the same records only if they are alike.
func TestLongRuns(t *testing.T) {
	counts := map[int]int{}
	for seed := range 60 {
		next := chance(seed + 1)
		x := tree.New()
		for range 100 {
			y := grown(x, next)
			wantPut(t, y)
			if slices.Equal(recs.Put(x), recs.Put(y)) != tree.Same(x, y) {
				t.Fatalf("the records of %#v and of %#v", x, y)
			}
			x = y
			counts[len(recs.Put(x))]++
		}
	}
	if len(counts) < 12 {
		t.Errorf("only so many records: %v", counts)
	}
}

// P11.1: records of several trees, mixed in any way.
func TestMixed(t *testing.T) {
	var pool []api.Rec
	for _, x := range shapes() {
		pool = append(pool, recs.Put(x)...)
	}
	next := chance(7)
	for range 20000 {
		l := recs.Put(shapes()[next(len(shapes()))])
		for range 1 + next(3) {
			at := next(len(l))
			switch next(4) {
			case 0:
				l[at] = pool[next(len(pool))]
			case 1:
				l = slices.Insert(l, at, pool[next(len(pool))])
			case 2:
				l[at].Idx += next(3) - 1
			default:
				if len(l) > 1 {
					l = slices.Delete(l, at, at+1)
				}
			}
		}
		wantAsSaid(t, l)
	}
}

// R1: lists and texts far longer than any tree has.
func TestFar(t *testing.T) {
	long := strings.Repeat("x", 1<<24)
	// One memory for all of them: the list itself is short of nothing.
	same := func(n int, r api.Rec) []api.Rec { return slices.Repeat([]api.Rec{r}, n) }
	for _, l := range [][]api.Rec{
		same(1<<18, rec(1, 0, "\x02\x07\x00")), same(1<<18, rec(1, 1, long)), same(1<<18, rec(9, 1, "")), same(1<<18, rec(0, 0, "")), same(mostRecs, rec(1, 1, long)),
		same(mostRecs+1, rec(1, 0, "\x02\x07\x00")), append(recs.Put(fullest()), rec(9, 4, "x")), append(recs.Put(fullest()), rec(9, 4, "")),
		append(recs.Put(tree.New()), same(1<<18, rec(1, 1, ""))...), append(recs.Put(tree.New()), rec(2, 0, "\x01\x00\x00"), rec(2, 1, long)),
	} {
		if got, ok := recs.Take(l); ok || len(got) != 0 {
			t.Errorf("%d records: %#v, %v", len(l), got, ok)
		}
	}
	if l := recs.Put(of(folder(7, "a2"), file(1, long))); len(l) != 0 {
		t.Errorf("%d records", len(l))
	}
	if l := recs.Put(of(api.Node{Kind: 2, Body: strings.Repeat("\x01a\x02", 1<<18)}, file(1, ""))); len(l) != 0 {
		t.Errorf("%d records", len(l))
	}
}

// R3: what lies behind what is handed in is not touched, and what is told has no room that another has.
func TestRoomBehind(t *testing.T) {
	whole := append(some(), chain()...)
	before := owned(whole)
	first, second := recs.Put(whole[:nodes]), recs.Put(whole[:nodes])
	wantApartRecs(t, first, second)
	is := ownedRecs(second)
	first = first[:cap(first)]
	for i := range first {
		first[i] = rec(-1, -1, "turned")
	}
	if !slices.Equal(whole, before) || !slices.Equal(second, is) {
		t.Errorf("what was handed in is %#v, what was told %#v", whole, second)
	}
	l := append(recs.Put(some()), recs.Put(chain())...)
	was := ownedRecs(l)
	n := len(recs.Put(some()))
	x, _ := recs.Take(l[:n])
	y, _ := recs.Take(l[:n])
	x = x[:cap(x)]
	for i := range x {
		x[i] = file(-1, "turned")
	}
	if !slices.Equal(l, was) || !slices.Equal(y, some()) {
		t.Errorf("what was handed in is %#v, what was told %#v", l, y)
	}
}

// wantApartRecs: no two Loads lie in one memory.
func wantApartRecs(t *testing.T, lists ...[]api.Rec) {
	t.Helper()
	l := slices.Concat(lists...)
	for i, r := range l {
		for _, s := range l[:i] {
			if within(r.Load, s.Load) || within(s.Load, r.Load) {
				t.Fatalf("%#v and %#v lie in one memory", r, s)
			}
		}
	}
}

// R4: the same call tells the same, from several at once, whatever was done between.
func TestSameEachTime(t *testing.T) {
	trees := shapes()
	var lists [][]api.Rec
	for _, x := range trees {
		lists = append(lists, recs.Put(x))
	}
	done := make(chan bool)
	for i := range 8 {
		go func() {
			ok := true
			for n := range 10 * len(trees) {
				at := (n + i) % len(trees)
				recs.Put(odd()[n%len(odd())])
				recs.Take(lists[at][1:])
				x, taken := recs.Take(lists[at])
				ok = ok && taken && slices.Equal(x, trees[at]) && slices.Equal(recs.Put(trees[at]), lists[at])
			}
			done <- ok
		}()
	}
	for range 8 {
		if !<-done {
			t.Error("asked by several, it tells something else")
		}
	}
}
