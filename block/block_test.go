package block_test

import (
	"math"
	"strings"
	"testing"

	"glacis/api"
	"glacis/block"
)

// The numbers of the chapter, written out: a test that took them from the program would turn with it.
const (
	size    = 64
	longest = 55
	last    = 1 << 30
)

// Kinds, numbers of writings and lengths on both sides of each edge, and such as are good again once they are cut to their lowest bytes.
var (
	goodKinds = []int{1, 2, 3, 4, 5}
	oddKinds  = []int{0, 6, -1, 7, 8, 255, 256, 257, 261, 1<<32 + 1, -255, -251, math.MaxInt, math.MinInt}
	goodGens  = []int{0, 1, 255, 256, 258, 65535, 65536, 1<<24 - 1, 1 << 24, 0x01020304, last - 1, last}
	oddGens   = []int{-1, last + 1, -2, -last, 2 * last, 1<<31 - 1, 1 << 31, 1<<32 - 1, 1 << 32, 1<<32 + 7, math.MaxInt, math.MinInt}
	oddLongs  = []int{56, 57, 58, 59, 63, 64, 65, 127, 128, 255, 256, 257, 256 + 55, 512, 65536, 65537}
)

// mixed is n bytes that follow no plain order, the same ones for the same n.
func mixed(n int) string {
	text := make([]byte, n)
	x := uint32(n) + 1
	for i := range text {
		x = x*1664525 + 1013904223
		text[i] = byte(x >> 24)
	}
	return string(text)
}

// loads is some loads of n bytes: letters, noughts, all ones, no plain order, and one that ends in a nought.
func loads(n int) []string {
	l := []string{strings.Repeat("x", n), strings.Repeat("\x00", n), strings.Repeat("\xff", n), mixed(n)}
	if n > 0 {
		l = append(l, mixed(n)[:n-1]+"\x00")
	}
	return l
}

// goods is blocks that may be: each kind, each number, each length.
func goods() []api.Block {
	var l []api.Block
	for _, kind := range goodKinds {
		for _, gen := range goodGens {
			for n := range longest + 1 {
				for _, s := range loads(n) {
					l = append(l, api.Block{Kind: kind, Gen: gen, Load: s})
				}
			}
		}
	}
	return l
}

// odds is blocks that may not be: one thing is wrong, or several.
func odds() []api.Block {
	var l []api.Block
	for _, kind := range append(goodKinds, oddKinds...) {
		for _, gen := range append(goodGens, oddGens...) {
			for _, n := range append([]int{0, 1, longest}, oddLongs...) {
				if !contains(goodKinds, kind) || !contains(goodGens, gen) || n > longest {
					l = append(l, api.Block{Kind: kind, Gen: gen, Load: mixed(n)})
				}
			}
		}
	}
	return l
}

func contains(l []int, x int) bool {
	for _, y := range l {
		if x == y {
			return true
		}
	}
	return false
}

// laid is the bytes of a block that may be, each set at its place.
func laid(x api.Block) string {
	var b [size]byte
	b[0] = byte(x.Kind)
	b[1] = byte(x.Gen % 256)
	b[2] = byte(x.Gen / 256 % 256)
	b[3] = byte(x.Gen / 65536 % 256)
	b[4] = byte(x.Gen / 16777216)
	b[5] = byte(len(x.Load))
	for i := range len(x.Load) {
		b[6+i] = x.Load[i]
	}
	return string(b[:])
}

// read is what the words say of s, place by place: Kind, Gen, the length, and noughts behind the load.
func read(s string) (api.Block, bool) {
	if len(s) != size || s[0] < 1 || s[0] > 5 || s[5] > longest {
		return api.Block{}, false
	}
	gen := int(s[1]) + 256*int(s[2]) + 65536*int(s[3]) + 16777216*int(s[4])
	end := 6 + int(s[5])
	if gen > last || strings.Trim(s[end:], "\x00") != "" {
		return api.Block{}, false
	}
	return api.Block{Kind: int(s[0]), Gen: gen, Load: s[6:end]}, true
}

func wantTaken(t *testing.T, s string, x api.Block) {
	t.Helper()
	if got, ok := block.Take(s); got != x || !ok {
		t.Errorf("Take of % x: got %+v %v, want %+v", s, got, ok, x)
	}
}

func wantNot(t *testing.T, s string) {
	t.Helper()
	if got, ok := block.Take(s); got != (api.Block{}) || ok {
		t.Errorf("Take of % x: got %+v %v, want no", s, got, ok)
	}
}

// wantAsRead: s is told as the block whose Put is just s, or no.
func wantAsRead(t *testing.T, s string) {
	t.Helper()
	x, ok := read(s)
	if !ok {
		wantNot(t, s)
		return
	}
	wantTaken(t, s, x)
	if got := block.Put(x); got != s {
		t.Errorf("Put of %+v, which was taken of % x: got % x", x, s, got)
	}
}

// P4.1, May: each thing alone, on both sides of its edges.
func TestMayEdges(t *testing.T) {
	for kind := -300; kind <= 300; kind++ {
		if got := block.May(api.Block{Kind: kind, Gen: 7, Load: "load"}); got != (kind >= 1 && kind <= 5) {
			t.Errorf("Kind %d: %v", kind, got)
		}
	}
	for _, kind := range []int{api.BRec, api.BIndex, api.BRoot, api.BSum, api.BSlot} {
		if !block.May(api.Block{Kind: kind}) {
			t.Errorf("Kind %d may be", kind)
		}
	}
	for _, gen := range goodGens {
		if !block.May(api.Block{Kind: 1, Gen: gen}) {
			t.Errorf("Gen %d may be", gen)
		}
	}
	for _, gen := range oddGens {
		if block.May(api.Block{Kind: 1, Gen: gen}) {
			t.Errorf("Gen %d may not be", gen)
		}
	}
	for n := range 600 {
		if got := block.May(api.Block{Kind: 1, Load: strings.Repeat("x", n)}); got != (n <= longest) {
			t.Errorf("a load of %d bytes: %v", n, got)
		}
	}
}

// P4.1, May: the load counts by bytes, not by letters.
func TestMayCountsBytes(t *testing.T) {
	if !block.May(api.Block{Kind: 1, Load: strings.Repeat("é", 27) + "x"}) {
		t.Error("28 letters of 55 bytes may be")
	}
	if block.May(api.Block{Kind: 1, Load: strings.Repeat("é", 28)}) {
		t.Error("28 letters of 56 bytes may not be")
	}
	if block.May(api.Block{Kind: 1, Load: strings.Repeat("\x00", 56)}) {
		t.Error("56 noughts may not be")
	}
}

// P4.1, May: whatever else the block is.
func TestMayAll(t *testing.T) {
	for _, x := range goods() {
		if !block.May(x) {
			t.Errorf("%+v may be", x)
		}
	}
	for _, x := range odds() {
		if block.May(x) {
			t.Errorf("Kind %d, Gen %d, a load of %d bytes may not be", x.Kind, x.Gen, len(x.Load))
		}
	}
	if block.May(api.Block{}) {
		t.Error("the zero block may not be")
	}
}

// P4.1, Put: blocks whose bytes are written out.
func TestPutKnown(t *testing.T) {
	full := strings.Repeat("0123456789a", 5)
	for _, c := range []struct {
		x    api.Block
		text string
	}{
		{api.Block{Kind: api.BRec, Gen: 258, Load: "ab"}, "\x01\x02\x01\x00\x00\x02ab"},
		{api.Block{Kind: api.BIndex}, "\x02\x00\x00\x00\x00\x00"},
		{api.Block{Kind: api.BRoot, Gen: 0x01020304, Load: "\x00"}, "\x03\x04\x03\x02\x01\x01\x00"},
		{api.Block{Kind: api.BSum, Gen: 1 << 30, Load: full}, "\x04\x00\x00\x00\x40\x37" + full},
		{api.Block{Kind: api.BSlot, Gen: 1<<30 - 1, Load: "\xff\x00\xff"}, "\x05\xff\xff\xff\x3f\x03\xff\x00\xff"},
		{api.Block{Kind: api.BSlot, Gen: 1, Load: "é"}, "\x05\x01\x00\x00\x00\x02\xc3\xa9"},
	} {
		s := c.text + strings.Repeat("\x00", size-len(c.text))
		if got := block.Put(c.x); got != s {
			t.Errorf("Put of %+v: got % x, want % x", c.x, got, s)
		}
		wantTaken(t, s, c.x)
	}
}

// P4.1, Put: each byte of every block that may be; what is put is taken; no two blocks are put alike.
func TestPutAndTaken(t *testing.T) {
	seen := map[string]api.Block{}
	for _, x := range goods() {
		s := block.Put(x)
		if s != laid(x) {
			t.Fatalf("Put of %+v: got % x, want % x", x, s, laid(x))
		}
		if len(s) != size {
			t.Fatalf("Put of %+v has %d bytes", x, len(s))
		}
		wantTaken(t, s, x)
		if y, ok := seen[s]; ok && y != x {
			t.Errorf("%+v and %+v are put alike", x, y)
		}
		seen[s] = x
	}
}

// P4.1, Put: of what may not be there is nothing.
func TestPutNot(t *testing.T) {
	for _, x := range append(odds(), api.Block{}, api.Block{Load: mixed(1 << 20)}, api.Block{Kind: 1, Load: mixed(1 << 20)}) {
		if got := block.Put(x); got != "" {
			t.Errorf("Put of Kind %d, Gen %d, a load of %d bytes: got % x, want nothing", x.Kind, x.Gen, len(x.Load), got)
		}
	}
}

// P4.1, Take: texts that are not as long as a block, whatever they begin with.
func TestTakeLengths(t *testing.T) {
	for _, x := range []api.Block{{Kind: 1}, {Kind: 3, Gen: 7, Load: "load"}, {Kind: 5, Gen: last, Load: mixed(longest)}} {
		s := laid(x)
		for n := range size {
			wantNot(t, s[:n])
			wantNot(t, s[size-n:])
		}
		wantTaken(t, s, x)
		for _, tail := range []string{"\x00", "x", "\x00\x00", s, strings.Repeat("\x00", 1000), mixed(1 << 20)} {
			wantNot(t, s+tail)
			wantNot(t, tail+s)
		}
	}
	wantNot(t, "")
}

// P4.1, Take: texts of one byte alone, of each length; of noughts there is no block.
func TestTakeOneByte(t *testing.T) {
	wantNot(t, strings.Repeat("\x00", 64))
	for b := range 256 {
		for n := range 3 * size {
			wantAsRead(t, strings.Repeat(string([]byte{byte(b)}), n))
		}
	}
}

// turnable is blocks of which each byte is turned: loads of each length near the edges, some with noughts in them.
func turnable() []api.Block {
	l := []api.Block{{Kind: 3, Gen: 7, Load: "load"}, {Kind: 1, Gen: last - 1, Load: "\x00\x00"}, {Kind: 5, Gen: 0x01020304, Load: mixed(30)}}
	for _, n := range []int{0, 1, 2, 53, 54, 55} {
		l = append(l, api.Block{Kind: 2, Load: strings.Repeat("\x00", n)}, api.Block{Kind: 4, Gen: last, Load: mixed(n)})
	}
	return l
}

// P4.1, Take: each byte turned to each other one: in Kind, in Gen, in the length, in the load and behind it.
func TestTurned(t *testing.T) {
	for _, x := range turnable() {
		s := laid(x)
		for at := range size {
			for b := range 256 {
				wantAsRead(t, s[:at]+string([]byte{byte(b)})+s[at+1:])
			}
		}
	}
}

// P4.1, Take: two bytes turned, the length and any other one: what stood behind the load may be its end, and the other way round.
func TestTurnedTwice(t *testing.T) {
	for _, x := range turnable() {
		s := laid(x)
		for long := range 256 {
			for at := 6; at < size; at++ {
				wantAsRead(t, s[:5]+string([]byte{byte(long)})+s[6:at]+"y"+s[at+1:])
			}
		}
	}
}

// P4.1, Take: what is turned, written out, so that no rule of these tests stands between.
func TestTurnedKnown(t *testing.T) {
	s := "\x03\x07\x00\x00\x00\x04load" + strings.Repeat("\x00", 54)
	x := api.Block{Kind: api.BRoot, Gen: 7, Load: "load"}
	wantTaken(t, s, x)
	wantTaken(t, "\x05"+s[1:], api.Block{Kind: api.BSlot, Gen: 7, Load: "load"})
	wantNot(t, "\x00"+s[1:])
	wantNot(t, "\x06"+s[1:])
	wantTaken(t, s[:1]+"\xff"+s[2:], api.Block{Kind: api.BRoot, Gen: 255, Load: "load"})
	wantTaken(t, s[:1]+"\x00\x00\x00\x40"+s[5:], api.Block{Kind: api.BRoot, Gen: 1 << 30, Load: "load"})
	wantNot(t, s[:4]+"\x40"+s[5:])
	wantNot(t, s[:4]+"\x80"+s[5:])
	wantNot(t, s[:5]+"\x03"+s[6:])
	wantTaken(t, s[:5]+"\x05"+s[6:], api.Block{Kind: api.BRoot, Gen: 7, Load: "load\x00"})
	wantTaken(t, s[:5]+"\x37"+s[6:], api.Block{Kind: api.BRoot, Gen: 7, Load: "load" + strings.Repeat("\x00", 51)})
	for _, long := range []string{"\x38", "\x39", "\x3a", "\x3b", "\xff"} {
		wantNot(t, s[:5]+long+s[6:])
	}
	wantTaken(t, s[:6]+"L"+s[7:], api.Block{Kind: api.BRoot, Gen: 7, Load: "Load"})
	for at := 10; at < size; at++ {
		wantNot(t, s[:at]+"\x01"+s[at+1:])
	}
}

// P4.1, Take: texts as long as a block that nobody put.
func TestTakeAny(t *testing.T) {
	for n := range 3000 {
		s := mixed(size + n)[n:]
		wantAsRead(t, s)
		for kind := range 7 {
			long := n % 60
			wantAsRead(t, string([]byte{byte(kind)})+s[1:4]+string([]byte{byte(n % 66), byte(long)})+s[6:6+long/2]+strings.Repeat("\x00", size-6-long/2))
		}
	}
}

// R3, R4: the same call tells the same, from several at once, whatever was asked between.
func TestSameEachTime(t *testing.T) {
	x := api.Block{Kind: api.BSum, Gen: 99, Load: mixed(40)}
	done := make(chan bool)
	for i := range 8 {
		go func() {
			block.Put(api.Block{Kind: 1, Gen: i, Load: mixed(i)})
			block.Take(mixed(size + i)[i:])
			s := block.Put(x)
			y, ok := block.Take(s)
			done <- s == laid(x) && y == x && ok && block.May(x)
		}()
	}
	for range 8 {
		if !<-done {
			t.Error("asked by several, it tells something else")
		}
	}
}
