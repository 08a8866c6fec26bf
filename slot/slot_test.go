package slot_test

import (
	"math"
	"slices"
	"strings"
	"testing"

	"glacis/api"
	"glacis/block"
	"glacis/slot"
)

// The numbers of the chapter, written out: a test that took them from the program would turn with it.
const (
	size    = 64
	long    = 16
	last    = 1 << 30
	segment = 64
)

// Numbers on both sides of each edge, and such as are good again once they are cut to their lowest bytes.
var (
	goodNums = []int{0, 1, 64, 65, 255, 256, 258, 65535, 65536, 1<<24 - 1, 1 << 24, 0x01020304, last - 1, last}
	oddNums  = []int{-1, last + 1, -2, -64, -last, last + 64, 2 * last, 1<<31 - 1, 1 << 31, 1<<32 - 1, 1 << 32, 1<<32 + 7, 1<<32 - last, math.MaxInt, math.MinInt}
	goodNs   = goodNums[1:]
	oddNs    = append([]int{0}, oddNums...)
	goodPos  = []int{0, 1, 2, 31, 32, 62, 63, 64}
	oddPos   = append([]int{65, 66, 127, 128, 255, 256, 320, 65536, last - 1, last}, oddNums...)
)

// fields is each number of a slot by itself, with those that are good there and those that are not.
func fields() []field {
	return []field{
		{"N", func(x *api.Slot) *int { return &x.N }, goodNs, oddNs},
		{"Seq", func(x *api.Slot) *int { return &x.Seq }, goodNums, oddNums},
		{"Sum", func(x *api.Slot) *int { return &x.Sum }, goodNums, oddNums},
		{"Seg", func(x *api.Slot) *int { return &x.Seg }, goodNums, oddNums},
		{"Pos", func(x *api.Slot) *int { return &x.Pos }, goodPos, oddPos},
	}
}

type field struct {
	name      string
	of        func(*api.Slot) *int
	good, odd []int
}

// with is x with another number in that field.
func (f field) with(x api.Slot, n int) api.Slot {
	*f.of(&x) = n
	return x
}

// goods is slots that may be: each good number of two fields at a time beside plain, lowest and highest others.
func goods() []api.Slot {
	bases := []api.Slot{{N: 1}, {N: 3, Seq: 258, Sum: 5, Seg: 1, Pos: 64}, {N: last, Seq: last, Sum: last, Seg: last, Pos: 64}}
	l := slices.Clone(bases)
	for _, x := range bases {
		for _, f := range fields() {
			for _, g := range fields() {
				for _, n := range f.good {
					for _, m := range g.good {
						l = append(l, g.with(f.with(x, n), m))
					}
				}
			}
		}
	}
	return l
}

// odds is slots that may not be: one number is wrong, or several.
func odds() []api.Slot {
	l := []api.Slot{{}, {Seq: 1, Sum: 1, Seg: 1, Pos: 1}}
	for _, x := range []api.Slot{{N: 1}, {N: 3, Seq: 258, Sum: 5, Seg: 1, Pos: 64}, {N: last, Seq: last, Sum: last, Seg: last, Pos: 64}} {
		for _, f := range fields() {
			for _, n := range f.odd {
				y := f.with(x, n)
				l = append(l, y)
				for _, g := range fields() {
					if f.name == g.name {
						continue
					}
					for _, m := range append(slices.Clone(g.good), g.odd...) {
						l = append(l, g.with(y, m))
					}
				}
			}
		}
	}
	return l
}

// four is x in four bytes, the lowest first.
func four(x int) string {
	return string([]byte{byte(x % 256), byte(x / 256 % 256), byte(x / 65536 % 256), byte(x / 16777216 % 256)})
}

// laid is the bytes of a slot, piece by piece.
func laid(x api.Slot) string {
	return "\x05" + four(x.N) + "\x10" + four(x.Seq) + four(x.Sum) + four(x.Seg) + four(x.Pos) + strings.Repeat("\x00", size-6-long)
}

func number(s string) int {
	return int(s[0]) + 256*int(s[1]) + 65536*int(s[2]) + 16777216*int(s[3])
}

// read is what the words say of s, place by place.
func read(s string) (api.Slot, bool) {
	if len(s) != size || s[0] != 5 || s[5] != long || strings.Trim(s[22:], "\x00") != "" {
		return api.Slot{}, false
	}
	x := api.Slot{N: number(s[1:5]), Seq: number(s[6:10]), Sum: number(s[10:14]), Seg: number(s[14:18]), Pos: number(s[18:22])}
	if x.N < 1 || x.N > last || x.Seq > last || x.Sum > last || x.Seg > last || x.Pos > segment {
		return api.Slot{}, false
	}
	return x, true
}

// mixed is n bytes that follow no plain order, the same ones for the same n.
func mixed(n int) string {
	text := make([]byte, n)
	x := uint32(n) + 1
	for i := range text {
		x = x*1664525 + 1013904223
		text[i] = byte(x >> 24)
	}
	return string(text)
}

// turned is s with another byte at that place.
func turned(s string, at int, b byte) string {
	return s[:at] + string([]byte{b}) + s[at+1:]
}

func wantTaken(t *testing.T, s string, x api.Slot) {
	t.Helper()
	if got, ok := slot.Take(s); got != x || !ok {
		t.Errorf("Take of % x: got %+v %v, want %+v", s, got, ok, x)
	}
}

func wantNot(t *testing.T, s string) {
	t.Helper()
	if got, ok := slot.Take(s); got != (api.Slot{}) || ok {
		t.Errorf("Take of % x: got %+v %v, want no", s, got, ok)
	}
}

// wantAsRead: s is told as the slot whose Put is just s, or no.
func wantAsRead(t *testing.T, s string) {
	t.Helper()
	x, ok := read(s)
	if !ok {
		wantNot(t, s)
		return
	}
	wantTaken(t, s, x)
	if got := slot.Put(x); got != s {
		t.Errorf("Put of %+v, which was taken of % x: got % x", x, s, got)
	}
}

func wantNewest(t *testing.T, x api.Slot, ok bool, l ...string) {
	t.Helper()
	if got, is := slot.Newest(l...); got != x || is != ok {
		t.Errorf("Newest of %d texts, % x: got %+v %v, want %+v %v", len(l), l, got, is, x, ok)
	}
}

// P5.1, May: each number alone, on both sides of its edges.
func TestMayEdges(t *testing.T) {
	x := api.Slot{N: 3, Seq: 258, Sum: 5, Seg: 1, Pos: 7}
	for _, f := range fields() {
		for _, n := range f.good {
			if !slot.May(f.with(x, n)) {
				t.Errorf("%s %d may be", f.name, n)
			}
		}
		for _, n := range f.odd {
			if slot.May(f.with(x, n)) {
				t.Errorf("%s %d may not be", f.name, n)
			}
		}
	}
	for pos := -300; pos <= 600; pos++ {
		if got := slot.May(api.Slot{N: 1, Pos: pos}); got != (pos >= 0 && pos <= 64) {
			t.Errorf("Pos %d: %v", pos, got)
		}
	}
	for n := -300; n <= 300; n++ {
		if got := slot.May(api.Slot{N: n}); got != (n >= 1) {
			t.Errorf("N %d: %v", n, got)
		}
	}
}

// P5.1, May: whatever else the slot is.
func TestMayAll(t *testing.T) {
	for _, x := range goods() {
		if !slot.May(x) {
			t.Errorf("%+v may be", x)
		}
	}
	for _, x := range odds() {
		if slot.May(x) {
			t.Errorf("%+v may not be", x)
		}
	}
}

// P5.1, Put: slots whose bytes are written out.
func TestPutKnown(t *testing.T) {
	for _, c := range []struct {
		x    api.Slot
		text string
	}{
		{api.Slot{N: 3, Seq: 258, Sum: 5, Seg: 1, Pos: 64}, "\x05\x03\x00\x00\x00\x10\x02\x01\x00\x00\x05\x00\x00\x00\x01\x00\x00\x00\x40\x00\x00\x00"},
		{api.Slot{N: 1}, "\x05\x01\x00\x00\x00\x10"},
		{api.Slot{N: 0x01020304, Seq: 0x05060708, Sum: 0x090a0b0c, Seg: 0x0d0e0f10, Pos: 0x11}, "\x05\x04\x03\x02\x01\x10\x08\x07\x06\x05\x0c\x0b\x0a\x09\x10\x0f\x0e\x0d\x11\x00\x00\x00"},
		{api.Slot{N: 1 << 30, Seq: 1 << 30, Sum: 1 << 30, Seg: 1 << 30, Pos: 64}, "\x05\x00\x00\x00\x40\x10\x00\x00\x00\x40\x00\x00\x00\x40\x00\x00\x00\x40\x40\x00\x00\x00"},
		{api.Slot{N: 1<<30 - 1, Seq: 1<<30 - 1}, "\x05\xff\xff\xff\x3f\x10\xff\xff\xff\x3f"},
		{api.Slot{N: 256, Sum: 65536}, "\x05\x00\x01\x00\x00\x10\x00\x00\x00\x00\x00\x00\x01\x00"},
		{api.Slot{N: 65536, Seg: 11}, "\x05\x00\x00\x01\x00\x10\x00\x00\x00\x00\x00\x00\x00\x00\x0b"},
	} {
		s := c.text + strings.Repeat("\x00", size-len(c.text))
		if got := slot.Put(c.x); got != s {
			t.Errorf("Put of %+v: got % x, want % x", c.x, got, s)
		}
		wantTaken(t, s, c.x)
	}
}

// P5.1, Put: each byte of every slot that may be, as a block; what is put is taken; no two slots are put alike.
func TestPutAndTaken(t *testing.T) {
	seen := map[string]api.Slot{}
	for _, x := range goods() {
		s := slot.Put(x)
		if s != laid(x) {
			t.Fatalf("Put of %+v: got % x, want % x", x, s, laid(x))
		}
		b := api.Block{Kind: api.BSlot, Gen: x.N, Load: four(x.Seq) + four(x.Sum) + four(x.Seg) + four(x.Pos)}
		if got, ok := block.Take(s); got != b || !ok {
			t.Fatalf("Put of %+v is the block %+v %v, want %+v", x, got, ok, b)
		}
		wantTaken(t, s, x)
		if y, ok := seen[s]; ok && y != x {
			t.Errorf("%+v and %+v are put alike", x, y)
		}
		seen[s] = x
	}
}

// P5.1, Put: of what may not be there is nothing.
func TestPutNot(t *testing.T) {
	for _, x := range odds() {
		if got := slot.Put(x); got != "" {
			t.Errorf("Put of %+v: got % x, want nothing", x, got)
		}
	}
}

// P5.1, Take: blocks of each kind with the load of a slot: but of a BSlot no.
func TestTakeKinds(t *testing.T) {
	for _, x := range []api.Slot{{N: 1}, {N: 3, Seq: 258, Sum: 5, Seg: 1, Pos: 64}, {N: last, Seq: last, Sum: last, Seg: last, Pos: 64}} {
		load := laid(x)[6:22]
		for _, kind := range []int{api.BRec, api.BIndex, api.BRoot, api.BSum} {
			s := block.Put(api.Block{Kind: kind, Gen: x.N, Load: load})
			if len(s) != size {
				t.Fatalf("there is no block of Kind %d", kind)
			}
			wantNot(t, s)
		}
		wantTaken(t, block.Put(api.Block{Kind: api.BSlot, Gen: x.N, Load: load}), x)
		for kind := range 256 {
			wantAsRead(t, turned(laid(x), 0, byte(kind)))
		}
	}
}

// P5.1, Take: loads of each length, of noughts too: but of just four numbers no.
func TestTakeLoads(t *testing.T) {
	for _, x := range []api.Slot{{N: 1}, {N: 3, Seq: 258, Sum: 5, Seg: 1, Pos: 64}, {N: last, Seq: last, Sum: last, Seg: last, Pos: 64}} {
		for _, fill := range []string{"\x00", "\x01", "x"} {
			full := laid(x)[6:22] + strings.Repeat(fill, 39)
			for n := range 56 {
				s := block.Put(api.Block{Kind: api.BSlot, Gen: x.N, Load: full[:n]})
				if len(s) != size {
					t.Fatalf("there is no block with a load of %d bytes", n)
				}
				if n == long {
					wantTaken(t, s, x)
				} else {
					wantNot(t, s)
				}
			}
		}
	}
}

// P5.1, Take: blocks of which each number is on both sides of its edges.
func TestTakeNumbers(t *testing.T) {
	base := api.Slot{N: 3, Seq: 258, Sum: 5, Seg: 1, Pos: 7}
	for _, x := range []api.Slot{base, {N: 1}, {N: last, Seq: last, Sum: last, Seg: last, Pos: 64}} {
		for _, f := range fields() {
			for _, n := range append(slices.Clone(f.good), f.odd...) {
				if n >= 0 && n < 1<<32 {
					y := f.with(x, n)
					if slices.Contains(f.good, n) {
						wantTaken(t, laid(y), y)
					} else {
						wantNot(t, laid(y))
					}
				}
			}
		}
	}
	for pos := range 600 {
		y := base
		y.Pos = pos
		wantAsRead(t, laid(y))
	}
	for n := range 3 {
		wantAsRead(t, block.Put(api.Block{Kind: api.BSlot, Gen: n, Load: laid(base)[6:22]}))
	}
}

// P5.1, Take: texts that are not as long as a block, whatever they begin with.
func TestTakeLengths(t *testing.T) {
	for _, x := range []api.Slot{{N: 1}, {N: 3, Seq: 258, Sum: 5, Seg: 1, Pos: 64}, {N: last, Seq: last, Sum: last, Seg: last, Pos: 64}} {
		s := laid(x)
		for n := range size {
			wantNot(t, s[:n])
			wantNot(t, s[size-n:])
		}
		wantTaken(t, s, x)
		for _, tail := range []string{"\x00", "x", "\x00\x00", s, strings.Repeat("\x00", 1000), mixed(1 << 20)} {
			wantNot(t, s+tail)
			wantNot(t, tail+s)
		}
	}
	wantNot(t, "")
	wantNot(t, strings.Repeat("\x00", size))
}

// P5.1, Take: each byte turned to each other one: in the kind, in N, in the length, in each number and behind them.
func TestTurned(t *testing.T) {
	for _, x := range goods()[:3] {
		for at := range size {
			for b := range 256 {
				wantAsRead(t, turned(laid(x), at, byte(b)))
			}
		}
	}
}

// P5.1, Take: two bytes turned, the length and any other one.
func TestTurnedTwice(t *testing.T) {
	for _, x := range goods()[:3] {
		for n := range 256 {
			s := turned(laid(x), 5, byte(n))
			for at := range size {
				if at != 5 {
					wantAsRead(t, turned(s, at, 1))
				}
			}
		}
	}
}

// P5.1, Take: what is turned, written out, so that no rule of these tests stands between.
func TestTurnedKnown(t *testing.T) {
	s := "\x05\x07\x00\x00\x00\x10\x02\x01\x00\x00\x05\x00\x00\x00\x01\x00\x00\x00\x3f\x00\x00\x00" + strings.Repeat("\x00", 42)
	wantTaken(t, s, api.Slot{N: 7, Seq: 258, Sum: 5, Seg: 1, Pos: 63})
	wantNot(t, turned(s, 0, 4))
	wantNot(t, turned(s, 0, 6))
	wantNot(t, turned(s, 1, 0))
	wantTaken(t, turned(s, 1, 255), api.Slot{N: 255, Seq: 258, Sum: 5, Seg: 1, Pos: 63})
	wantNot(t, turned(s, 4, 0x40))
	wantTaken(t, turned(turned(s, 1, 0), 4, 0x40), api.Slot{N: 1 << 30, Seq: 258, Sum: 5, Seg: 1, Pos: 63})
	wantNot(t, turned(s, 5, 15))
	wantNot(t, turned(s, 5, 17))
	wantNot(t, turned(s, 9, 0x40))
	wantNot(t, turned(s, 9, 0x80))
	wantTaken(t, turned(s, 9, 0x3f), api.Slot{N: 7, Seq: 258 + 0x3f000000, Sum: 5, Seg: 1, Pos: 63})
	wantNot(t, turned(s, 13, 0x40))
	wantTaken(t, turned(turned(s, 10, 0), 13, 0x40), api.Slot{N: 7, Seq: 258, Sum: 1 << 30, Seg: 1, Pos: 63})
	wantNot(t, turned(s, 17, 0x40))
	wantNot(t, turned(s, 17, 0xff))
	wantTaken(t, turned(s, 18, 64), api.Slot{N: 7, Seq: 258, Sum: 5, Seg: 1, Pos: 64})
	wantNot(t, turned(s, 18, 65))
	for at := 19; at < size; at++ {
		wantNot(t, turned(s, at, 1))
	}
}

// P5.1, Take: texts that nobody put.
func TestTakeAny(t *testing.T) {
	for b := range 256 {
		for n := range 3 * size {
			wantAsRead(t, strings.Repeat(string([]byte{byte(b)}), n))
		}
	}
	for n := range 3000 {
		s := mixed(size + n)[n:]
		wantAsRead(t, s)
		near := turned(turned(turned("\x05"+s[1:22]+strings.Repeat("\x00", 42), 4, byte(n%66)), 5, 16), 9, byte(n/66%66))
		wantAsRead(t, near)
		wantAsRead(t, turned(turned(near[:18]+"\x00\x00\x00\x00"+near[22:], 13, 0), 17, byte(n%65)))
	}
}

// P5.1, Newest: of nothing, and of what is no slot: no.
func TestNewestNone(t *testing.T) {
	wantNewest(t, api.Slot{}, false)
	wantNewest(t, api.Slot{}, false, []string{}...)
	x := api.Slot{N: 3, Seq: 258, Sum: 5, Seg: 1, Pos: 64}
	s := laid(x)
	odd := []string{"", strings.Repeat("\x00", size), s[:63], s + "\x00", "\x04" + s[1:], turned(s, 1, 0), turned(s, 18, 65), mixed(size)}
	for _, a := range odd {
		wantNewest(t, api.Slot{}, false, a)
		for _, b := range odd {
			wantNewest(t, api.Slot{}, false, a, b)
			wantNewest(t, x, true, a, s, b)
			wantNewest(t, x, true, s, a, b)
			wantNewest(t, x, true, a, b, s)
		}
	}
	wantNewest(t, api.Slot{}, false, odd...)
	wantNewest(t, x, true, append(slices.Clone(odd), s)...)
}

// P5.1, Newest: of one it is that one.
func TestNewestOne(t *testing.T) {
	for _, x := range goods() {
		wantNewest(t, x, true, laid(x))
	}
	for _, x := range []api.Slot{{}, {N: 0, Seq: 1}, {N: last + 1}, {N: 1, Pos: 65}} {
		wantNewest(t, api.Slot{}, false, laid(x))
	}
}

// P5.1, Newest: of several the one of the greatest N, whatever else they say, in each order.
func TestNewestSeveral(t *testing.T) {
	l := []api.Slot{{N: 1, Seq: last, Sum: last, Seg: last, Pos: 64}, {N: 2, Seq: 9}, {N: 255, Sum: 9}, {N: 256, Seg: 9}, {N: 65536}, {N: last - 1, Pos: 9}, {N: last}}
	for i, x := range l {
		for j, y := range l {
			wantNewest(t, l[max(i, j)], true, laid(x), laid(y))
			for k, z := range l {
				wantNewest(t, l[max(i, j, k)], true, laid(x), laid(y), laid(z))
			}
		}
	}
	var texts []string
	for n := range 1000 {
		texts = append(texts, laid(api.Slot{N: 1 + n*389%1000, Seq: n}))
	}
	for i, s := range texts {
		if x, _ := slot.Take(s); x.N == 1000 {
			wantNewest(t, api.Slot{N: 1000, Seq: i}, true, texts...)
		}
	}
}

// P5.1, Newest: what is no slot does not count, however great an N its bytes say.
func TestNewestOddGreater(t *testing.T) {
	x := api.Slot{N: 3, Seq: 258, Sum: 5, Seg: 1, Pos: 64}
	great := laid(api.Slot{N: 9, Seq: 1})
	for _, odd := range []string{great[:63], great + "\x00", turned(great, 0, 4), turned(great, 5, 17), turned(great, 18, 65), turned(great, 63, 1), laid(api.Slot{N: last + 1})} {
		wantNewest(t, x, true, laid(x), odd)
		wantNewest(t, x, true, odd, laid(x))
		wantNewest(t, x, true, odd, laid(api.Slot{N: 2}), odd, laid(x), odd)
	}
}

// P5.1, Newest: of several of the same N the first, wherever lesser ones stand.
func TestNewestFirst(t *testing.T) {
	for _, n := range []int{2, 3, 256, last} {
		old := laid(api.Slot{N: n - 1, Seq: 9})
		same := []api.Slot{{N: n, Seq: 4}, {N: n, Seq: 5}, {N: n, Sum: 1}, {N: n, Seg: 1}, {N: n, Pos: 1}, {N: n}}
		for _, x := range same {
			for _, y := range same {
				a, b := laid(x), laid(y)
				wantNewest(t, x, true, a, b)
				wantNewest(t, x, true, old, a, b)
				wantNewest(t, x, true, a, old, b)
				wantNewest(t, x, true, a, b, old)
				wantNewest(t, x, true, "", a, "", b, a)
			}
		}
	}
}

// R3: a list that is handed in, and the room behind it, stay as they were.
func TestNewestList(t *testing.T) {
	all := []string{laid(api.Slot{N: 1}), laid(api.Slot{N: 2}), "", laid(api.Slot{N: 9}), "behind"}
	before := slices.Clone(all)
	wantNewest(t, api.Slot{N: 2}, true, all[:3]...)
	if !slices.Equal(all, before) {
		t.Error("Newest has changed its list")
	}
}

// R4: the same call tells the same, from several at once, whatever was asked between.
func TestSameEachTime(t *testing.T) {
	x := api.Slot{N: 99, Seq: 98, Sum: 97, Seg: 3, Pos: 12}
	done := make(chan bool)
	for i := range 8 {
		go func() {
			slot.Put(api.Slot{N: i, Seq: i})
			slot.Newest(laid(api.Slot{N: 100 + i}), mixed(size + i)[i:])
			s := slot.Put(x)
			y, ok := slot.Take(s)
			z, is := slot.Newest(laid(api.Slot{N: 98}), s)
			done <- s == laid(x) && y == x && ok && z == x && is && slot.May(x)
		}()
	}
	for range 8 {
		if !<-done {
			t.Error("asked by several, it tells something else")
		}
	}
}
