package crc_test

import (
	"bytes"
	"hash/crc32"
	"slices"
	"testing"

	"glacis/crc"
)

// plain is the sum by its rule alone, a bit at a time.
func plain(text []byte) uint32 {
	c := ^uint32(0)
	for _, b := range text {
		c ^= uint32(b)
		for range 8 {
			low := c & 1
			c >>= 1
			if low == 1 {
				c ^= 0x82F63B78
			}
		}
	}
	return ^c
}

// mixed is n bytes that follow no plain order, the same ones for the same n.
func mixed(n int) []byte {
	text := make([]byte, n)
	x := uint32(n) + 1
	for i := range text {
		x = x*1664525 + 1013904223
		text[i] = byte(x >> 24)
	}
	return text
}

func want(t *testing.T, what string, got, sum uint32) {
	t.Helper()
	if got != sum {
		t.Errorf("%s: got %08X, want %08X", what, got, sum)
	}
}

// P2.1: the chapter's example, and sums that are known of CRC-32C.
func TestKnownSums(t *testing.T) {
	up, down := make([]byte, 32), make([]byte, 32)
	for i := range up {
		up[i], down[i] = byte(i), byte(31-i)
	}
	for _, c := range []struct {
		text string
		sum  uint32
	}{
		{"123456789", 0xE3069283},
		{"a", 0xC1D04330},
		{"abc", 0x364B3FB7},
		{"\x00", 0x527D5351},
		{"\xff", 0xFF000000},
		{string(make([]byte, 32)), 0x8A9136AA},
		{string(bytes.Repeat([]byte{255}, 32)), 0x62A8AB43},
		{string(up), 0x46DD794E},
		{string(down), 0x113FDB5C},
	} {
		want(t, c.text, crc.Sum([]byte(c.text)), c.sum)
	}
}

// P2.1: nothing at all, in each of its forms.
func TestNothing(t *testing.T) {
	want(t, "no text", crc.Sum(), 0)
	want(t, "no list", crc.Sum(nil...), 0)
	want(t, "a nil text", crc.Sum(nil), 0)
	want(t, "an empty text", crc.Sum([]byte{}), 0)
	want(t, "several of nothing", crc.Sum(nil, []byte{}, nil), 0)
}

// P2.1: each byte, alone, and behind and ahead of another, so that each place of the table is asked.
func TestEachByte(t *testing.T) {
	for b := range 256 {
		for _, text := range [][]byte{{byte(b)}, {byte(b), 0}, {0, byte(b)}, {255, byte(b)}, {byte(b), 255}} {
			want(t, "bytes", crc.Sum(text), plain(text))
		}
	}
}

// P2.1: texts of many lengths, against the rule and against the library.
func TestLengths(t *testing.T) {
	table := crc32.MakeTable(crc32.Castagnoli)
	for n := range 200 {
		text := mixed(n)
		want(t, "by its rule", crc.Sum(text), plain(text))
		want(t, "by the library", crc.Sum(text), crc32.Checksum(text, table))
	}
	long := mixed(1 << 20)
	want(t, "a long text", crc.Sum(long), crc32.Checksum(long, table))
}

// P2.1: a text that is cut anywhere and handed in as several has the sum of the whole.
func TestCuts(t *testing.T) {
	for _, text := range [][]byte{[]byte("123456789"), mixed(40), make([]byte, 20)} {
		whole := crc.Sum(text)
		for i := range len(text) + 1 {
			want(t, "two", crc.Sum(text[:i], text[i:]), whole)
			want(t, "two, and nothing about them", crc.Sum(nil, text[:i], []byte{}, text[i:], nil), whole)
			for k := i; k <= len(text); k++ {
				want(t, "three", crc.Sum(text[:i], text[i:k], text[k:]), whole)
			}
		}
		want(t, "single bytes", crc.Sum(slices.Collect(slices.Chunk(text, 1))...), whole)
	}
}

// P2.1: the order of the texts counts, and each of them.
func TestOrder(t *testing.T) {
	a, b := []byte("12345"), []byte("6789")
	if crc.Sum(a, b) == crc.Sum(b, a) {
		t.Error("two texts the other way round have the same sum")
	}
	if crc.Sum(a, b) == crc.Sum(a) || crc.Sum(a, b) == crc.Sum(b) {
		t.Error("one of two texts does not count")
	}
}

// P2.1: noughts count, ahead and behind: all ones are what a sum begins with.
func TestNoughtsCount(t *testing.T) {
	seen := map[uint32]int{}
	for n := range 100 {
		s := crc.Sum(make([]byte, n))
		if k, ok := seen[s]; ok {
			t.Errorf("%d noughts have the sum of %d", n, k)
		}
		seen[s] = n
	}
	if crc.Sum([]byte("\x00abc")) == crc.Sum([]byte("abc")) || crc.Sum([]byte("abc\x00")) == crc.Sum([]byte("abc")) {
		t.Error("a nought beside a text does not count")
	}
}

// turned is text with the bits of mask turned, from bit at on; the lowest bit of a byte is its first.
func turned(text []byte, at int, mask uint32) []byte {
	c := slices.Clone(text)
	for k := range 32 {
		if mask>>k&1 == 1 {
			c[(at+k)/8] ^= 1 << ((at + k) % 8)
		}
	}
	return c
}

// What follows: what is turned within 32 bits is seen, wherever they begin.
func TestTurnedIsSeen(t *testing.T) {
	text := mixed(24)
	whole := crc.Sum(text)
	masks := []uint32{1, 3, 1 << 31, 1<<31 | 1, 0x82F63B78, 0xFFFFFFFF, 0x80808080, 0x01010101}
	for i := range 32 {
		for k := range i {
			masks = append(masks, 1<<i|1<<k)
		}
	}
	for i, b := 0, mixed(4*500); i < len(b); i += 4 {
		masks = append(masks, uint32(b[i])|uint32(b[i+1])<<8|uint32(b[i+2])<<16|uint32(b[i+3])<<24|1)
	}
	for at := range len(text)*8 - 31 {
		for _, mask := range masks {
			if crc.Sum(turned(text, at, mask)) == whole {
				t.Fatalf("from bit %d on %08X was turned, and is not seen", at, mask)
			}
		}
	}
}

// What follows: so within the last bits, and within a text that is only four bytes.
func TestTurnedAtTheEnd(t *testing.T) {
	for n := 1; n <= 4; n++ {
		text := mixed(n)
		whole := crc.Sum(text)
		for at := range n * 8 {
			for k := at; k < n*8; k++ {
				c := turned(text, at, 1)
				if k > at {
					c = turned(c, k, 1)
				}
				if crc.Sum(c) == whole {
					t.Errorf("%d bytes: bits %d and %d were turned, and are not seen", n, at, k)
				}
			}
		}
	}
}

// R3: what is handed in is not changed, nor its spare room, nor the list; it is not kept.
func TestHandedInStays(t *testing.T) {
	room := []byte("123456789 and spare room")
	list := [][]byte{room[:4:12], room[4:9], nil, []byte("kept")}[:2]
	want(t, "pieces with spare room", crc.Sum(list...), 0xE3069283)
	if string(room) != "123456789 and spare room" {
		t.Errorf("bytes were changed: %q", room)
	}
	all := list[:4]
	if len(all[0]) != 4 || len(all[1]) != 5 || all[2] != nil || string(all[3]) != "kept" {
		t.Errorf("the list was changed: %q", all)
	}
	room[0] = '9'
	want(t, "other bytes later", crc.Sum([]byte("123456789")), 0xE3069283)
}

// R4: the same sum each time, whatever was asked between, and from several at once.
func TestSameEachTime(t *testing.T) {
	done := make(chan uint32)
	for i := range 8 {
		go func() {
			crc.Sum(mixed(i * 100))
			done <- crc.Sum([]byte("123"), []byte("456789"))
		}()
	}
	for range 8 {
		want(t, "asked by several", <-done, 0xE3069283)
	}
}
