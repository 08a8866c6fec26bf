package bits_test

import (
	"bytes"
	"math"
	"strings"
	"testing"

	"glacis/bits"
)

// odd is what no n may be.
var odd = []int{0, 5, -1, 6, 8, 64, 256, 257, 260, 1<<32 + 1, -4, math.MaxInt, math.MinInt}

// some is numbers of every size, at the edges of each width and on both sides of nought.
func some() []int {
	l := []int{0, 258, 0x0a0b0c0d, 0x0102030405060708, -0x0102030405060708, math.MaxInt, math.MinInt}
	for k := range 63 {
		l = append(l, 1<<k, 1<<k-1, 1<<k+1, -1<<k, -1<<k-1, -1<<k+1)
	}
	return l
}

// low is the n lowest bytes of x, worked out by dividing, not by shifting.
func low(n, x int) string {
	var s []byte
	for range n {
		d := x % 256
		if d < 0 {
			d += 256
		}
		s = append(s, byte(d))
		x = (x - d) / 256
	}
	return string(s)
}

// number is what the n bytes of s say, by multiplying.
func number(s string) int {
	x, unit := 0, 1
	for i := range len(s) {
		x += int(s[i]) * unit
		unit *= 256
	}
	return x
}

func want(t *testing.T, what string, got []byte, text string) {
	t.Helper()
	if string(got) != text {
		t.Errorf("%s: got % x, want % x", what, got, text)
	}
}

func wantTaken(t *testing.T, b string, n, x int) {
	t.Helper()
	if got, ok := bits.Take([]byte(b), n); got != x || !ok {
		t.Errorf("Take of %d of % x: got %d %v, want %d", n, b, got, ok, x)
	}
}

func wantNotTaken(t *testing.T, b []byte, n int) {
	t.Helper()
	if got, ok := bits.Take(b, n); got != 0 || ok {
		t.Errorf("Take of %d of % x: got %d %v, want no", n, b, got, ok)
	}
}

func wantText(t *testing.T, b, s string) {
	t.Helper()
	if got, n, ok := bits.TakeText([]byte(b)); got != s || n != 1+len(s) || !ok {
		t.Errorf("TakeText of % x: got %q %d %v, want %q", b, got, n, ok, s)
	}
}

func wantNoText(t *testing.T, b []byte) {
	t.Helper()
	if got, n, ok := bits.TakeText(b); got != "" || n != 0 || ok {
		t.Errorf("TakeText of % x: got %q %d %v, want no", b, got, n, ok)
	}
}

// P3.1: the bytes that the chapter names, and others that its words give.
func TestPutKnown(t *testing.T) {
	for _, c := range []struct {
		b    string
		n    int
		l    []int
		text string
	}{
		{"", 2, []int{258}, "\x02\x01"},
		{"", 1, []int{7}, "\x07"},
		{"", 2, []int{7}, "\x07\x00"},
		{"", 3, []int{7}, "\x07\x00\x00"},
		{"", 4, []int{7}, "\x07\x00\x00\x00"},
		{"ab", 4, []int{0x01020304}, "ab\x04\x03\x02\x01"},
		{"ab", 3, []int{0x01020304}, "ab\x04\x03\x02"},
		{"ab", 2, []int{0x01020304}, "ab\x04\x03"},
		{"ab", 1, []int{0x01020304}, "ab\x04"},
		{"", 4, []int{0x0102030405}, "\x05\x04\x03\x02"},
		{"", 4, []int{1 << 30}, "\x00\x00\x00\x40"},
		{"", 4, []int{1 << 32}, "\x00\x00\x00\x00"},
		{"", 1, []int{256, 255, -1, -256, -255}, "\x00\xff\xff\x00\x01"},
		{"", 4, []int{-2}, "\xfe\xff\xff\xff"},
		{"", 4, []int{math.MinInt, math.MaxInt}, "\x00\x00\x00\x00\xff\xff\xff\xff"},
		{"x", 2, []int{1, 2, 3}, "x\x01\x00\x02\x00\x03\x00"},
		{"\x00", 1, []int{0, 0}, "\x00\x00\x00"},
	} {
		want(t, "Put", bits.Put([]byte(c.b), c.n, c.l...), c.text)
	}
}

// P3.1: numbers of any size in each width, alone and in one row, behind nothing and behind something.
func TestPutAnySize(t *testing.T) {
	for n := 1; n <= 4; n++ {
		var row strings.Builder
		for _, x := range some() {
			want(t, "one number", bits.Put(nil, n, x), low(n, x))
			want(t, "one behind some", bits.Put([]byte("some"), n, x), "some"+low(n, x))
			row.WriteString(low(n, x))
		}
		want(t, "a row", bits.Put(nil, n, some()...), row.String())
		want(t, "a row behind some", bits.Put([]byte("some"), n, some()...), "some"+row.String())
	}
}

// P3.1: a row is the numbers one by one.
func TestPutRow(t *testing.T) {
	for n := 1; n <= 4; n++ {
		b := []byte("b")
		for i, x := range some() {
			b = bits.Put(b, n, x)
			want(t, "one by one", b, string(bits.Put([]byte("b"), n, some()[:i+1]...)))
		}
	}
}

// P3.1: no number, and n that may not be: b alone.
func TestPutNothing(t *testing.T) {
	for _, b := range []string{"", "b", "\x00\x01", strings.Repeat("long", 100)} {
		for n := 1; n <= 4; n++ {
			want(t, "no number", bits.Put([]byte(b), n), b)
			want(t, "no list", bits.Put([]byte(b), n, nil...), b)
			want(t, "an empty list", bits.Put([]byte(b), n, []int{}...), b)
		}
		for _, n := range odd {
			want(t, "no such n, no number", bits.Put([]byte(b), n), b)
			want(t, "no such n", bits.Put([]byte(b), n, 5), b)
			want(t, "no such n, a row", bits.Put([]byte(b), n, some()...), b)
		}
	}
	want(t, "nil", bits.Put(nil, 1), "")
	want(t, "nil, and no such n", bits.Put(nil, 5, 1, 2), "")
}

// P3.1: the number of the first n bytes, whatever stands behind them.
func TestTakeKnown(t *testing.T) {
	b := "\x01\x02\x03\x04\x05"
	for n, x := range []int{1: 0x01, 2: 0x0201, 3: 0x030201, 4: 0x04030201} {
		if n > 0 {
			wantTaken(t, b, n, x)
			wantTaken(t, b[:n], n, x)
			wantTaken(t, b[:n]+"\xff\xff\xff\xff\xff", n, x)
		}
	}
	wantTaken(t, "\x02\x01", 2, 258)
	for n := 1; n <= 4; n++ {
		wantTaken(t, strings.Repeat("\xff", 9), n, 1<<(8*n)-1)
		wantTaken(t, strings.Repeat("\x00", 9), n, 0)
		wantTaken(t, strings.Repeat("\x00", n-1)+"\x80", n, 1<<(8*n-1))
	}
}

// P3.1: each two bytes, and so each number of two.
func TestTakeEach(t *testing.T) {
	for lowest := range 256 {
		wantTaken(t, string([]byte{byte(lowest)}), 1, lowest)
		for next := range 256 {
			b := string([]byte{byte(lowest), byte(next)})
			wantTaken(t, b, 2, number(b))
			wantTaken(t, "\x01"+b, 3, 1+256*number(b))
			wantTaken(t, b+b, 4, number(b)*65537)
			want(t, "each of two", bits.Put(nil, 2, number(b)), b)
		}
	}
}

// P3.1: too few bytes, and n that may not be: no, and nought.
func TestTakeNot(t *testing.T) {
	full := []byte("\x01\x02\x03\x04\x05\x06\x07\x08")
	for n := 1; n <= 4; n++ {
		for k := range n {
			wantNotTaken(t, full[:k], n)
			wantNotTaken(t, full[:k:k], n)
		}
		wantNotTaken(t, nil, n)
	}
	for _, n := range odd {
		wantNotTaken(t, nil, n)
		wantNotTaken(t, full, n)
		wantNotTaken(t, make([]byte, 300), n)
	}
}

// What follows: what is put is taken, as far as it has room in n bytes, whatever stands behind.
func TestPutIsTaken(t *testing.T) {
	for n := 1; n <= 4; n++ {
		for _, x := range some() {
			for _, tail := range []string{"", "\x00", "\xff\xff", "tail"} {
				b := string(bits.Put(nil, n, x)) + tail
				wantTaken(t, b, n, number(low(n, x)))
				if x >= 0 && x < 1<<(8*n) {
					wantTaken(t, b, n, x)
				}
			}
		}
		b := bits.Put(nil, n, some()...)
		for _, x := range some() {
			wantTaken(t, string(b), n, number(low(n, x)))
			b = b[n:]
		}
		if len(b) != 0 {
			t.Errorf("%d bytes are left of a row", len(b))
		}
	}
}

// P3.1: texts of every length that may be: the length in a byte, the text.
func TestText(t *testing.T) {
	want(t, "a text", bits.Text([]byte("a"), "bc"), "a\x02bc")
	want(t, "no byte", bits.Text(nil, ""), "\x00")
	want(t, "no byte, behind some", bits.Text([]byte("a"), ""), "a\x00")
	want(t, "a nought", bits.Text(nil, "\x00"), "\x01\x00")
	want(t, "bytes, not letters", bits.Text(nil, "é\xff"), "\x03\xc3\xa9\xff")
	for n := range 256 {
		s := strings.Repeat("x", n)
		want(t, "a length", bits.Text([]byte("ab"), s), "ab"+string([]byte{byte(n)})+s)
	}
}

// P3.1: a text of more than 255 bytes: b alone.
func TestTextTooLong(t *testing.T) {
	for _, n := range []int{256, 257, 300, 511, 512, 65535, 65536, 1 << 20} {
		s := strings.Repeat("x", n)
		for _, b := range []string{"", "b", "\x00\x01"} {
			want(t, "too long", bits.Text([]byte(b), s), b)
		}
		want(t, "too long, behind nil", bits.Text(nil, s), "")
	}
}

// P3.1: the text, and how many bytes its length and it are, whatever stands behind.
func TestTakeText(t *testing.T) {
	wantText(t, "\x02abc", "ab")
	wantText(t, "\x00", "")
	wantText(t, "\x00\x05", "")
	wantText(t, "\x01\x00\x00", "\x00")
	for n := range 256 {
		s := strings.Repeat("é\x00\xff", 64)[:n]
		for _, tail := range []string{"", "\x00", "tail", strings.Repeat("\xff", 300)} {
			wantText(t, string([]byte{byte(n)})+s+tail, s)
			wantText(t, string(bits.Text(nil, s))+tail, s)
		}
	}
}

// P3.1: b is too short, by one byte and by more: no, and zero values; the room behind b is not its own.
func TestTakeTextNot(t *testing.T) {
	wantNoText(t, nil)
	wantNoText(t, []byte{})
	for n := 1; n < 256; n++ {
		b := bits.Text(nil, strings.Repeat("x", n))
		for k := range b {
			wantNoText(t, b[:k])
			wantNoText(t, b[:k:k])
		}
	}
}

// What follows: numbers and texts that are put one behind the other are taken in that order.
func TestMixed(t *testing.T) {
	texts := []string{"", "a", strings.Repeat("y", 255), "\x00\x00"}
	var b []byte
	for i, s := range texts {
		b = bits.Text(bits.Put(b, i+1, i, 200-i), s)
	}
	for i, s := range texts {
		for _, x := range []int{i, 200 - i} {
			wantTaken(t, string(b), i+1, x)
			b = b[i+1:]
		}
		wantText(t, string(b), s)
		b = b[1+len(s):]
	}
	if len(b) != 0 {
		t.Errorf("%d bytes are left", len(b))
	}
}

// answers is what every call that tells bytes makes of b, refused calls too.
func answers(b []byte, l []int) [][]byte {
	return [][]byte{
		bits.Put(b, 1), bits.Put(b, 4), bits.Put(b, 0, l...), bits.Put(b, 5, l...),
		bits.Put(b, 1, l...), bits.Put(b, 2, l...), bits.Put(b, 3, l...), bits.Put(b, 4, l...),
		bits.Text(b, ""), bits.Text(b, "text"), bits.Text(b, strings.Repeat("x", 255)), bits.Text(b, strings.Repeat("x", 256)),
	}
}

// R3: what is handed in is not changed, nor its spare room, whatever is asked and whatever becomes of the answer.
func TestHandedInStays(t *testing.T) {
	mark := "\x02abcdefghijklmnopqrstuvwxyz" + strings.Repeat("mark", 100)
	for _, k := range []int{0, 1, 3, 10} {
		room := []byte(mark)
		row := []int{258, -1, 7, 77, 77}
		for _, b := range [][]byte{room[:k], room[: k : k+1], room[:k:k]} {
			for _, a := range answers(b, row[:3]) {
				a = a[:cap(a)]
				for i := range a {
					a[i] = '!'
				}
			}
			bits.Take(b, 1)
			bits.Take(b, 4)
			bits.TakeText(b)
		}
		if string(room) != mark {
			t.Fatalf("%d bytes were handed in, and it is now %q", k, room)
		}
		for i, x := range []int{258, -1, 7, 77, 77} {
			if row[i] != x {
				t.Fatalf("the row was changed: %v", row)
			}
		}
	}
}

// R3: what is told stays, whatever becomes of what was handed in, and shares nothing with another answer.
func TestToldStays(t *testing.T) {
	room, row := []byte("\x02abcdefg"), []int{258, -1, 7}
	told := answers(room[:5], row)
	s, n, ok := bits.TakeText(room)
	var kept []string
	for _, a := range told {
		kept = append(kept, string(a))
	}
	for i := range room {
		room[i] = '!'
	}
	clear(row)
	for i, a := range told {
		want(t, "an answer, once what was handed in is spoilt", a, kept[i])
		for k := range a[:cap(a)] {
			a[:cap(a)][k] = '!'
		}
	}
	for i, a := range answers([]byte("\x02abcd"), []int{258, -1, 7}) {
		want(t, "an answer, once others are spoilt", a, kept[i])
	}
	if s != "ab" || n != 3 || !ok {
		t.Errorf("a text, once what was handed in is spoilt: %q %d %v", s, n, ok)
	}
}

// R3: two answers behind the same bytes do not see each other, nor does one that is put behind an answer.
func TestSideBySide(t *testing.T) {
	b := append(make([]byte, 0, 99), 'b')
	one, two := bits.Put(b, 2, 1), bits.Put(b, 2, 2)
	three, four := bits.Text(b, "x"), bits.Text(b, "y")
	five, six := bits.Put(one, 1, 5), bits.Text(one, "z")
	want(t, "one", one, "b\x01\x00")
	want(t, "two", two, "b\x02\x00")
	want(t, "three", three, "b\x01x")
	want(t, "four", four, "b\x01y")
	want(t, "five", five, "b\x01\x00\x05")
	want(t, "six", six, "b\x01\x00\x01z")
}

// R3, R4: nil and an empty list are one; room behind b does not count; the same call tells the same.
func TestSameEachTime(t *testing.T) {
	row := []int{258, -1, 7}
	for _, b := range []string{"", "\x01", "\x03abc"} {
		plain := answers([]byte(b), row)
		again := answers([]byte(b), row)
		roomy := answers(append(make([]byte, 0, 600), b...), row)
		for i := range plain {
			if !bytes.Equal(plain[i], again[i]) || !bytes.Equal(plain[i], roomy[i]) {
				t.Errorf("answer %d of %q differs: % x, % x, % x", i, b, plain[i], again[i], roomy[i])
			}
		}
	}
	empty := answers([]byte{}, row)
	for i, a := range answers(nil, row) {
		want(t, "of nil, as of nothing", a, string(empty[i]))
	}
}
