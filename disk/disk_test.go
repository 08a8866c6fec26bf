package disk_test

import (
	"math"
	"reflect"
	"slices"
	"strings"
	"testing"

	"glacis/api"
	"glacis/disk"
)

// full is a block of one letter.
func full(c string) string { return strings.Repeat(c, api.Size) }

func noughts() string { return full("\x00") }

// same holds two disks against each other; nil and an empty list are one.
func same(a, b api.Disk) bool {
	return slices.Equal(a.Last, b.Last) && slices.Equal(a.Wait, b.Wait) && a.Arm == b.Arm && a.Down == b.Down
}

// deep is a copy that shares nothing with d.
func deep(d api.Disk) api.Disk {
	d.Last = append([]string{}, d.Last...)
	d.Wait = append([]api.Put{}, d.Wait...)
	return d
}

func wantDisk(t *testing.T, what string, got, want api.Disk) {
	t.Helper()
	if !same(got, want) {
		t.Errorf("%s: got %v, want %v", what, got, want)
	}
}

func wantBlock(t *testing.T, d api.Disk, i int, want string) {
	t.Helper()
	if got, ok := disk.Read(d, i); !ok || got != want {
		t.Errorf("block %d: got %q %v, want %q", i, got, ok, want)
	}
}

// written is d with each letter written at the block beside it.
func written(t *testing.T, d api.Disk, at []int, letters ...string) api.Disk {
	t.Helper()
	for k, c := range letters {
		w, ok := disk.Write(d, at[k], full(c))
		if !ok {
			t.Fatalf("write %d of %q was refused", k, c)
		}
		d = w
	}
	return d
}

// P1.1: how many blocks.
func TestNewBlocks(t *testing.T) {
	most := api.MaxSegs*api.Segment + 2
	for _, n := range []int{1, 2, 3, api.Segment, most - 1, most} {
		d := disk.New(n)
		if len(d.Last) != n || len(d.Wait) != 0 || d.Arm != 0 || d.Down {
			t.Errorf("New(%d): %d blocks, %d wait, arm %d, down %v", n, len(d.Last), len(d.Wait), d.Arm, d.Down)
		}
		for i, b := range d.Last {
			if b != noughts() {
				t.Fatalf("New(%d): block %d is %q", n, i, b)
			}
		}
		wantBlock(t, d, 0, noughts())
		wantBlock(t, d, n-1, noughts())
		wantDisk(t, "what New told lasts", disk.Crash(d), d)
	}
}

func TestNewNone(t *testing.T) {
	for _, n := range []int{0, -1, api.MaxSegs*api.Segment + 3, 1 << 32, 1<<32 + 1, math.MaxInt, math.MinInt} {
		wantDisk(t, "New beyond its limits", disk.New(n), api.Disk{})
	}
}

// P1.1: which block.
func TestReadNoBlock(t *testing.T) {
	d := written(t, disk.New(3), []int{0, 2}, "a", "b")
	for _, i := range []int{-1, 3, 4, 1 << 32, math.MaxInt, math.MinInt} {
		if s, ok := disk.Read(d, i); ok || s != "" {
			t.Errorf("Read at %d: %q %v", i, s, ok)
		}
	}
	if s, ok := disk.Read(api.Disk{}, 0); ok || s != "" {
		t.Errorf("Read of no disk: %q %v", s, ok)
	}
}

func TestReadLastOfWait(t *testing.T) {
	d := disk.New(3)
	d.Last[1] = full("z")
	wantBlock(t, d, 1, full("z"))
	d = written(t, d, []int{1, 0, 1, 2}, "a", "b", "c", "d")
	wantBlock(t, d, 0, full("b"))
	wantBlock(t, d, 1, full("c"))
	wantBlock(t, d, 2, full("d"))
	if d.Last[1] != full("z") {
		t.Error("a write lasts ahead of Flush")
	}
}

// P1.1: Write waits behind all, and changes nothing that lasts.
func TestWriteWaits(t *testing.T) {
	d := written(t, disk.New(2), []int{1, 0, 1}, "a", "b", "c")
	want := disk.New(2)
	want.Wait = []api.Put{{At: 1, B: full("a")}, {At: 0, B: full("b")}, {At: 1, B: full("c")}}
	wantDisk(t, "three writes", d, want)
}

func TestWriteRefused(t *testing.T) {
	for _, arm := range []int{0, 1, 5} {
		d := written(t, disk.New(3), []int{1}, "a")
		d.Arm = arm
		for _, i := range []int{-1, 3, 1 << 32, math.MaxInt, math.MinInt} {
			w, ok := disk.Write(d, i, full("b"))
			if ok {
				t.Errorf("there is no block %d", i)
			}
			wantDisk(t, "Write at no block", w, d)
		}
		for _, b := range []string{"", "b", full("b")[1:], full("b") + "b", strings.Repeat("é", api.Size), strings.Repeat("b", 1<<16)} {
			w, ok := disk.Write(d, 0, b)
			if ok {
				t.Errorf("a block of %d bytes", len(b))
			}
			wantDisk(t, "Write of no block", w, d)
		}
	}
	if w, ok := disk.Write(api.Disk{}, 0, full("a")); ok || !same(w, api.Disk{}) {
		t.Errorf("Write to no disk: %v %v", w, ok)
	}
}

// A block is counted in bytes, and any bytes may be.
func TestWriteAnyBytes(t *testing.T) {
	for _, b := range []string{full("\xff"), full("\x00"), strings.Repeat("é", api.Size/2)} {
		d, ok := disk.Write(disk.New(1), 0, b)
		if !ok {
			t.Errorf("%q was refused", b)
		}
		wantBlock(t, d, 0, b)
	}
}

// P1.1: Arm.
func TestArm(t *testing.T) {
	for _, arm := range []int{1, 2, 3} {
		d := disk.New(4)
		d.Arm = arm
		for k := 1; k <= arm; k++ {
			want := deep(d)
			want.Wait = append(want.Wait, api.Put{At: k, B: full("a")})
			want.Arm, want.Down = arm-k, k == arm
			w, ok := disk.Write(d, k, full("a"))
			if ok != (k < arm) {
				t.Errorf("arm %d, write %d: %v", arm, k, ok)
			}
			wantDisk(t, "an armed write", w, want)
			d = w
		}
	}
}

func TestArmOfNoneOrBelow(t *testing.T) {
	for _, arm := range []int{0, -1, math.MinInt} {
		d := disk.New(1)
		d.Arm = arm
		for range 3 {
			w, ok := disk.Write(d, 0, full("a"))
			if !ok || w.Down || w.Arm != arm {
				t.Errorf("arm %d: %v, then arm %d, down %v", arm, ok, w.Arm, w.Down)
			}
			d = w
		}
	}
}

func TestArmCountsWritesAlone(t *testing.T) {
	d := disk.New(1)
	d.Arm = 1
	wantBlock(t, d, 0, noughts())
	f, ok := disk.Flush(d)
	if !ok || f.Arm != 1 {
		t.Errorf("Flush: %v, arm %d", ok, f.Arm)
	}
	f, ok = disk.Flush(f)
	if !ok || f.Arm != 1 || f.Down {
		t.Errorf("Flush again: %v, arm %d, down %v", ok, f.Arm, f.Down)
	}
}

// P1.1: Down.
func TestDown(t *testing.T) {
	d := written(t, disk.New(2), []int{0, 1}, "a", "b")
	d.Down = true
	for _, arm := range []int{0, 1, 2} {
		d.Arm = arm
		if s, ok := disk.Read(d, 0); ok || s != "" {
			t.Errorf("Read: %q %v", s, ok)
		}
		w, ok := disk.Write(d, 0, full("c"))
		if ok {
			t.Error("Write without power")
		}
		wantDisk(t, "Write without power", w, d)
		f, ok := disk.Flush(d)
		if ok {
			t.Error("Flush without power")
		}
		wantDisk(t, "Flush without power", f, d)
	}
}

// P1.1: Flush lets all of Wait last, in order.
func TestFlush(t *testing.T) {
	d := written(t, disk.New(3), []int{1, 0, 1}, "a", "b", "c")
	d.Arm = 4
	f, ok := disk.Flush(d)
	if !ok {
		t.Fatal("Flush was refused")
	}
	wantDisk(t, "Flush", f, api.Disk{Last: []string{full("b"), full("c"), noughts()}, Arm: 4})
	wantDisk(t, "what was flushed lasts", disk.Crash(f), api.Disk{Last: f.Last})
	again, ok := disk.Flush(f)
	if !ok || !same(again, f) {
		t.Errorf("Flush where nothing waits: %v %v", again, ok)
	}
	if x, ok := disk.Flush(api.Disk{}); !ok || !same(x, api.Disk{}) {
		t.Errorf("Flush of no disk: %v %v", x, ok)
	}
}

// P1.2: keep as long as Wait, shorter and longer, each choice of it.
func TestCrashKeep(t *testing.T) {
	at, letters := []int{1, 0, 1}, []string{"a", "b", "c"}
	d := written(t, disk.New(3), at, letters...)
	d.Last[2] = full("z")
	for long := range 6 {
		for bits := range 1 << long {
			keep := make([]bool, long)
			want := api.Disk{Last: []string{noughts(), noughts(), full("z")}}
			for k := range keep {
				keep[k] = bits>>k&1 == 1
				if keep[k] && k < len(at) {
					want.Last[at[k]] = full(letters[k])
				}
			}
			for _, power := range []api.Disk{{}, {Arm: 2}, {Arm: -1}, {Down: true}, {Arm: 3, Down: true}} {
				d.Arm, d.Down = power.Arm, power.Down
				wantDisk(t, "Crash", disk.Crash(d, keep...), want)
			}
		}
	}
}

func TestCrashWithoutKeep(t *testing.T) {
	d := written(t, disk.New(2), []int{0}, "a")
	d, _ = disk.Flush(d)
	w := written(t, d, []int{0, 1}, "b", "c")
	wantDisk(t, "Crash without keep", disk.Crash(w), d)
	wantDisk(t, "Crash with nil", disk.Crash(w, []bool(nil)...), d)
	wantDisk(t, "Crash of no disk", disk.Crash(api.Disk{Arm: 1, Down: true}, true, false), api.Disk{})
}

// The write at which the power goes may last too.
func TestCrashAtArmedWrite(t *testing.T) {
	d := disk.New(2)
	d.Arm = 1
	w, ok := disk.Write(d, 1, full("a"))
	if ok || !w.Down {
		t.Fatalf("the power stays: %v %v", w, ok)
	}
	wantDisk(t, "it lasts", disk.Crash(w, true), api.Disk{Last: []string{noughts(), full("a")}})
	wantDisk(t, "it does not", disk.Crash(w, false), disk.New(2))
	wantBlock(t, disk.Crash(w, true), 1, full("a"))
	written(t, disk.Crash(w), []int{0, 1, 0}, "x", "y", "z")
}

// R1: disks that no call made.
func TestOddDisks(t *testing.T) {
	puts := []api.Put{{At: -1, B: full("a")}, {At: 1, B: full("b")}, {At: 2, B: full("c")}, {At: math.MaxInt}, {At: math.MinInt}}
	for _, d := range []api.Disk{{Wait: puts}, {Last: []string{"", full("y")}, Wait: puts}, {Last: []string{"", full("y")}, Wait: puts, Arm: 1, Down: true}} {
		for _, i := range []int{-1, 0, 1, 2, math.MaxInt, math.MinInt} {
			if _, ok := disk.Read(d, i); ok && (i < 0 || i >= len(d.Last)) {
				t.Errorf("there is no block %d", i)
			}
			disk.Write(d, i, full("d"))
		}
		f, ok := disk.Flush(d)
		if ok == d.Down || len(f.Last) != len(d.Last) {
			t.Errorf("Flush: %v %v", f, ok)
		}
		c := disk.Crash(d, true, true, true, true, true, true)
		if len(c.Last) != len(d.Last) || len(c.Last) > 0 && c.Last[1] != full("b") {
			t.Errorf("Crash: %v", c)
		}
	}
}

// spare is a disk whose lists have room behind them that holds marks.
func spare() (d api.Disk, last []string, wait []api.Put) {
	last = []string{full("a"), full("b"), "mark", "mark"}
	wait = []api.Put{{At: 0, B: full("c")}, {At: 1, B: full("d")}, {At: 7, B: "mark"}, {At: 7, B: "mark"}}
	return api.Disk{Last: last[:2], Wait: wait[:2]}, last, wait
}

// answers is what every call tells of d, refused calls too.
func answers(d api.Disk, keep []bool) []api.Disk {
	var l []api.Disk
	for _, i := range []int{0, 1, 2} {
		w, _ := disk.Write(d, i, full("e"))
		l = append(l, w)
	}
	short, _ := disk.Write(d, 0, "e")
	f, _ := disk.Flush(d)
	disk.Read(d, 0)
	return append(l, short, f, disk.Crash(d), disk.Crash(d, keep...))
}

// R3: what is handed in is not changed, spare room too, and what is told shares nothing with it.
func TestMemory(t *testing.T) {
	for _, power := range []api.Disk{{}, {Arm: 1}, {Arm: 2}, {Down: true}} {
		d, last, wait := spare()
		d.Arm, d.Down = power.Arm, power.Down
		keep := []bool{true, false}
		_, wantLast, wantWait := spare()
		for k, x := range answers(d, keep) {
			x.Last, x.Wait = x.Last[:cap(x.Last)], x.Wait[:cap(x.Wait)]
			for i := range x.Last {
				x.Last[i] = "spoilt"
			}
			for i := range x.Wait {
				x.Wait[i] = api.Put{At: 9, B: "spoilt"}
			}
			if !slices.Equal(last, wantLast) || !slices.Equal(wait, wantWait) || !slices.Equal(keep, []bool{true, false}) {
				t.Fatalf("answer %d shares memory with what was handed in, or that was changed", k)
			}
		}
		a := answers(d, keep)
		b := deepAll(a)
		for i := range last {
			last[i] = "spoilt"
		}
		for i := range wait {
			wait[i] = api.Put{At: 9, B: "spoilt"}
		}
		for k := range a {
			wantDisk(t, "an answer, once what was handed in is spoilt", a[k], b[k])
		}
	}
}

func deepAll(l []api.Disk) []api.Disk {
	var out []api.Disk
	for _, d := range l {
		out = append(out, deep(d))
	}
	return out
}

// Two disks of New share nothing, and two writes behind one disk do not see each other.
func TestSideBySide(t *testing.T) {
	a, b := disk.New(2), disk.New(2)
	a.Last[0] = full("x")
	wantBlock(t, b, 0, noughts())
	base := written(t, b, []int{0, 0, 0}, "a", "b", "c")
	one := written(t, base, []int{0}, "d")
	two := written(t, base, []int{0}, "e")
	wantBlock(t, base, 0, full("c"))
	wantBlock(t, one, 0, full("d"))
	wantBlock(t, two, 0, full("e"))
}

// R4: the same call tells the same.
func TestAgain(t *testing.T) {
	d, _, _ := spare()
	if !reflect.DeepEqual(answers(d, []bool{false, true}), answers(d, []bool{false, true})) {
		t.Error("two calls alike differ")
	}
	if !same(disk.New(5), disk.New(5)) {
		t.Error("two new disks differ")
	}
}

// What follows: whatever is written and flushed, after a crash each block is one that stood there whole since the last flush.
func TestRuns(t *testing.T) {
	for run := range 1 << 12 {
		d := disk.New(2)
		may := [2][]string{{noughts()}, {noughts()}}
		now := [2]string{noughts(), noughts()}
		for k := range 6 {
			switch what := run >> (2 * k) & 3; what {
			case 0, 1:
				b := full(string(rune('a' + k)))
				d = written(t, d, []int{what}, b[:1])
				now[what] = b
				may[what] = append(may[what], b)
			case 2:
				d, _ = disk.Flush(d)
				may = [2][]string{{now[0]}, {now[1]}}
			case 3:
				d = disk.Crash(d, run&1 == 1, run&2 == 2, run&4 == 4)
				for i := range now {
					now[i], _ = disk.Read(d, i)
					if !slices.Contains(may[i], now[i]) {
						t.Fatalf("run %d: block %d is %q", run, i, now[i])
					}
					may[i] = []string{now[i]}
				}
			}
			wantBlock(t, d, 0, now[0])
			wantBlock(t, d, 1, now[1])
		}
	}
}
