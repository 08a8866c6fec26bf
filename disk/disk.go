// Package disk: blocks that last, or do not: see doc/01-disk.md.
package disk

import (
	"slices"
	"strings"

	"glacis/api"
)

// most is how many blocks a disk has at most: those of all segments, and two for the slots.
const most = api.MaxSegs*api.Segment + 2

// New tells a disk of n blocks of noughts; none, if so many may not be.
func New(n int) api.Disk {
	if n < 1 || n > most {
		return api.Disk{}
	}
	blank := strings.Repeat("\x00", api.Size)
	last := make([]string, n)
	for i := range last {
		last[i] = blank
	}
	return api.Disk{Last: last}
}

// Read tells what stands at block i, whether it lasts already or not.
func Read(d api.Disk, i int) (string, bool) {
	if d.Down || !has(d.Last, i) {
		return "", false
	}
	for k := len(d.Wait) - 1; k >= 0; k-- {
		if d.Wait[k].At == i {
			return d.Wait[k].B, true
		}
	}
	return d.Last[i], true
}

// Write lets b wait for block i, behind all that waits; the write at which the power goes waits too, but is told as a no.
func Write(d api.Disk, i int, b string) (api.Disk, bool) {
	w := twin(d)
	if d.Down || !has(d.Last, i) || len(b) != api.Size {
		return w, false
	}
	w.Wait = append(w.Wait, api.Put{At: i, B: b})
	if w.Arm > 0 {
		w.Arm--
		w.Down = w.Arm == 0
	}
	return w, !w.Down
}

// Flush lets all that waits last.
func Flush(d api.Disk) (api.Disk, bool) {
	if d.Down {
		return twin(d), false
	}
	return api.Disk{Last: lasting(d.Last, d.Wait...), Arm: d.Arm}, true
}

// Crash tells the disk once it has power again: of what waited, that lasts which keep says.
func Crash(d api.Disk, keep ...bool) api.Disk {
	return api.Disk{Last: lasting(d.Last, kept(d.Wait, keep...)...)}
}

func has(last []string, i int) bool {
	return i >= 0 && i < len(last)
}

// twin is d in memory of its own: callers go on with disks side by side, and none may see another's writes.
func twin(d api.Disk) api.Disk {
	d.Last = slices.Clone(d.Last)
	d.Wait = slices.Clone(d.Wait)
	return d
}

// kept is those of wait that keep says yes to; what keep is too short for is not.
func kept(wait []api.Put, keep ...bool) []api.Put {
	var l []api.Put
	for k := range min(len(wait), len(keep)) {
		if keep[k] {
			l = append(l, wait[k])
		}
	}
	return l
}

// lasting is last with each put done to it, in order. A put at no block can come only from a disk that Write did not make: it is passed by, as no call may panic.
func lasting(last []string, puts ...api.Put) []string {
	out := slices.Clone(last)
	for _, p := range puts {
		if has(out, p.At) {
			out[p.At] = p.B
		}
	}
	return out
}
