package disk_test

import (
	"fmt"
	"math"
	"slices"
	"testing"

	"pannier/api"
	"pannier/disk"
)

// change is a call that a disk which is off refuses.
type change struct {
	name string
	do   func(d *disk.Disk) api.Errno
}

// twoFiles answers a disk of 20 bytes with the files a (3 sure bytes and 2) and b (1 unsure one).
func twoFiles(t *testing.T) *disk.Disk {
	t.Helper()
	d := newDisk(t, 20)
	put(t, d, "a", "123", "45")
	put(t, d, "b", "", "6")
	return d
}

// goodChanges are OK on twoFiles, on which refusedChanges are told an error.
func goodChanges() []change {
	return []change{
		{"Append", func(d *disk.Disk) api.Errno { return d.Append("a", []byte("x")) }},
		{"Append of nothing", func(d *disk.Disk) api.Errno { return d.Append("a", nil) }},
		{"Append to a new file", func(d *disk.Disk) api.Errno { return d.Append("c", nil) }},
		{"Sync", func(d *disk.Disk) api.Errno { return d.Sync("a") }},
		{"Cut", func(d *disk.Disk) api.Errno { return d.Cut("a", 1) }},
		{"Cut at the end", func(d *disk.Disk) api.Errno { return d.Cut("b", 1) }},
		{"Rename", func(d *disk.Disk) api.Errno { return d.Rename("a", "c") }},
		{"Rename to another", func(d *disk.Disk) api.Errno { return d.Rename("a", "b") }},
		{"Rename to itself", func(d *disk.Disk) api.Errno { return d.Rename("a", "a") }},
		{"Remove", func(d *disk.Disk) api.Errno { return d.Remove("a") }},
	}
}

func refusedChanges() []change {
	return []change{
		{"Append of too much", func(d *disk.Disk) api.Errno { return d.Append("a", make([]byte, 21)) }},
		{"Sync of none", func(d *disk.Disk) api.Errno { return d.Sync("none") }},
		{"Sync of a bad name", func(d *disk.Disk) api.Errno { return d.Sync("A") }},
		{"Cut of none", func(d *disk.Disk) api.Errno { return d.Cut("none", 0) }},
		{"Cut beyond the end", func(d *disk.Disk) api.Errno { return d.Cut("a", 6) }},
		{"Rename of none", func(d *disk.Disk) api.Errno { return d.Rename("none", "a") }},
		{"Rename of a bad name", func(d *disk.Disk) api.Errno { return d.Rename("A", "a") }},
		{"Remove of none", func(d *disk.Disk) api.Errno { return d.Remove("none") }},
	}
}

func TestStopCountsWhatIsOK(t *testing.T) {
	for _, c := range goodChanges() {
		d := twoFiles(t)
		d.Stop(2)
		for _, r := range refusedChanges() {
			if err := r.do(d); err == api.OK || err == api.ErrOff || d.Off() {
				t.Errorf("%s: %d", r.name, err)
			}
		}
		want(t, "Append to a bad name", d.Append("A", nil), api.ErrFile)
		d.Read("a")
		d.Files()
		d.Left()
		d.Fork()
		want(t, "Crash", d.Crash([]api.Torn{{Name: "none"}}), api.ErrArg)
		want(t, c.name, c.do(d), api.OK)
		if d.Off() {
			t.Errorf("%s: off behind one call", c.name)
		}
		want(t, "Sync", d.Sync("b"), api.OK)
		if !d.Off() {
			t.Errorf("%s: not off behind two calls", c.name)
		}
		want(t, "Sync", d.Sync("b"), api.ErrOff)
	}
}

func TestOff(t *testing.T) {
	for _, c := range slices.Concat(goodChanges(), refusedChanges()) {
		d := twoFiles(t)
		was := d.Files()
		d.Stop(0)
		if !d.Off() {
			t.Fatal("not off behind Stop(0)")
		}
		for range 3 {
			want(t, c.name, c.do(d), api.ErrOff)
		}
		for _, name := range badNames() {
			want(t, fmt.Sprintf("Append to %q", name), d.Append(name, nil), api.ErrFile)
			want(t, fmt.Sprintf("Rename to %q", name), d.Rename("none", name), api.ErrFile)
		}
		wantFiles(t, d, was...)
		if s, err := d.Read("a"); s != "12345" || err != api.OK {
			t.Errorf("Read: %q, %d", s, err)
		}
		if _, err := d.Read("none"); err != api.ErrNone || d.Left() != 14 || !d.Off() {
			t.Errorf("Read of none: %d; %d left", err, d.Left())
		}
	}
}

func TestStopAgain(t *testing.T) {
	for _, n := range []int{-1, 0, 1, 5, math.MinInt, math.MaxInt} {
		d := twoFiles(t)
		d.Stop(0)
		d.Stop(n)
		if !d.Off() || d.Sync("a") != api.ErrOff {
			t.Errorf("on behind Stop(%d)", n)
		}
	}
	for _, n := range []int{-1, -2, math.MinInt, math.MaxInt} {
		d := twoFiles(t)
		d.Stop(2)
		want(t, "Sync", d.Sync("a"), api.OK)
		d.Stop(n)
		for range 1000 {
			want(t, "Sync", d.Sync("a"), api.OK)
		}
	}
	d := twoFiles(t)
	d.Stop(1)
	d.Stop(3)
	for i := range 3 {
		want(t, fmt.Sprint("Sync ", i), d.Sync("a"), api.OK)
	}
	want(t, "Sync", d.Sync("a"), api.ErrOff)
}

func TestCrashExample(t *testing.T) {
	d := newDisk(t, 10)
	put(t, d, "a", "xy", "z")
	want(t, "Crash", d.Crash(nil), api.OK)
	if s, err := d.Read("a"); s != "xy" || err != api.OK {
		t.Errorf("Read: %q, %d", s, err)
	}
}

func TestCrashKeeps(t *testing.T) {
	for a := range 3 {
		for b := range 2 {
			d := twoFiles(t)
			want(t, "Crash", d.Crash([]api.Torn{{Name: "b", Bytes: b}, {Name: "a", Bytes: a}}), api.OK)
			wantFiles(t, d, api.File{Name: "a", Bytes: "12345"[:3+a], Synced: 3 + a}, api.File{Name: "b", Bytes: "6"[:b], Synced: b})
			want(t, "Append", d.Append("a", []byte("x")), api.OK)
			want(t, "Crash", d.Crash([]api.Torn{{Name: "a", Bytes: 1}}), api.OK)
			wantFiles(t, d, api.File{Name: "a", Bytes: "12345"[:3+a] + "x", Synced: 4 + a}, api.File{Name: "b", Bytes: "6"[:b], Synced: b})
			want(t, "Crash of sure bytes", d.Crash([]api.Torn{{Name: "a", Bytes: 0}}), api.OK)
			want(t, "Crash of no unsure bytes", d.Crash([]api.Torn{{Name: "a", Bytes: 1}}), api.ErrArg)
		}
	}
	d := newDisk(t, 10)
	want(t, "Crash of an empty disk", d.Crash([]api.Torn{}), api.OK)
}

func TestCrashRefuses(t *testing.T) {
	keeps := [][]api.Torn{
		{{Name: "none"}}, {{Name: ""}}, {{Name: "A"}},
		{{Name: "a", Bytes: -1}}, {{Name: "a", Bytes: 3}}, {{Name: "b", Bytes: 2}},
		{{Name: "a", Bytes: math.MinInt}}, {{Name: "a", Bytes: math.MaxInt}},
		{{Name: "a"}, {Name: "a"}}, {{Name: "a", Bytes: 1}, {Name: "b", Bytes: 1}, {Name: "a", Bytes: 1}},
		{{Name: "a", Bytes: 1}, {Name: "none"}}, {{Name: "b", Bytes: 1}, {Name: "a", Bytes: 3}},
	}
	for _, keep := range keeps {
		for _, n := range []int{0, 1} {
			d := twoFiles(t)
			was := d.Files()
			d.Stop(n)
			want(t, fmt.Sprint("Crash ", keep), d.Crash(keep), api.ErrArg)
			wantFiles(t, d, was...)
			if d.Off() != (n == 0) {
				t.Errorf("off behind a refused Crash: %v", d.Off())
			}
			d.Sync("a")
			if !d.Off() {
				t.Error("a refused Crash took the Stop away")
			}
		}
	}
}

func TestCrashTurnsOn(t *testing.T) {
	for _, n := range []int{0, 1, 2} {
		d := twoFiles(t)
		d.Stop(n)
		want(t, "Crash", d.Crash([]api.Torn{{Name: "a", Bytes: 1}}), api.OK)
		for range 10 {
			want(t, "Append", d.Append("a", []byte("x")), api.OK)
		}
		if d.Off() {
			t.Errorf("a Stop(%d) counts behind a Crash", n)
		}
		wantFiles(t, d, api.File{Name: "a", Bytes: "1234xxxxxxxxxx", Synced: 4}, api.File{Name: "b"})
		d.Stop(1)
		want(t, "Sync", d.Sync("a"), api.OK)
		want(t, "Sync", d.Sync("a"), api.ErrOff)
	}
}
