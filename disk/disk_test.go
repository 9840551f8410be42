package disk_test

import (
	"fmt"
	"math"
	"slices"
	"strings"
	"testing"

	"pannier/api"
	"pannier/disk"
)

func newDisk(t *testing.T, size int) *disk.Disk {
	t.Helper()
	d, err := disk.New(size)
	if d == nil || err != api.OK {
		t.Fatalf("New(%d): %v, %d", size, d, err)
	}
	return d
}

func want(t *testing.T, what string, err, wanted api.Errno) {
	t.Helper()
	if err != wanted {
		t.Errorf("%s: %d, not %d", what, err, wanted)
	}
}

func wantFiles(t *testing.T, d *disk.Disk, files ...api.File) {
	t.Helper()
	if l := d.Files(); !slices.Equal(l, files) {
		t.Errorf("files: %v, not %v", l, files)
	}
}

// put makes a file with sure and unsure bytes.
func put(t *testing.T, d *disk.Disk, name, sure, unsure string) {
	t.Helper()
	want(t, "Append", d.Append(name, []byte(sure)), api.OK)
	want(t, "Sync", d.Sync(name), api.OK)
	want(t, "Append", d.Append(name, []byte(unsure)), api.OK)
}

// badNames are names that no file may have.
func badNames() []string {
	return []string{
		"", "A", "aB", "a_b", "a.b", "a b", "a/b", " a", "a\n", "a\x00", "\u00e4", "\xff", "`", "{", ":", "/", ",", ".",
		strings.Repeat("a", 33),
	}
}

func TestNew(t *testing.T) {
	for _, size := range []int{-1, 1<<28 + 1, math.MinInt, math.MaxInt} {
		if d, err := disk.New(size); d != nil || err != api.ErrArg {
			t.Errorf("New(%d): %v, %d", size, d, err)
		}
	}
	for _, size := range []int{0, 1, 1 << 28} {
		d := newDisk(t, size)
		if d.Left() != size || d.Off() {
			t.Errorf("New(%d): %d left, off: %v", size, d.Left(), d.Off())
		}
		wantFiles(t, d)
	}
}

func TestAppend(t *testing.T) {
	d := newDisk(t, 10)
	want(t, "Append", d.Append("a", []byte("xy")), api.OK)
	wantFiles(t, d, api.File{Name: "a", Bytes: "xy"})
	want(t, "Sync", d.Sync("a"), api.OK)
	want(t, "Append", d.Append("a", []byte("z")), api.OK)
	wantFiles(t, d, api.File{Name: "a", Bytes: "xyz", Synced: 2})
	want(t, "Append of nothing", d.Append("empty", nil), api.OK)
	want(t, "Append of nothing", d.Append("a", []byte{}), api.OK)
	wantFiles(t, d, api.File{Name: "a", Bytes: "xyz", Synced: 2}, api.File{Name: "empty"})
}

func TestAppendNames(t *testing.T) {
	d := newDisk(t, 1000)
	names := []string{"a", "z", "0", "9", "-", "log-1", strings.Repeat("z", 32)}
	for _, name := range names {
		want(t, "Append to "+name, d.Append(name, []byte("x")), api.OK)
		want(t, "Rename of "+name, d.Rename(name, "other"), api.OK)
		want(t, "Rename to "+name, d.Rename("other", name), api.OK)
	}
	was := d.Files()
	for _, name := range badNames() {
		want(t, fmt.Sprintf("Append to %q", name), d.Append(name, []byte("x")), api.ErrFile)
		want(t, fmt.Sprintf("Append of too much to %q", name), d.Append(name, make([]byte, 2000)), api.ErrFile)
		want(t, fmt.Sprintf("Rename to %q", name), d.Rename("a", name), api.ErrFile)
		want(t, fmt.Sprintf("Rename of none to %q", name), d.Rename("none", name), api.ErrFile)
		want(t, fmt.Sprintf("Rename of %q", name), d.Rename(name, "a"), api.ErrNone)
		want(t, fmt.Sprintf("Sync of %q", name), d.Sync(name), api.ErrNone)
		want(t, fmt.Sprintf("Cut of %q", name), d.Cut(name, -1), api.ErrNone)
		want(t, fmt.Sprintf("Remove of %q", name), d.Remove(name), api.ErrNone)
		if s, err := d.Read(name); s != "" || err != api.ErrNone {
			t.Errorf("Read of %q: %q, %d", name, s, err)
		}
	}
	wantFiles(t, d, was...)
}

func TestRoom(t *testing.T) {
	d := newDisk(t, 5)
	want(t, "Append", d.Append("a", []byte("123")), api.OK)
	want(t, "one byte too many", d.Append("a", []byte("456")), api.ErrFull)
	want(t, "one byte too many, of a new file", d.Append("b", []byte("456")), api.ErrFull)
	wantFiles(t, d, api.File{Name: "a", Bytes: "123"})
	want(t, "just as many", d.Append("b", []byte("45")), api.OK)
	if d.Left() != 0 {
		t.Errorf("%d left", d.Left())
	}
	want(t, "Append to a full disk", d.Append("b", []byte("6")), api.ErrFull)
	want(t, "Append of nothing to a full disk", d.Append("c", nil), api.OK)
	want(t, "Rename", d.Rename("b", "c"), api.OK)
	want(t, "Append to a full disk", d.Append("c", []byte("6")), api.ErrFull)
	want(t, "Cut", d.Cut("a", 2), api.OK)
	if d.Left() != 1 {
		t.Errorf("%d left behind a Cut", d.Left())
	}
	want(t, "Rename", d.Rename("c", "a"), api.OK)
	if d.Left() != 3 {
		t.Errorf("%d left behind a Rename to another file", d.Left())
	}
	want(t, "Append", d.Append("a", []byte("678")), api.OK)
	want(t, "Crash", d.Crash(nil), api.OK)
	if d.Left() != 5 {
		t.Errorf("%d left behind a Crash", d.Left())
	}
	want(t, "Append", d.Append("a", []byte("12345")), api.OK)
	want(t, "Remove", d.Remove("a"), api.OK)
	if d.Left() != 5 {
		t.Errorf("%d left behind a Remove", d.Left())
	}
}

func TestGreatestDisk(t *testing.T) {
	d := newDisk(t, api.MaxDisk)
	part := make([]byte, 1<<26)
	for i := range 4 {
		want(t, "Append", d.Append(fmt.Sprint("part-", i), part), api.OK)
	}
	want(t, "Append to a full disk", d.Append("part-0", part[:1]), api.ErrFull)
	if d.Left() != 0 {
		t.Errorf("%d left", d.Left())
	}
}

func TestMostFiles(t *testing.T) {
	d := newDisk(t, 1000)
	for i := range 64 {
		want(t, "Append", d.Append(fmt.Sprint("f-", i), []byte("x")), api.OK)
	}
	want(t, "a file too many", d.Append("more", []byte("x")), api.ErrFull)
	want(t, "an empty file too many", d.Append("more", nil), api.ErrFull)
	want(t, "Append to one of 64", d.Append("f-63", []byte("x")), api.OK)
	want(t, "Rename of one of 64", d.Rename("f-63", "more"), api.OK)
	want(t, "a file too many", d.Append("f-63", nil), api.ErrFull)
	if l := d.Files(); len(l) != 64 || d.Left() != 935 {
		t.Errorf("%d files, %d left", len(l), d.Left())
	}
	want(t, "Remove", d.Remove("f-0"), api.OK)
	want(t, "Append", d.Append("f-63", nil), api.OK)
	want(t, "Rename to another", d.Rename("f-1", "f-2"), api.OK)
	want(t, "Append", d.Append("f-1", nil), api.OK)
	want(t, "a file too many", d.Append("f-0", nil), api.ErrFull)
}

func TestSyncAndRead(t *testing.T) {
	d := newDisk(t, 100)
	want(t, "Sync of none", d.Sync("a"), api.ErrNone)
	if s, err := d.Read("a"); s != "" || err != api.ErrNone {
		t.Errorf("Read of none: %q, %d", s, err)
	}
	put(t, d, "a", "1\x00\xff", "")
	put(t, d, "b", "", "45")
	if s, err := d.Read("a"); s != "1\x00\xff" || err != api.OK {
		t.Errorf("Read: %q, %d", s, err)
	}
	want(t, "Sync", d.Sync("a"), api.OK)
	want(t, "Append", d.Append("a", []byte("6")), api.OK)
	wantFiles(t, d, api.File{Name: "a", Bytes: "1\x00\xff6", Synced: 3}, api.File{Name: "b", Bytes: "45"})
	want(t, "Sync", d.Sync("a"), api.OK)
	wantFiles(t, d, api.File{Name: "a", Bytes: "1\x00\xff6", Synced: 4}, api.File{Name: "b", Bytes: "45"})
}

func TestCut(t *testing.T) {
	d := newDisk(t, 100)
	want(t, "Cut of none", d.Cut("a", 0), api.ErrNone)
	want(t, "Cut of none", d.Cut("a", -1), api.ErrNone)
	put(t, d, "a", "123", "456")
	put(t, d, "b", "78", "9")
	b := api.File{Name: "b", Bytes: "78", Synced: 2}
	want(t, "Cut", d.Cut("b", 2), api.OK)
	for _, size := range []int{-1, 7, math.MinInt, math.MaxInt} {
		want(t, fmt.Sprint("Cut at ", size), d.Cut("a", size), api.ErrArg)
	}
	wantFiles(t, d, api.File{Name: "a", Bytes: "123456", Synced: 3}, b)
	want(t, "Cut at the end", d.Fork().Cut("a", 6), api.OK)
	for size := 6; size >= 0; size-- {
		e := d.Fork()
		want(t, fmt.Sprint("Cut at ", size), e.Cut("a", size), api.OK)
		wantFiles(t, e, api.File{Name: "a", Bytes: "123456"[:size], Synced: size}, b)
		want(t, "Append", e.Append("a", []byte("xy")), api.OK)
		wantFiles(t, e, api.File{Name: "a", Bytes: "123456"[:size] + "xy", Synced: size}, b)
	}
}

func TestRename(t *testing.T) {
	d := newDisk(t, 100)
	want(t, "Rename of none", d.Rename("a", "b"), api.ErrNone)
	want(t, "Rename of none to itself", d.Rename("a", "a"), api.ErrNone)
	put(t, d, "a", "123", "45")
	want(t, "Rename", d.Rename("a", "b"), api.OK)
	b := api.File{Name: "b", Bytes: "12345", Synced: 3}
	wantFiles(t, d, b)
	if s, err := d.Read("a"); s != "" || err != api.ErrNone {
		t.Errorf("Read of the name ahead: %q, %d", s, err)
	}
	want(t, "Rename to itself", d.Rename("b", "b"), api.OK)
	wantFiles(t, d, b)
	put(t, d, "c", "6789", "")
	want(t, "Rename of none", d.Rename("a", "c"), api.ErrNone)
	wantFiles(t, d, b, api.File{Name: "c", Bytes: "6789", Synced: 4})
	want(t, "Rename to another", d.Rename("b", "c"), api.OK)
	wantFiles(t, d, api.File{Name: "c", Bytes: "12345", Synced: 3})
	want(t, "Crash", d.Crash(nil), api.OK)
	wantFiles(t, d, api.File{Name: "c", Bytes: "123", Synced: 3})
}

func TestRemove(t *testing.T) {
	d := newDisk(t, 100)
	want(t, "Remove of none", d.Remove("a"), api.ErrNone)
	put(t, d, "a", "123", "45")
	put(t, d, "b", "6", "")
	want(t, "Remove", d.Remove("a"), api.OK)
	wantFiles(t, d, api.File{Name: "b", Bytes: "6", Synced: 1})
	want(t, "Remove again", d.Remove("a"), api.ErrNone)
	want(t, "Append", d.Append("a", []byte("7")), api.OK)
	wantFiles(t, d, api.File{Name: "a", Bytes: "7"}, api.File{Name: "b", Bytes: "6", Synced: 1})
}

func TestFilesRise(t *testing.T) {
	d := newDisk(t, 1000)
	names := []string{"b", "a", "z-9", "-", "0", "a-", "a0", "aa", "9", "z", "log-10", "log-9", "log", "a-a"}
	for _, name := range names {
		want(t, "Append", d.Append(name, []byte(name)), api.OK)
	}
	slices.Sort(names)
	for range 20 {
		l := d.Files()
		if len(l) != len(names) {
			t.Fatalf("%d files", len(l))
		}
		for i, name := range names {
			if l[i] != (api.File{Name: name, Bytes: name}) {
				t.Fatalf("file %d: %v, not %s", i, l[i], name)
			}
		}
	}
}

// What is handed in is not kept; what is answered is nobody else's.
func TestMemoryIsNotShared(t *testing.T) {
	d := newDisk(t, 100)
	whole := []byte("abcdef")
	want(t, "Append", d.Append("a", whole[:3]), api.OK)
	want(t, "Append", d.Append("a", []byte("x")), api.OK)
	if string(whole) != "abcdef" {
		t.Errorf("Append changed its argument: %q", whole)
	}
	clear(whole)
	s, _ := d.Read("a")
	l := d.Files()
	want(t, "Cut", d.Cut("a", 0), api.OK)
	want(t, "Append", d.Append("a", []byte("zzzz")), api.OK)
	if s != "abcx" || l[0].Bytes != "abcx" {
		t.Errorf("answers hang on the disk: %q, %v", s, l)
	}
	l[0] = api.File{Name: "b"}
	wantFiles(t, d, api.File{Name: "a", Bytes: "zzzz"})
}

func TestFork(t *testing.T) {
	d := newDisk(t, 20)
	put(t, d, "a", "123", "45")
	put(t, d, "b", "", "6")
	was := d.Files()
	d.Stop(5)
	e := d.Fork()
	wantFiles(t, e, was...)
	if e.Left() != 14 || e.Off() {
		t.Errorf("a Fork: %d left, off: %v", e.Left(), e.Off())
	}
	want(t, "Append", e.Append("a", []byte("x")), api.OK)
	want(t, "Sync", e.Sync("a"), api.OK)
	want(t, "Remove", e.Remove("b"), api.OK)
	want(t, "Append", e.Append("c", nil), api.OK)
	want(t, "Cut", e.Cut("a", 1), api.OK)
	if !e.Off() || d.Off() {
		t.Errorf("off behind 5 calls: %v; the other one: %v", e.Off(), d.Off())
	}
	wantFiles(t, d, was...)
	want(t, "Append", d.Append("a", []byte("yz")), api.OK)
	wantFiles(t, e, api.File{Name: "a", Bytes: "1", Synced: 1}, api.File{Name: "c"})
	f := e.Fork()
	if !f.Off() || f.Append("a", nil) != api.ErrOff {
		t.Error("a Fork of a disk that is off is on")
	}
	want(t, "Crash", f.Crash(nil), api.OK)
	if f.Off() || !e.Off() {
		t.Error("a Crash of a Fork is the other one's too")
	}
}

// Bytes that one of two disks writes are not the other one's, where they were in one place ahead.
func TestForkHasItsOwnBytes(t *testing.T) {
	d := newDisk(t, 100)
	for range 5 {
		want(t, "Append", d.Append("a", []byte("12")), api.OK)
	}
	e := d.Fork()
	want(t, "Append", d.Append("a", []byte("d")), api.OK)
	want(t, "Append", e.Append("a", []byte("e")), api.OK)
	wantFiles(t, d, api.File{Name: "a", Bytes: "1212121212d"})
	wantFiles(t, e, api.File{Name: "a", Bytes: "1212121212e"})
	f := e.Fork()
	want(t, "Cut", f.Cut("a", 2), api.OK)
	want(t, "Append", f.Append("a", []byte("fff")), api.OK)
	wantFiles(t, e, api.File{Name: "a", Bytes: "1212121212e"})
	wantFiles(t, f, api.File{Name: "a", Bytes: "12fff", Synced: 2})
}

func TestNoDisk(t *testing.T) {
	for _, d := range []*disk.Disk{nil, {}} {
		for _, name := range []string{"a", "A"} {
			want(t, "Append", d.Append(name, nil), api.ErrClosed)
			want(t, "Sync", d.Sync(name), api.ErrClosed)
			want(t, "Cut", d.Cut(name, -1), api.ErrClosed)
			want(t, "Rename", d.Rename(name, name), api.ErrClosed)
			want(t, "Remove", d.Remove(name), api.ErrClosed)
			if s, err := d.Read(name); s != "" || err != api.ErrClosed {
				t.Errorf("Read: %q, %d", s, err)
			}
		}
		want(t, "Crash", d.Crash(nil), api.ErrClosed)
		want(t, "Crash", d.Crash([]api.Torn{{Name: "a"}}), api.ErrClosed)
		for _, n := range []int{0, 1, -1} {
			d.Stop(n)
			if d.Off() {
				t.Errorf("off behind Stop(%d)", n)
			}
		}
		if d.Left() != 0 || len(d.Files()) != 0 || d.Fork() != nil {
			t.Error("no disk has something")
		}
	}
}
