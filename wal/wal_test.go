package wal_test

import (
	"fmt"
	"math"
	"slices"
	"strings"
	"testing"

	"pannier/api"
	"pannier/codec"
	"pannier/disk"
	"pannier/frame"
	"pannier/wal"
)

func newDisk(t *testing.T, size int) *disk.Disk {
	t.Helper()
	d, err := disk.New(size)
	if err != api.OK {
		t.Fatal(err)
	}
	return d
}

func open(t *testing.T, d *disk.Disk, segment int, recs ...string) *wal.Log {
	t.Helper()
	l, found, err := wal.Open(d, "log", segment)
	if l == nil || err != api.OK || !slices.Equal(found, recs) {
		t.Fatalf("Open: %v, %.200q, %d, not %.200q", l, found, err, recs)
	}
	return l
}

func want(t *testing.T, what string, err, wanted api.Errno) {
	t.Helper()
	if err != wanted {
		t.Errorf("%s: %d, not %d", what, err, wanted)
	}
}

// put appends records, which get the indices from the next one on.
func put(t *testing.T, l *wal.Log, recs ...string) {
	t.Helper()
	for _, rec := range recs {
		next := l.Next()
		if index, err := l.Append(rec); index != next || err != api.OK {
			t.Fatalf("Append(%.40q): %d, %d", rec, index, err)
		}
	}
}

func refused(t *testing.T, l *wal.Log, rec string, wanted api.Errno) {
	t.Helper()
	if index, err := l.Append(rec); index != 0 || err != wanted {
		t.Errorf("Append(%.40q): %d, %d, not %d", rec, index, err, wanted)
	}
}

func wantLog(t *testing.T, l *wal.Log, first, next, sure int, segments ...int) {
	t.Helper()
	if l.First() != first || l.Next() != next || l.Sure() != sure || !slices.Equal(l.Segments(), segments) {
		t.Errorf("first %d, next %d, sure %d, segments %v, not %d, %d, %d, %v", l.First(), l.Next(), l.Sure(), l.Segments(), first, next, sure, segments)
	}
}

// frames are payloads as a file's bytes.
func frames(payloads ...string) string {
	var b []byte
	for _, p := range payloads {
		b, _ = frame.Put(b, p)
	}
	return string(b)
}

// segment is a segment's bytes.
func segment(base int, recs ...string) string {
	return frames(slices.Insert(slices.Clone(recs), 0, string(codec.Uint(nil, uint64(base))))...)
}

// file puts a file on the disk, all of it sure.
func file(t *testing.T, d *disk.Disk, name, bytes string) {
	t.Helper()
	want(t, "Append", d.Append(name, []byte(bytes)), api.OK)
	want(t, "Sync", d.Sync(name), api.OK)
}

// sure is a file that has just these bytes, all sure.
func sure(name, bytes string) api.File {
	return api.File{Name: name, Bytes: bytes, Synced: len(bytes)}
}

func wantFiles(t *testing.T, d *disk.Disk, files ...api.File) {
	t.Helper()
	if l := d.Files(); !slices.Equal(l, files) {
		t.Errorf("files: %v, not %v", l, files)
	}
}

func TestOpenArguments(t *testing.T) {
	d := newDisk(t, 100)
	opens := []struct {
		d       *disk.Disk
		name    string
		segment int
	}{
		{nil, "log", 10}, {d, "", 10}, {d, "Log", 10}, {d, "l_g", 10}, {d, "l g", 10}, {d, "\xff", 10},
		{d, strings.Repeat("a", 17), 10}, {d, strings.Repeat("a", 33), 10},
		{d, "log", 0}, {d, "log", -1}, {d, "log", 1<<20 + 1}, {d, "log", math.MaxInt}, {d, "log", math.MinInt},
	}
	for _, o := range opens {
		if l, recs, err := wal.Open(o.d, o.name, o.segment); l != nil || recs != nil || err != api.ErrArg {
			t.Errorf("Open(%v, %q, %d): %v, %q, %d", o.d, o.name, o.segment, l, recs, err)
		}
	}
	for _, name := range []string{"a", "-", "9", "a-1", strings.Repeat("z", 16)} {
		for _, segment := range []int{1, 2, 1 << 20} {
			l, recs, err := wal.Open(newDisk(t, 100), name, segment)
			if l == nil || len(recs) != 0 || err != api.OK {
				t.Fatalf("Open(%q, %d): %v, %q, %d", name, segment, l, recs, err)
			}
			wantLog(t, l, 0, 0, 0)
			put(t, l, "x", "y")
			want(t, "Sync", l.Sync(), api.OK)
		}
	}
	wantFiles(t, d)
}

func TestAppend(t *testing.T) {
	d := newDisk(t, 1000)
	l := open(t, d, 1000)
	put(t, l, "one", "", "three")
	wantLog(t, l, 0, 3, 0, 1)
	wantFiles(t, d, api.File{Name: "log-1", Bytes: segment(0, "one", "", "three")})
	want(t, "Sync", l.Sync(), api.OK)
	wantLog(t, l, 0, 3, 3, 1)
	put(t, l, "four")
	wantLog(t, l, 0, 4, 3, 1)
	synced := len(segment(0, "one", "", "three"))
	wantFiles(t, d, api.File{Name: "log-1", Bytes: segment(0, "one", "", "three", "four"), Synced: synced})
	wantLog(t, open(t, d, 1000, "one", "", "three", "four"), 0, 4, 4, 1)
	wantFiles(t, d, sure("log-1", segment(0, "one", "", "three", "four")))
}

// A segment is full from so many bytes on: the record behind begins the next one.
func TestFullSegments(t *testing.T) {
	one := segment(0, "abc")
	for limit, segments := range map[int]int{1: 2, len(one) - 1: 2, len(one): 2, len(one) + 1: 1} {
		d := newDisk(t, 1000)
		l := open(t, d, limit)
		put(t, l, "abc")
		wantLog(t, l, 0, 1, 0, 1)
		put(t, l, "d")
		if segments == 1 {
			wantLog(t, l, 0, 2, 0, 1)
			wantFiles(t, d, api.File{Name: "log-1", Bytes: segment(0, "abc", "d")})
		} else {
			wantLog(t, l, 0, 2, 1, 1, 2)
			wantFiles(t, d, sure("log-1", one), api.File{Name: "log-2", Bytes: segment(1, "d")})
		}
		open(t, d, 1, "abc", "d")
	}
}

// A segment's size counts from its first byte on, also behind an Open, and of that Open's limit.
func TestSizeBehindOpen(t *testing.T) {
	d := newDisk(t, 1000)
	put(t, open(t, d, 40), "abc", "def") // 31 bytes
	put(t, open(t, d, 40, "abc", "def"), "ghi")
	wantFiles(t, d, api.File{Name: "log-1", Bytes: segment(0, "abc", "def", "ghi"), Synced: 31})
	put(t, open(t, d, 43, "abc", "def", "ghi"), "jkl")
	e := d.Fork()
	l := open(t, d, 53, "abc", "def", "ghi", "jkl")
	put(t, l, "x")
	wantLog(t, l, 0, 5, 4, 1, 2)
	l = open(t, e, 54, "abc", "def", "ghi", "jkl")
	put(t, l, "x")
	wantLog(t, l, 0, 5, 4, 1)
}

func TestManySegments(t *testing.T) {
	d := newDisk(t, 10000)
	l := open(t, d, 30)
	var recs []string
	for i := range 30 {
		recs = append(recs, fmt.Sprintf("a record, of 20 by%02d", i))
		put(t, l, recs[i])
		if s := l.Segments(); len(s) != i+1 || s[i] != i+1 || l.Sure() != i {
			t.Fatalf("behind %d records: %v, sure %d", i+1, s, l.Sure())
		}
	}
	l = open(t, d, 30, recs...) // log-10 stands behind log-9, not behind log-1
	put(t, l, "more")
	if s := l.Segments(); len(s) != 31 || s[30] != 31 || l.Next() != 31 {
		t.Errorf("behind an Open: %v", s)
	}
}

func TestAppendRefused(t *testing.T) {
	d := newDisk(t, 1<<18)
	l := open(t, d, 10)
	most := strings.Repeat("m", 65536)
	refused(t, l, most+"m", api.ErrFrame)
	wantLog(t, l, 0, 0, 0)
	wantFiles(t, d)
	put(t, l, most)
	refused(t, l, most+"m", api.ErrFrame)
	wantLog(t, l, 0, 1, 0, 1)
	open(t, d, 10, most)

	d = newDisk(t, 1<<18)
	file(t, d, "log-7", segment(math.MaxInt32-1))
	l = open(t, d, 1000)
	wantLog(t, l, math.MaxInt32-1, math.MaxInt32-1, math.MaxInt32-1, 7)
	put(t, l, "the last one")
	wantLog(t, l, math.MaxInt32-1, math.MaxInt32, math.MaxInt32-1, 7)
	d.Stop(0)
	refused(t, l, "one more", api.ErrLong)
	refused(t, l, most+"m", api.ErrFrame)
	wantLog(t, l, math.MaxInt32-1, math.MaxInt32, math.MaxInt32-1, 7)
	want(t, "Crash", d.Crash([]api.Torn{{Name: "log-7", Bytes: 20}}), api.OK)
	l = open(t, d, 1000, "the last one")
	wantLog(t, l, math.MaxInt32-1, math.MaxInt32, math.MaxInt32, 7)
	refused(t, l, "", api.ErrLong)

	d = newDisk(t, 1000)
	file(t, d, "log-7", segment(math.MaxInt32))
	l = open(t, d, 1)
	wantLog(t, l, math.MaxInt32, math.MaxInt32, math.MaxInt32, 7)
	refused(t, l, "", api.ErrLong)
	wantFiles(t, d, sure("log-7", segment(math.MaxInt32)))
}

// Numbers go up to where names, or numbers, end.
func TestLastNumbers(t *testing.T) {
	d := newDisk(t, 1000)
	name := strings.Repeat("z", 16)
	file(t, d, name+"-999999999999999", segment(3, "x"))
	was := d.Files()
	l, recs, err := wal.Open(d, name, 1)
	if err != api.OK || len(recs) != 1 {
		t.Fatal(recs, err)
	}
	refused(t, l, "y", api.ErrFile)
	wantLog(t, l, 3, 4, 4, 999999999999999)
	wantFiles(t, d, was...)

	d = newDisk(t, 1000)
	file(t, d, "log-9223372036854775807", segment(3, "x"))
	l = open(t, d, 1, "x")
	refused(t, l, "y", api.ErrLong)
	wantLog(t, l, 3, 4, 4, math.MaxInt)
	file(t, d, "log-9223372036854775808", segment(4, "x"))
	wantWal(t, d)
	want(t, "Remove", d.Remove("log-9223372036854775807"), api.OK)
	wantWal(t, d)
}

func TestSync(t *testing.T) {
	d := newDisk(t, 1000)
	l := open(t, d, 30)
	d.Stop(0)
	want(t, "Sync of nothing", l.Sync(), api.OK)
	refused(t, l, "x", api.ErrOff)
	wantLog(t, l, 0, 0, 0)
	want(t, "Crash", d.Crash(nil), api.OK)
	put(t, l, "x")
	d.Stop(0)
	want(t, "Sync of a disk that is off", l.Sync(), api.ErrOff)
	wantLog(t, l, 0, 1, 0, 1)
	want(t, "Crash", d.Crash([]api.Torn{{Name: "log-1", Bytes: 18}}), api.OK)
	l = open(t, d, 30, "x")
	d.Stop(0)
	want(t, "Sync of what is sure, off", l.Sync(), api.ErrOff)
	wantLog(t, l, 0, 1, 1, 1)
}

func TestFirstNextSure(t *testing.T) {
	d := newDisk(t, 1000)
	file(t, d, "log-4", segment(5))
	wantLog(t, open(t, d, 30), 5, 5, 5, 4)
	l := open(t, d, 9)
	put(t, l, "x")
	wantLog(t, l, 5, 6, 5, 4, 5)
	wantFiles(t, d, sure("log-4", segment(5)), api.File{Name: "log-5", Bytes: segment(5, "x")})
	wantLog(t, open(t, d, 9, "x"), 5, 6, 6, 4, 5)
}

func TestSegmentsAreNewMemory(t *testing.T) {
	d := newDisk(t, 1000)
	l := open(t, d, 1)
	put(t, l, "a", "b", "c")
	s := l.Segments()
	s[0] = 9
	_ = append(s[:1], 7)
	wantLog(t, l, 0, 3, 2, 1, 2, 3)
	s = l.Segments()
	_ = append(s, 4)
	put(t, l, "d")
	want(t, "Drop", l.Drop(2), api.OK)
	if !slices.Equal(s, []int{1, 2, 3}) {
		t.Errorf("an answer hangs on the log: %v", s)
	}
	_, recs, _ := wal.Open(d, "log", 1)
	l, again, _ := wal.Open(d, "log", 1)
	recs[0] = "z"
	if !slices.Equal(again, []string{"c", "d"}) {
		t.Errorf("answers share memory: %q", again)
	}
	wantLog(t, l, 2, 4, 4, 3, 4)
}

func TestNil(t *testing.T) {
	for _, l := range []*wal.Log{nil, {}} {
		refused(t, l, "x", api.ErrClosed)
		refused(t, l, strings.Repeat("x", 65537), api.ErrClosed)
		want(t, "Sync", l.Sync(), api.ErrClosed)
		want(t, "Drop", l.Drop(1), api.ErrClosed)
		wantLog(t, l, 0, 0, 0)
	}
}
