package store_test

import (
	"fmt"
	"math"
	"slices"
	"strings"
	"testing"

	"pannier/api"
	"pannier/codec"
	"pannier/disk"
	"pannier/frame"
	"pannier/store"
	"pannier/wal"
)

func newDisk(t *testing.T, size int) *disk.Disk {
	t.Helper()
	d, err := disk.New(size)
	if err != api.OK {
		t.Fatal(err)
	}
	return d
}

// open opens the store kv, in which that snapshot and those records are.
func open(t *testing.T, d *disk.Disk, segment int, snapshot string, recs ...string) *store.Store {
	t.Helper()
	s, found, records, err := store.Open(d, "kv", segment)
	if s == nil || err != api.OK || found != snapshot || !slices.Equal(records, recs) {
		t.Fatalf("Open: %v, %.200q, %.200q, %d, not %.200q, %.200q", s, found, records, err, snapshot, recs)
	}
	return s
}

// wantNone looks whether Open refuses, and answers nothing else.
func wantNone(t *testing.T, d *disk.Disk, name string, segment int, wanted api.Errno) {
	t.Helper()
	s, snapshot, recs, err := store.Open(d, name, segment)
	if s != nil || snapshot != "" || recs != nil || err != wanted {
		t.Errorf("Open(%q, %d): %v, %q, %q, %d, not %d", name, segment, s, snapshot, recs, err, wanted)
	}
}

func want(t *testing.T, what string, err, wanted api.Errno) {
	t.Helper()
	if err != wanted {
		t.Errorf("%s: %d, not %d", what, err, wanted)
	}
}

// put appends records, which get the indices from the next one on.
func put(t *testing.T, s *store.Store, recs ...string) {
	t.Helper()
	for _, rec := range recs {
		next := s.Next()
		if index, err := s.Append(rec); index != next || err != api.OK {
			t.Fatalf("Append(%.40q): %d, %d", rec, index, err)
		}
	}
}

func install(t *testing.T, s *store.Store, snapshot string) {
	t.Helper()
	if err := s.Install(snapshot); err != api.OK {
		t.Fatalf("Install(%.40q): %d", snapshot, err)
	}
}

func wantStore(t *testing.T, s *store.Store, number, index, next, sure int) {
	t.Helper()
	if n, i := s.Snap(); n != number || i != index || s.Next() != next || s.Sure() != sure {
		t.Errorf("snapshot %d, %d, next %d, sure %d, not %d, %d, %d, %d", n, i, s.Next(), s.Sure(), number, index, next, sure)
	}
}

// frames are payloads as a file's bytes.
func frames(payloads ...string) string {
	var b []byte
	for _, p := range payloads {
		b, _ = frame.Put(b, p)
	}
	return string(b)
}

// segment is a segment's bytes.
func segment(base int, recs ...string) string {
	return frames(slices.Insert(slices.Clone(recs), 0, numbers(uint64(base)))...)
}

// numbers are a payload of numbers.
func numbers(xs ...uint64) string {
	var b []byte
	for _, x := range xs {
		b = codec.Uint(b, x)
	}
	return string(b)
}

// manifest is a manifest's bytes.
func manifest(number, index int) string {
	return frames(numbers(uint64(number), uint64(index)))
}

// file puts a file on the disk, all of it sure.
func file(t *testing.T, d *disk.Disk, name, bytes string) {
	t.Helper()
	want(t, "Append", d.Append(name, []byte(bytes)), api.OK)
	want(t, "Sync", d.Sync(name), api.OK)
}

// sure is a file that has just these bytes, all sure.
func sure(name, bytes string) api.File {
	return api.File{Name: name, Bytes: bytes, Synced: len(bytes)}
}

func wantFiles(t *testing.T, what string, d *disk.Disk, files ...api.File) {
	t.Helper()
	if l := d.Files(); !slices.Equal(l, files) {
		t.Errorf("%s: files %q, not %q", what, fmt.Sprint(l), fmt.Sprint(files))
	}
}

func TestOpenArguments(t *testing.T) {
	d := newDisk(t, 100)
	file(t, d, "kv-man", "x") // what is there does not matter yet
	d.Stop(0)
	opens := []struct {
		d       *disk.Disk
		name    string
		segment int
	}{
		{nil, "kv", 10}, {d, "", 10}, {d, "KV", 10}, {d, "k_v", 10}, {d, "k v", 10}, {d, "k/v", 10}, {d, "\xff", 10}, {d, "kv\x00", 10},
		{d, "abcdefghi", 10}, {d, strings.Repeat("a", 33), 10},
		{d, "kv", 0}, {d, "kv", -1}, {d, "kv", 1<<20 + 1}, {d, "kv", math.MaxInt}, {d, "kv", math.MinInt},
	}
	for _, o := range opens {
		wantNone(t, o.d, o.name, o.segment, api.ErrArg)
	}
	for _, name := range []string{"a", "-", "0", "a-9", "abcdefgh", "--------"} {
		for _, segment := range []int{1, 50, 1 << 20} {
			d := newDisk(t, 1000)
			s, snapshot, recs, err := store.Open(d, name, segment)
			if s == nil || snapshot != "" || len(recs) != 0 || err != api.OK {
				t.Fatalf("Open(%q, %d): %q, %q, %d", name, segment, snapshot, recs, err)
			}
			put(t, s, "rec")
			install(t, s, "snap")
			wantFiles(t, name, d, sure(name+"-log-1", segment1("rec")), sure(name+"-man", manifest(1, 1)), sure(name+"-snap-1", frames("snap")))
		}
	}
}

// A disk that no call made has nothing, and takes nothing.
func TestOpenOnAClosedDisk(t *testing.T) {
	wantNone(t, new(disk.Disk), "kv", 50, api.ErrClosed)
}

// segment1 is the bytes of a log's first segment.
func segment1(recs ...string) string {
	return segment(0, recs...)
}

// Append, Sync, Next and Sure are the log's.
func TestRecords(t *testing.T) {
	d, e := newDisk(t, 150), newDisk(t, 150)
	s := open(t, d, 30, "")
	l, _, err := wal.Open(e, "kv-log", 30)
	want(t, "Open", err, api.OK)
	same := func(what string) {
		t.Helper()
		if s.Next() != l.Next() || s.Sure() != l.Sure() || !slices.Equal(d.Files(), e.Files()) {
			t.Errorf("%s: next %d, sure %d, files %v", what, s.Next(), s.Sure(), d.Files())
		}
	}
	for i, rec := range []string{"a", "", "ccc", strings.Repeat("d", 40), strings.Repeat("x", 1<<16+1), "e", strings.Repeat("f", 100), "g", "h", "i"} {
		at, err := s.Append(rec)
		wantedAt, wanted := l.Append(rec)
		if at != wantedAt || err != wanted {
			t.Errorf("Append(%.10q): %d, %d, not %d, %d", rec, at, err, wantedAt, wanted)
		}
		same("Append")
		if i%3 == 2 {
			want(t, "Sync", s.Sync(), l.Sync())
			same("Sync")
		}
	}
	d.Stop(0)
	e.Stop(0)
	want(t, "Sync, off", s.Sync(), api.ErrOff)
	_, err = s.Append("j")
	want(t, "Append, off", err, api.ErrOff)
	if s.Next() == 0 || s.Sure() == 0 || s.Sure() == s.Next() {
		t.Error("next, sure:", s.Next(), s.Sure())
	}
}

func TestExample(t *testing.T) {
	d := newDisk(t, 1000)
	s := open(t, d, 1000, "")
	wantStore(t, s, 0, 0, 0, 0)
	put(t, s, "a", "b")
	wantStore(t, s, 0, 0, 2, 0)
	install(t, s, "ab")
	wantStore(t, s, 1, 2, 2, 2)
	put(t, s, "c")
	want(t, "Sync", s.Sync(), api.OK)
	wantStore(t, s, 1, 2, 3, 3)
	put(t, s, "d")
	want(t, "Crash", d.Crash(nil), api.OK)
	s = open(t, d, 1000, "ab", "c")
	wantStore(t, s, 1, 2, 3, 3)
	install(t, s, "abc")
	wantStore(t, s, 2, 3, 3, 3)
	s = open(t, d, 1000, "abc")
	wantStore(t, s, 2, 3, 3, 3)
	wantFiles(t, "at the end", d, sure("kv-log-1", segment1("a", "b", "c")), sure("kv-man", manifest(2, 3)), sure("kv-snap-2", frames("abc")))
}

// What a snapshot says is nobody's business but its reader's.
func TestAnySnapshot(t *testing.T) {
	for _, snapshot := range []string{"", "\x00", frames("a", "b"), "\xff\xfe", strings.Repeat("s", 1<<16)} {
		d := newDisk(t, 1<<20)
		s := open(t, d, 100, "")
		put(t, s, "a", "b")
		install(t, s, snapshot)
		put(t, s, "c")
		wantStore(t, s, 1, 2, 3, 2)
		s = open(t, d, 100, snapshot, "c")
		wantStore(t, s, 1, 2, 3, 3)
	}
}

func TestClosed(t *testing.T) {
	for _, s := range []*store.Store{nil, {}} {
		if index, err := s.Append("rec"); index != 0 || err != api.ErrClosed {
			t.Error("Append:", index, err)
		}
		if index, err := s.Append(strings.Repeat("x", 1<<16+1)); index != 0 || err != api.ErrClosed {
			t.Error("Append:", index, err)
		}
		want(t, "Sync", s.Sync(), api.ErrClosed)
		want(t, "Install", s.Install("snap"), api.ErrClosed)
		want(t, "Install", s.Install(strings.Repeat("x", 1<<16+1)), api.ErrClosed)
		wantStore(t, s, 0, 0, 0, 0)
	}
}

// Several stores lie on one disk, also where one's name begins with the other's.
func TestManyStores(t *testing.T) {
	d := newDisk(t, 1<<16)
	names := []string{"a", "a-log", "a-snap", "a-new", "a-man", "a-snap-1", "a-log-1", "b"}
	for round := range 2 {
		for _, name := range names {
			s, _, _, err := store.Open(d, name, 30)
			if err != api.OK {
				t.Fatalf("%s: %d", name, err)
			}
			put(t, s, name+"-old")
			install(t, s, fmt.Sprint(name, "=", round))
			put(t, s, name+"-rec")
		}
	}
	for _, name := range names {
		_, snapshot, recs, err := store.Open(d, name, 30)
		if err != api.OK || snapshot != name+"=1" || !slices.Equal(recs, []string{name + "-rec"}) {
			t.Errorf("%s: %q, %q, %d", name, snapshot, recs, err)
		}
	}
}
