package wal_test

import (
	"fmt"
	"math"
	"slices"
	"testing"

	"pannier/api"
	"pannier/codec"
	"pannier/disk"
	"pannier/wal"
)

// wantWal looks whether Open tells that the files are none of a log's, and leaves them.
func wantWal(t *testing.T, d *disk.Disk) {
	t.Helper()
	was := d.Files()
	d.Stop(0) // ahead of all that the disk refuses
	l, recs, err := wal.Open(d, "log", 1000)
	if l != nil || recs != nil || err != api.ErrWal {
		t.Errorf("Open of %v: %v, %q, %d", was, l, recs, err)
	}
	want(t, "Crash", d.Crash(nil), api.OK)
	wantFiles(t, d, was...)
}

func TestOpenOfWrongFiles(t *testing.T) {
	huge := string(codec.Uint(nil, math.MaxInt32+1))
	tests := []map[string]string{
		{"log-1": segment(0, "a"), "log-3": segment(1, "b")},
		{"log-1": segment(0, "a"), "log-2": segment(1, "b"), "log-9": "x"},
		{"log-1": segment(0, "a"), "log-3": ""},
		{"log-9": segment(0, "a"), "log-11": segment(1, "b")},
		{"log-1": segment(0, "a"), "log-99999999999999999999": segment(1, "b")},
		{"log-1": segment(0, "a") + "x", "log-2": segment(1, "b")},
		{"log-1": segment(0, "a") + "x", "log-2": ""},
		{"log-1": segment(0, "a"), "log-2": segment(1, "b")[:17], "log-3": segment(2, "c")},
		{"log-1": "", "log-2": segment(0, "b")},
		{"log-1": "x", "log-2": segment(0, "b")},
		{"log-1": segment(0)[:8], "log-2": segment(0, "b")},
		{"log-1": frames(""), "log-2": segment(0, "b")},
		{"log-1": frames("\x80\x00"), "log-2": segment(0, "b")},
		{"log-1": frames("\x00\x00"), "log-2": segment(0, "b")},
		{"log-1": frames("\x00", "a"), "log-2": frames("\x01\x00", "b"), "log-3": segment(2, "c")},
		{"log-1": frames(huge), "log-2": segment(math.MaxInt32 + 1)},
		{"log-1": frames(huge), "log-2": segment(0)},
		{"log-1": frames("\xff\xff\xff\xff\xff\xff\xff\xff\xff\x01", "a"), "log-2": segment(0)},
		{"log-1": segment(0, "a"), "log-2": segment(0, "b")},
		{"log-1": segment(0, "a"), "log-2": segment(2, "b")},
		{"log-1": segment(0, "a"), "log-2": segment(2)},
		{"log-1": segment(0, "a"), "log-2": segment(2) + "x"},
		{"log-1": segment(0), "log-2": segment(1)},
		{"log-1": segment(0, "a", "b"), "log-2": segment(1, "b"), "log-3": segment(2)},
		{"log-1": segment(0, "a"), "log-2": segment(1, "b"), "log-3": segment(3)},
		{"log-5": segment(math.MaxInt32, "a"), "log-6": segment(0)},
	}
	for _, files := range tests {
		d := newDisk(t, 1000)
		for name, bytes := range files {
			file(t, d, name, bytes)
		}
		wantWal(t, d)
	}
}

// Files whose names are like a segment's are none.
func TestOpenAmongOtherFiles(t *testing.T) {
	d := newDisk(t, 1000)
	others := []string{"log", "log-", "log-0", "log-02", "log-1a", "log-a1", "log--1", "log-1-1", "log-1-", "log1", "lo-1", "alog-3", "log-00", "logs-2"}
	for _, name := range others {
		file(t, d, name, "x")
	}
	was := d.Files()
	l := open(t, d, 30)
	wantLog(t, l, 0, 0, 0)
	wantFiles(t, d, was...)
	put(t, l, "a longer record than most")
	put(t, l, "b")
	want(t, "Drop", l.Drop(5), api.OK)
	wantLog(t, open(t, d, 30, "b"), 1, 2, 2, 2)
	for _, name := range others {
		if s, err := d.Read(name); s != "x" || err != api.OK {
			t.Errorf("%s: %q, %d", name, s, err)
		}
	}
}

// Logs of several names lie on one disk, also if one's name begins with the other's.
func TestTwoLogs(t *testing.T) {
	d := newDisk(t, 1000)
	for round, name := range []string{"a", "a-1", "a-1-1", "b"} {
		l, _, err := wal.Open(d, name, 1)
		if err != api.OK {
			t.Fatal(err)
		}
		for i := range 3 {
			put(t, l, fmt.Sprint(name, " ", round, " ", i))
		}
	}
	for round, name := range []string{"a", "a-1", "a-1-1", "b"} {
		l, recs, err := wal.Open(d, name, 1)
		if err != api.OK || !slices.Equal(recs, []string{fmt.Sprint(name, " ", round, " ", 0), fmt.Sprint(name, " ", round, " ", 1), fmt.Sprint(name, " ", round, " ", 2)}) {
			t.Errorf("%s: %q, %d", name, recs, err)
		}
		wantLog(t, l, 0, 3, 3, 1, 2, 3)
	}
}

// Of the last segment what stands behind its frames is cut off; without a base it goes.
func TestOpenMends(t *testing.T) {
	ahead := sure("log-1", segment(0, "a"))
	huge := string(codec.Uint(nil, math.MaxInt32+1))
	lasts := []struct {
		bytes string
		left  string // nothing: it is gone
		calls int    // of the disk
	}{
		{segment(1, "b"), segment(1, "b"), 1},
		{segment(1, "b") + "x", segment(1, "b"), 2},
		{segment(1, "b", "c")[:26], segment(1, "b"), 2},
		{segment(1, "b")[:17], segment(1), 2},
		{segment(1), segment(1), 1},
		{segment(1) + "x", segment(1), 2},
		{segment(1)[:8], "", 3},
		{"x", "", 3},
		{"", "", 2},
		{frames(""), "", 2},
		{frames("", "b"), "", 2},
		{frames("", "b") + "x", "", 3},
		{frames("\x01\x00", "b"), "", 2},
		{frames("\x81\x00", "b"), "", 2},
		{frames("\x81"), "", 2},
		{frames(huge, "b"), "", 2},
		{frames("\xff\xff\xff\xff\xff\xff\xff\xff\xff\x01"), "", 2},
		{"x" + segment(1, "b"), "", 3},
	}
	for _, k := range lasts {
		d := newDisk(t, 1000)
		file(t, d, "log-1", ahead.Bytes)
		want(t, "Append", d.Append("log-2", []byte(k.bytes)), api.OK) // not sure
		for calls := range k.calls {
			e := d.Fork()
			e.Stop(calls)
			if l, recs, err := wal.Open(e, "log", 20); l != nil || recs != nil || err != api.ErrOff {
				t.Errorf("Open of %q, power for %d: %v, %q, %d", k.bytes, calls, l, recs, err)
			}
		}
		d.Stop(k.calls)
		l, recs, err := wal.Open(d, "log", 20)
		if err != api.OK {
			t.Fatalf("Open of %q: %d", k.bytes, err)
		}
		if k.left == "" {
			wantFiles(t, d, ahead)
			wantLog(t, l, 0, 1, 1, 1)
		} else {
			wantFiles(t, d, ahead, sure("log-2", k.left))
			wantLog(t, l, 0, len(recs), len(recs), 1, 2)
		}
		if !d.Off() {
			t.Errorf("Open of %q: fewer calls than %d", k.bytes, k.calls)
		}
		want(t, "Crash", d.Crash(nil), api.OK)
		put(t, open(t, d, 20, recs...), "more")
		open(t, d, 20, append(recs, "more")...)
	}
}

// Of a log that had one segment, torn ahead of its base, nothing is left: it begins anew.
func TestOpenOfOneTornSegment(t *testing.T) {
	for _, name := range []string{"log-1", "log-5"} {
		d := newDisk(t, 1000)
		want(t, "Append", d.Append(name, []byte(segment(0, "a")[:8])), api.OK)
		l := open(t, d, 20)
		wantLog(t, l, 0, 0, 0)
		wantFiles(t, d)
		put(t, l, "b")
		wantFiles(t, d, api.File{Name: "log-1", Bytes: segment(0, "b")})
	}
}

func TestOpenMakesSure(t *testing.T) {
	d := newDisk(t, 1000)
	l := open(t, d, 1000)
	put(t, l, "a", "b")
	e := d.Fork()
	e.Stop(0)
	if l, recs, err := wal.Open(e, "log", 1000); l != nil || recs != nil || err != api.ErrOff {
		t.Errorf("Open of a disk that is off: %v, %q, %d", l, recs, err)
	}
	wantLog(t, open(t, d, 1000, "a", "b"), 0, 2, 2, 1)
	want(t, "Crash", d.Crash(nil), api.OK)
	open(t, d, 1000, "a", "b")
	d = newDisk(t, 0)
	d.Stop(0)
	open(t, d, 1) // of no segments nothing is asked
}
