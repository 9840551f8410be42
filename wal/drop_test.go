package wal_test

import (
	"fmt"
	"math"
	"slices"
	"strings"
	"testing"

	"pannier/api"
	"pannier/disk"
	"pannier/wal"
)

// fiveSegments is a log with two records a segment, the last one alone in its own, and not sure.
func fiveSegments(t *testing.T) (*disk.Disk, *wal.Log, []string) {
	t.Helper()
	d := newDisk(t, 10000)
	l := open(t, d, len(segment(0, "rec-0", "rec-1")))
	var recs []string
	for i := range 9 {
		recs = append(recs, fmt.Sprint("rec-", i))
	}
	put(t, l, recs...)
	wantLog(t, l, 0, 9, 8, 1, 2, 3, 4, 5)
	return d, l, recs
}

func TestDrop(t *testing.T) {
	drops := []struct{ before, gone int }{
		{math.MinInt, 0}, {-1, 0}, {0, 0}, {1, 0}, {2, 1}, {3, 1}, {4, 2}, {5, 2}, {6, 3}, {7, 3}, {8, 4}, {9, 4}, {10, 4}, {math.MaxInt, 4},
	}
	for _, k := range drops {
		d, l, recs := fiveSegments(t)
		want(t, fmt.Sprint("Drop of ", k.before), l.Drop(k.before), api.OK)
		sureNow := 8
		if k.gone > 0 {
			sureNow = 9
		}
		wantLog(t, l, 2*k.gone, 9, sureNow, []int{1, 2, 3, 4, 5}[k.gone:]...)
		if files := d.Files(); len(files) != 5-k.gone || files[0].Name != fmt.Sprint("log-", k.gone+1) {
			t.Errorf("Drop of %d leaves %d files", k.before, len(files))
		}
		put(t, l, "more")
		l = open(t, d, 30, append(recs, "more")[2*k.gone:]...)
		wantLog(t, l, 2*k.gone, 10, 10, []int{1, 2, 3, 4, 5}[k.gone:]...)
		want(t, "Drop again", l.Drop(k.before), api.OK)
		wantLog(t, l, 2*k.gone, 10, 10, []int{1, 2, 3, 4, 5}[k.gone:]...)
	}
}

// A segment without records has none from any index on.
func TestDropOfNoRecords(t *testing.T) {
	make3 := func() (*disk.Disk, *wal.Log) {
		d := newDisk(t, 1000)
		file(t, d, "log-3", segment(5))
		file(t, d, "log-4", segment(5, "x"))
		file(t, d, "log-5", segment(6))
		return d, open(t, d, 1000, "x")
	}
	_, l := make3()
	want(t, "Drop", l.Drop(5), api.OK)
	wantLog(t, l, 5, 6, 6, 4, 5)
	_, l = make3()
	want(t, "Drop", l.Drop(0), api.OK)
	wantLog(t, l, 5, 6, 6, 4, 5)
	_, l = make3()
	want(t, "Drop", l.Drop(6), api.OK)
	wantLog(t, l, 6, 6, 6, 5)
	want(t, "Drop of the last one", l.Drop(7), api.OK)
	wantLog(t, l, 6, 6, 6, 5)
}

func TestDropOfNothing(t *testing.T) {
	d := newDisk(t, 1000)
	l := open(t, d, 1)
	want(t, "Drop of no segments", l.Drop(5), api.OK)
	put(t, l, "x")
	d.Stop(0) // nothing is to go, so nothing is asked of the disk
	want(t, "Drop of the one segment", l.Drop(5), api.OK)
	wantLog(t, l, 0, 1, 0, 1)
	wantFiles(t, d, api.File{Name: "log-1", Bytes: segment(0, "x")})
}

// The power goes behind each number of the disk's calls: what was dropped by then is gone, the rest stays.
func TestDropRefused(t *testing.T) {
	for calls := range 5 {
		d, l, recs := fiveSegments(t)
		d.Stop(calls)
		want(t, fmt.Sprint("Drop, power for ", calls), l.Drop(8), api.ErrOff)
		gone, sureNow := max(0, calls-1), 9
		if calls == 0 {
			sureNow = 8
		}
		wantLog(t, l, 2*gone, 9, sureNow, []int{1, 2, 3, 4, 5}[gone:]...)
		want(t, "Drop, off", l.Drop(8), api.ErrOff)
		want(t, "Crash", d.Crash(nil), api.OK)
		l = open(t, d, 30, recs[2*gone:sureNow]...)
		segments := []int{1, 2, 3, 4, 5}[gone:]
		if calls == 0 {
			segments = segments[:4]
		}
		wantLog(t, l, 2*gone, sureNow, sureNow, segments...)
	}
	d, l, _ := fiveSegments(t)
	d.Stop(5)
	want(t, "Drop, with just enough power", l.Drop(8), api.OK)
	wantLog(t, l, 8, 9, 9, 5)
}

// Somebody else removed a segment: what the disk says is told.
func TestDropOfWhatIsGone(t *testing.T) {
	d, l, _ := fiveSegments(t)
	want(t, "Remove", d.Remove("log-2"), api.OK)
	want(t, "Drop", l.Drop(8), api.ErrNone)
	wantLog(t, l, 2, 9, 9, 2, 3, 4, 5)

	d, l, _ = fiveSegments(t)
	want(t, "Remove", d.Remove("log-5"), api.OK)
	want(t, "Sync", l.Sync(), api.ErrNone)
	want(t, "Drop", l.Drop(8), api.ErrNone)
	wantLog(t, l, 0, 9, 8, 1, 2, 3, 4, 5)
	if len(d.Files()) != 4 {
		t.Error("a segment went, though the last one is not sure")
	}
}

func TestAppendToAFullDisk(t *testing.T) {
	d := newDisk(t, len(segment(0, "abc", "def")))
	l := open(t, d, 1000)
	refused(t, l, strings.Repeat("x", 100), api.ErrFull)
	wantLog(t, l, 0, 0, 0)
	wantFiles(t, d)
	put(t, l, "abc")
	refused(t, l, "defg", api.ErrFull)
	wantLog(t, l, 0, 1, 0, 1)
	wantFiles(t, d, api.File{Name: "log-1", Bytes: segment(0, "abc")})
	put(t, l, "def")
	refused(t, l, "", api.ErrFull)
	wantLog(t, l, 0, 2, 0, 1)
	want(t, "Sync", l.Sync(), api.OK)
	open(t, d, 1000, "abc", "def")

	d = newDisk(t, len(segment(0, "abc"))+len(segment(1, "d")))
	l = open(t, d, 1)
	put(t, l, "abc")
	refused(t, l, "de", api.ErrFull)
	wantLog(t, l, 0, 1, 1, 1) // what was to be sure ahead of a new segment is
	wantFiles(t, d, sure("log-1", segment(0, "abc")))
	put(t, l, "d")
	wantLog(t, l, 0, 2, 1, 1, 2)
}

func TestTooManyFiles(t *testing.T) {
	d := newDisk(t, 100000)
	l := open(t, d, 1)
	var recs []string
	for i := range 64 {
		recs = append(recs, fmt.Sprint("rec-", i))
	}
	put(t, l, recs...)
	refused(t, l, "one more", api.ErrFull)
	if s := l.Segments(); len(s) != 64 || l.Next() != 64 || l.Sure() != 64 {
		t.Errorf("segments %v, next %d, sure %d", s, l.Next(), l.Sure())
	}
	want(t, "Drop", l.Drop(1), api.OK)
	put(t, l, "one more")
	open(t, d, 1, append(recs, "one more")[1:]...)
}

// The power goes within an Append that begins a segment.
func TestAppendWithoutPower(t *testing.T) {
	for calls := range 3 {
		d := newDisk(t, 1000)
		l := open(t, d, 1)
		put(t, l, "abc")
		d.Stop(calls)
		if calls == 2 {
			put(t, l, "d")
			wantLog(t, l, 0, 2, 1, 1, 2)
			refused(t, l, "e", api.ErrOff)
			wantLog(t, l, 0, 2, 1, 1, 2)
			continue
		}
		refused(t, l, "d", api.ErrOff)
		wantLog(t, l, 0, 1, calls, 1)
		wantFiles(t, d, api.File{Name: "log-1", Bytes: segment(0, "abc"), Synced: calls * len(segment(0, "abc"))})
	}
	d := newDisk(t, 1000)
	l := open(t, d, 1000)
	put(t, l, "abc")
	d.Stop(1)
	put(t, l, "d")
	refused(t, l, "e", api.ErrOff)
	wantLog(t, l, 0, 2, 0, 1)
	if !slices.Equal(d.Files(), []api.File{{Name: "log-1", Bytes: segment(0, "abc", "d")}}) {
		t.Errorf("files: %v", d.Files())
	}
}
