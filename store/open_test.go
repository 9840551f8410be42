package store_test

import (
	"math"
	"slices"
	"testing"

	"pannier/api"
	"pannier/disk"
	"pannier/store"
)

// hasFiles is a disk with those files, all sure.
func hasFiles(t *testing.T, files map[string]string) *disk.Disk {
	t.Helper()
	d := newDisk(t, 1<<20)
	for name, bytes := range files {
		file(t, d, name, bytes)
	}
	return d
}

// wantStoreErr looks whether Open tells that the files are none of a store's, and leaves them as they are.
func wantStoreErr(t *testing.T, d *disk.Disk) {
	t.Helper()
	was := d.Files()
	d.Stop(5) // more than a log that is mended takes
	wantNone(t, d, "kv", 50, api.ErrStore)
	wantFiles(t, "ErrStore", d, was...)
	for range 5 {
		want(t, "a further change", d.Append("other", nil), api.OK)
	}
	if !d.Off() {
		t.Error("there is more power than there was")
	}
}

func TestOpenOfWrongManifests(t *testing.T) {
	right := manifest(3, 2)
	bent := []byte(right)
	bent[len(bent)-1] ^= 1
	manifests := []string{
		"", "x", right[:len(right)-1], right[1:], right + "x", right + "\x00", right + right, "x" + right, string(bent),
		frames(""), frames(numbers(3)), frames(numbers(3, 2, 0)), frames(numbers(3, 2) + "x"), frames(numbers(3), numbers(2)),
		frames("\x83\x00" + numbers(2)), frames(numbers(3) + "\x82\x00"), frames(numbers(3) + "\x80"), frames("\x83"),
		frames(numbers(0, 2)), frames(numbers(0, 0)),
		frames(numbers(math.MaxInt32+1, 2)), frames(numbers(3, math.MaxInt32+1)),
		frames(numbers(math.MaxUint64, 2)), frames(numbers(3, math.MaxUint64)), frames(numbers(1<<32+3, 2)), frames(numbers(3, 1<<32+2)),
		frames("") + right, right + frames(""),
	}
	for _, m := range manifests {
		wantStoreErr(t, hasFiles(t, map[string]string{
			"kv-man": m, "kv-snap-3": frames("snap"), "kv-snap-2": frames("old"), "kv-new": "x", "kv-log-1": segment1("a", "b", "c"), "kv-snap-0": frames("none"),
			"kv-snap-2147483648": frames("too many"), "kv-snap-18446744073709551615": frames("too many"), "kv-snap--1": frames("below"),
		}))
	}
	d := hasFiles(t, map[string]string{"kv-man": right, "kv-snap-3": frames("snap"), "kv-log-1": segment1("a", "b", "c")})
	open(t, d, 50, "snap", "c")
}

func TestOpenOfWrongSnapshots(t *testing.T) {
	right := frames("snap")
	bent := []byte(right)
	bent[len(bent)-1] ^= 1
	for _, snapshot := range []string{"", "x", right[:len(right)-1], right + "x", right + right, right + frames(""), string(bent), "snap"} {
		wantStoreErr(t, hasFiles(t, map[string]string{"kv-man": manifest(3, 2), "kv-snap-3": snapshot, "kv-snap-2": right, "kv-log-1": segment1("a", "b", "c")}))
	}
	for _, name := range []string{"kv-snap-2", "kv-snap-4", "kv-snap-03", "kv-snap-", "kv-snap", "kv-new", "k-snap-3", "kv-snap-33"} {
		wantStoreErr(t, hasFiles(t, map[string]string{"kv-man": manifest(3, 2), name: right, "kv-log-1": segment1("a", "b", "c")}))
	}
}

// A manifest that is not right is told ahead of what wal.Open refuses, and ahead of a disk that is off.
func TestOpenTellsInOrder(t *testing.T) {
	wrongLog := map[string]string{"kv-log-1": segment1("a"), "kv-log-3": segment(1, "b"), "kv-man": manifest(1, 0)}
	wantStoreErr(t, hasFiles(t, wrongLog))
	wrongLog["kv-snap-1"] = frames("snap")
	wrongLog["kv-snap-2"] = frames("snap")
	d := hasFiles(t, wrongLog)
	was := d.Files()
	wantNone(t, d, "kv", 50, api.ErrWal)
	wantFiles(t, "ErrWal", d, was...)
	delete(wrongLog, "kv-man")
	wantNone(t, hasFiles(t, wrongLog), "kv", 50, api.ErrWal)

	d = hasFiles(t, map[string]string{"kv-log-1": segment1("a"), "kv-man": manifest(1, 7), "kv-snap-1": frames("snap"), "kv-snap-2": "x"})
	d.Stop(0)
	wantNone(t, d, "kv", 50, api.ErrOff) // the log is not even synced
	want(t, "Crash", d.Crash(nil), api.OK)
	wantStoreErr(t, d)
}

// The log's records must reach from the manifest's index, or from ahead of it, to that index.
func TestOpenOfALogThatDoesNotGoWithIt(t *testing.T) {
	tests := []struct {
		base   int
		recs   []string
		index  int
		wanted []string
		err    api.Errno
	}{
		{0, []string{"a", "b"}, 0, []string{"a", "b"}, api.OK},
		{0, []string{"a", "b"}, 1, []string{"b"}, api.OK},
		{0, []string{"a", "b"}, 2, nil, api.OK},
		{0, []string{"a", "b"}, 3, nil, api.ErrStore},
		{0, []string{"a", "b"}, api.MaxSeq, nil, api.ErrStore},
		{5, []string{"a", "b"}, 4, nil, api.ErrStore},
		{5, []string{"a", "b"}, 0, nil, api.ErrStore},
		{5, []string{"a", "b"}, 5, []string{"a", "b"}, api.OK},
		{5, []string{"a", "b"}, 6, []string{"b"}, api.OK},
		{5, []string{"a", "b"}, 7, nil, api.OK},
		{5, []string{"a", "b"}, 8, nil, api.ErrStore},
		{5, nil, 5, nil, api.OK},
		{5, nil, 4, nil, api.ErrStore},
		{5, nil, 6, nil, api.ErrStore},
		{api.MaxSeq, nil, api.MaxSeq, nil, api.OK},
	}
	for _, k := range tests {
		d := hasFiles(t, map[string]string{"kv-man": manifest(9, k.index), "kv-snap-9": frames("snap"), "kv-snap-8": frames("old"), "kv-new": "x", "kv-log-4": segment(k.base, k.recs...)})
		if k.err != api.OK {
			wantStoreErr(t, d)
			continue
		}
		s := open(t, d, 50, "snap", k.wanted...)
		wantStore(t, s, 9, k.index, k.base+len(k.recs), k.base+len(k.recs))
	}
	wantStoreErr(t, hasFiles(t, map[string]string{"kv-man": manifest(9, 1), "kv-snap-9": frames("snap")}))
	open(t, hasFiles(t, map[string]string{"kv-man": manifest(9, 0), "kv-snap-9": frames("snap")}), 50, "snap")
}

// Beside ErrStore nothing has changed: not even what wal.Open would mend.
func TestOpenLeavesATornLog(t *testing.T) {
	for _, index := range []int{4, 7} {
		d := hasFiles(t, map[string]string{"kv-man": manifest(2, index), "kv-snap-2": frames("snap"), "kv-log-1": segment(5, "a") + "torn"})
		want(t, "Append", d.Append("kv-log-1", []byte("more")), api.OK)
		wantStoreErr(t, d)
	}
}

// Without a manifest the snapshot is empty, and all records are behind it.
func TestOpenWithoutManifest(t *testing.T) {
	s := open(t, newDisk(t, 1000), 50, "")
	wantStore(t, s, 0, 0, 0, 0)
	d := hasFiles(t, map[string]string{"kv-snap-1": frames("snap"), "kv-snap-2": "x", "kv-new": manifest(1, 0), "kv-log-1": segment1("a", "b")})
	s = open(t, d, 50, "", "a", "b")
	wantStore(t, s, 0, 0, 2, 2)
	wantFiles(t, "Open", d, sure("kv-log-1", segment1("a", "b")))
	install(t, s, "new")
	wantStore(t, s, 1, 2, 2, 2)
	open(t, d, 50, "new")

	wantStoreErr(t, hasFiles(t, map[string]string{"kv-log-3": segment(5, "a"), "kv-new": "x"})) // the records ahead are nowhere
}

// What does not count is removed, by rising names; all else stays.
func TestOpenRemoves(t *testing.T) {
	stay := []string{
		"kv", "kv-", "kv-snap", "kv-snap-", "kv-snap-0", "kv-snap-01", "kv-snap-007", "kv-snap-a", "kv-snap-1a", "kv-snap-1-", "kv-snap--1", "kv-snap-1-1",
		"kv-new-", "kv-new1", "kv-news", "kv-man-", "kv-man1", "k-new", "k-snap-1", "kvv-snap-1", "kv-kv-new", "akv-new", "kv-log", "kv-log-", "kv-log-01", "kv-snaps-1",
	}
	goes := []string{"kv-new", "kv-snap-1", "kv-snap-10", "kv-snap-123456789012345678901234", "kv-snap-2", "kv-snap-2147483648", "kv-snap-6", "kv-snap-70", "kv-snap-77", "kv-snap-8", "kv-snap-9"}
	for power := range len(goes) + 3 {
		d := hasFiles(t, map[string]string{"kv-man": manifest(7, 1), "kv-snap-7": frames("snap"), "kv-log-1": segment1("a", "b")})
		for _, name := range slices.Concat(stay, goes) {
			file(t, d, name, frames(name))
		}
		d.Stop(power)
		s, snapshot, recs, err := store.Open(d, "kv", 50)
		gone := min(max(0, power-1), len(goes)) // the log is synced ahead
		for i, name := range goes {
			if _, err := d.Read(name); (err == api.ErrNone) != (i < gone) {
				t.Errorf("power for %d: %s: %d", power, name, err)
			}
		}
		if len(d.Files()) != 3+len(stay)+len(goes)-gone {
			t.Errorf("power for %d: %d files", power, len(d.Files()))
		}
		if power < len(goes)+1 {
			if s != nil || snapshot != "" || recs != nil || err != api.ErrOff {
				t.Errorf("power for %d: %v, %q, %q, %d", power, s, snapshot, recs, err)
			}
			continue
		}
		if err != api.OK || snapshot != "snap" || !slices.Equal(recs, []string{"b"}) {
			t.Errorf("power for %d: %q, %q, %d", power, snapshot, recs, err)
		}
		wantStore(t, s, 7, 1, 2, 2)
	}
}

// Without a log and without anything to remove nothing is asked of the disk.
func TestOpenOfADiskThatIsOff(t *testing.T) {
	d := newDisk(t, 100)
	d.Stop(0)
	s := open(t, d, 50, "")
	want(t, "Install", s.Install("snap"), api.ErrOff)
	wantStore(t, s, 0, 0, 0, 0)
	d = hasFiles(t, map[string]string{"kv-log-1": segment1("a")})
	d.Stop(0)
	wantNone(t, d, "kv", 50, api.ErrOff)
	d = hasFiles(t, map[string]string{"kv-new": "x"})
	d.Stop(0)
	wantNone(t, d, "kv", 50, api.ErrOff)
}

// What Open mends of the log is mended once, and the rest of the disk stays.
func TestOpenMendsTheLog(t *testing.T) {
	d := hasFiles(t, map[string]string{"kv-man": manifest(1, 2), "kv-snap-1": frames("snap"), "kv-log-1": segment1("a", "b"), "kv-log-2": segment(2, "c") + "torn"})
	d.Stop(2)
	s := open(t, d, 50, "snap", "c")
	if !d.Off() {
		t.Error("the log was not cut and synced just once")
	}
	wantStore(t, s, 1, 2, 3, 3)
	wantFiles(t, "Open", d, sure("kv-log-1", segment1("a", "b")), sure("kv-log-2", segment(2, "c")), sure("kv-man", manifest(1, 2)), sure("kv-snap-1", frames("snap")))
	d = hasFiles(t, map[string]string{"kv-man": manifest(1, 2), "kv-snap-1": frames("snap"), "kv-log-1": segment1("a", "b"), "kv-log-2": segment(2, "c") + "torn"})
	d.Stop(1)
	wantNone(t, d, "kv", 50, api.ErrOff)
	wantFiles(t, "cut, not synced", d, sure("kv-log-1", segment1("a", "b")), sure("kv-log-2", segment(2, "c")), sure("kv-man", manifest(1, 2)), sure("kv-snap-1", frames("snap")))
}

// The records that are told are nobody else's: whoever changes or lengthens the list changes nothing.
func TestRecordsAreNew(t *testing.T) {
	d := hasFiles(t, map[string]string{"kv-man": manifest(1, 1), "kv-snap-1": frames("snap"), "kv-log-1": segment1("a", "b", "c")})
	_, _, recs, _ := store.Open(d, "kv", 50)
	recs[0] = "changed"
	_ = append(recs[:1], "more")
	open(t, d, 50, "snap", "b", "c")
}
