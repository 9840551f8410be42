package store_test

import (
	"fmt"
	"slices"
	"strings"
	"testing"

	"pannier/api"
	"pannier/disk"
	"pannier/store"
)

// twoBehind is a store with the snapshot "old", of the records a and b, and behind it c and d, of which d is not sure; each in a segment of its own.
func twoBehind(t *testing.T, size int) (*disk.Disk, *store.Store) {
	t.Helper()
	d := newDisk(t, size)
	s := open(t, d, 1, "")
	put(t, s, "a", "b")
	install(t, s, "old")
	put(t, s, "c", "d")
	wantStore(t, s, 1, 2, 4, 3)
	return d, s
}

// byName sorts files, as a disk tells them.
func byName(files ...api.File) []api.File {
	slices.SortFunc(files, func(a, b api.File) int { return strings.Compare(a.Name, b.Name) })
	return files
}

// steps are the files of twoBehind's disk behind each change that an Install of "newer" makes.
func steps() [][]api.File {
	unsure := func(name, bytes string) api.File { return api.File{Name: name, Bytes: bytes} }
	b, c, d := sure("kv-log-2", segment(1, "b")), sure("kv-log-3", segment(2, "c")), sure("kv-log-4", segment(3, "d"))
	man1, man2 := sure("kv-man", manifest(1, 2)), sure("kv-man", manifest(2, 4))
	old, newer := sure("kv-snap-1", frames("old")), sure("kv-snap-2", frames("newer"))
	return [][]api.File{
		byName(b, c, unsure("kv-log-4", segment(3, "d")), man1, old),
		byName(b, c, d, man1, old),
		byName(b, c, d, man1, old, unsure("kv-new", frames("newer"))),
		byName(b, c, d, man1, old, sure("kv-new", frames("newer"))),
		byName(b, c, d, man1, old, newer),
		byName(b, c, d, man1, old, newer, unsure("kv-new", manifest(2, 4))),
		byName(b, c, d, man1, old, newer, sure("kv-new", manifest(2, 4))),
		byName(b, c, d, man2, old, newer),
		byName(b, c, d, man2, newer),
		byName(b, c, d, man2, newer), // the log is synced again ahead of the drop
		byName(c, d, man2, newer),
		byName(d, man2, newer),
	}
}

// The power goes behind each number of changes: ahead of the manifest's renaming the store is as it was, from there on the new snapshot counts.
func TestInstallStepByStep(t *testing.T) {
	all := steps()
	for power, files := range all {
		what := fmt.Sprint("power for ", power)
		d, s := twoBehind(t, 1000)
		d.Stop(power)
		ended := power == len(all)-1
		if err := s.Install("newer"); (err == api.OK) != ended || !ended && err != api.ErrOff {
			t.Errorf("%s: %d", what, err)
		}
		wantFiles(t, what, d, files...)
		sure := 4
		if power == 0 {
			sure = 3
		}
		counts := power >= 7
		if counts {
			wantStore(t, s, 2, 4, 4, sure)
		} else {
			wantStore(t, s, 1, 2, 4, sure)
		}
		want(t, what, d.Crash(nil), api.OK)
		if counts {
			wantStore(t, open(t, d, 1, "newer"), 2, 4, 4, 4)
		} else {
			wantStore(t, open(t, d, 1, "old", []string{"c", "d"}[:sure-2]...), 1, 2, sure, sure)
		}
	}
}

// A store whose Install was refused goes on when the power is there again, also without being opened.
func TestInstallAgain(t *testing.T) {
	for power := range len(steps()) - 1 {
		d, s := twoBehind(t, 1000)
		want(t, "Sync", s.Sync(), api.OK)
		d.Stop(power)
		want(t, "Install", s.Install("newer"), api.ErrOff)
		want(t, "Crash", d.Crash(nil), api.OK)
		before, _ := s.Snap()
		install(t, s, "newest")
		wantStore(t, s, before+1, 4, 4, 4)
		put(t, s, "e")
		wantStore(t, open(t, d, 1, "newest", "e"), before+1, 4, 5, 5)
	}
}

func TestInstallTooLong(t *testing.T) {
	d, s := twoBehind(t, 1<<20)
	was := d.Files()
	want(t, "Install", s.Install(strings.Repeat("x", 1<<16+1)), api.ErrFrame)
	wantFiles(t, "Install", d, was...)
	d.Stop(0)
	want(t, "Install, off", s.Install(strings.Repeat("x", 1<<16+1)), api.ErrFrame)
	wantStore(t, s, 1, 2, 4, 3)
	want(t, "Crash", d.Crash(nil), api.OK)
	s = open(t, d, 1, "old", "c")
	install(t, s, strings.Repeat("x", 1<<16))
	open(t, d, 1, strings.Repeat("x", 1<<16))
}

// The first snapshot has none ahead to remove, and an empty log none to sync and to drop.
func TestInstallFirst(t *testing.T) {
	d := newDisk(t, 1000)
	s := open(t, d, 1, "")
	d.Stop(6)
	install(t, s, "snap")
	if !d.Off() {
		t.Error("less than six changes")
	}
	wantStore(t, s, 1, 0, 0, 0)
	wantFiles(t, "Install", d, sure("kv-man", manifest(1, 0)), sure("kv-snap-1", frames("snap")))
	want(t, "Crash", d.Crash(nil), api.OK)
	s = open(t, d, 1, "snap")
	put(t, s, "a")
	wantStore(t, open(t, d, 1, "snap", "a"), 1, 0, 1, 1)
}

// Installs one behind the other, with nothing between: the numbers rise, one snapshot stays.
func TestInstallMany(t *testing.T) {
	d := newDisk(t, 1000)
	s := open(t, d, 40, "")
	for i := range 12 {
		if i%3 == 0 {
			put(t, s, fmt.Sprint("rec-", i))
		}
		install(t, s, fmt.Sprint("snap-", i))
		wantStore(t, s, i+1, 1+i/3, 1+i/3, 1+i/3)
		if i%2 == 0 {
			s = open(t, d, 40, fmt.Sprint("snap-", i))
			wantStore(t, s, i+1, 1+i/3, 1+i/3, 1+i/3)
		}
	}
	wantFiles(t, "Installs", d, sure("kv-log-2", segment(3, "rec-9")), sure("kv-man", manifest(12, 4)), sure("kv-snap-12", frames("snap-11")))
}

// A new file that is there is removed ahead, both times; so is one that came between.
func TestInstallWithANewFileThere(t *testing.T) {
	for power := range len(steps()) + 1 {
		d, s := twoBehind(t, 1000)
		file(t, d, "kv-new", "somebody's")
		files := slices.Concat([][]api.File{nil}, steps())
		d.Stop(power)
		err := s.Install("newer")
		if ended := power == len(steps()); (err == api.OK) != ended || !ended && err != api.ErrOff {
			t.Errorf("power for %d: %d", power, err)
		}
		if power < 2 {
			if left, err := d.Read("kv-new"); left != "somebody's" || err != api.OK {
				t.Errorf("power for %d: %q, %d", power, left, err)
			}
			continue
		}
		wantFiles(t, fmt.Sprint("power for ", power), d, files[power]...)
	}
}

// fullAt is how many bytes twoBehind's disk has, and how many more an Install of "newer" takes for its snapshot, and then for its manifest.
func fullAt() (had, snapshot, manifested int) {
	for _, f := range steps()[0] {
		had += len(f.Bytes)
	}
	return had, len(frames("newer")), len(manifest(2, 4))
}

// On a disk that is full the store is as it was: what an Install took is given back.
func TestInstallOnAFullDisk(t *testing.T) {
	had, snapshot, manifested := fullAt()
	need := snapshot + manifested
	for room := range need + 2 {
		what := fmt.Sprint("room for ", room)
		d, s := twoBehind(t, had+room)
		err := s.Install("newer")
		if room >= need {
			want(t, what, err, api.OK)
			wantStore(t, s, 2, 4, 4, 4)
			wantFiles(t, what, d, steps()[11]...)
			continue
		}
		want(t, what, err, api.ErrFull)
		wantStore(t, s, 1, 2, 4, 4)
		wantFiles(t, what, d, steps()[1]...)
		if d.Left() != room {
			t.Errorf("%s: room for %d is left", what, d.Left())
		}
		wantStore(t, open(t, d, 1, "old", "c", "d"), 1, 2, 4, 4)
	}
}

// A disk has room for so many files, of which an Install takes two for a while.
func TestInstallAmongManyFiles(t *testing.T) {
	for others := 57; others <= 59; others++ {
		d, s := twoBehind(t, 1<<20)
		for i := range others {
			file(t, d, fmt.Sprint("other-", i), "")
		}
		was := len(d.Files())
		err := s.Install("newer")
		if was <= 62 {
			want(t, fmt.Sprint(was, " files"), err, api.OK)
			wantStore(t, s, 2, 4, 4, 4)
			continue
		}
		want(t, fmt.Sprint(was, " files"), err, api.ErrFull)
		wantStore(t, s, 1, 2, 4, 4)
		if len(d.Files()) != was {
			t.Errorf("%d files, and %d behind it", was, len(d.Files()))
		}
		wantStore(t, open(t, d, 1, "old", "c", "d"), 1, 2, 4, 4)
	}
}

// Somebody removed what the store has: what the disk says is told.
func TestInstallWithoutItsFiles(t *testing.T) {
	d, s := twoBehind(t, 1000)
	file(t, d, "kv-new", "x")
	want(t, "Remove", d.Remove("kv-log-4"), api.OK)
	want(t, "Install", s.Install("newer"), api.ErrNone) // the log is not synced
	wantStore(t, s, 1, 2, 4, 3)
	if _, err := d.Read("kv-new"); err != api.ErrNone {
		t.Error("the new file stays")
	}

	d, s = twoBehind(t, 1000)
	want(t, "Remove", d.Remove("kv-snap-1"), api.OK)
	want(t, "Install", s.Install("newer"), api.ErrNone) // but it counts
	wantStore(t, s, 2, 4, 4, 4)
	wantFiles(t, "nothing is dropped", d, steps()[8]...)

	d, s = twoBehind(t, 1000)
	want(t, "Remove", d.Remove("kv-log-2"), api.OK)
	want(t, "Install", s.Install("newer"), api.ErrNone)
	wantStore(t, s, 2, 4, 4, 4)
	wantFiles(t, "nothing is dropped", d, steps()[10]...)
	open(t, d, 1, "newer")
}

// An Install that is refused ahead of its snapshot's renaming leaves a file of the next number alone; behind it that file is the Install's own.
func TestInstallBesideTheNextNumber(t *testing.T) {
	had, snapshot, _ := fullAt()
	d, s := twoBehind(t, had+1)
	file(t, d, "kv-snap-2", "x")
	want(t, "Install", s.Install("newer"), api.ErrFull)
	wantFiles(t, "refused ahead", d, byName(append(steps()[1], sure("kv-snap-2", "x"))...)...)

	d, s = twoBehind(t, had+snapshot+1)
	file(t, d, "kv-snap-2", "x")
	want(t, "Install", s.Install("newer"), api.ErrFull)
	wantFiles(t, "refused behind", d, steps()[1]...)

	d, s = twoBehind(t, 1000)
	file(t, d, "kv-snap-2", "x")
	install(t, s, "newer")
	wantFiles(t, "installed", d, steps()[11]...)
}

// The last number that a manifest may have.
func TestInstallAtTheLastNumber(t *testing.T) {
	d := hasFiles(t, map[string]string{"kv-man": manifest(api.MaxSeq-1, 1), fmt.Sprint("kv-snap-", api.MaxSeq-1): frames("snap"), "kv-log-1": segment1("a", "b")})
	s := open(t, d, 50, "snap", "b")
	install(t, s, "last")
	wantStore(t, s, api.MaxSeq, 2, 2, 2)
	put(t, s, "c")
	was := d.Files()
	want(t, "Install", s.Install("one more"), api.ErrLong)
	want(t, "Install", s.Install(strings.Repeat("x", 1<<16+1)), api.ErrFrame)
	wantStore(t, s, api.MaxSeq, 2, 3, 2)
	wantFiles(t, "Install", d, was...)
	open(t, d, 50, "last", "c")
}

// A log that has had all records that there may be is no hindrance.
func TestInstallAtTheLastIndex(t *testing.T) {
	d := hasFiles(t, map[string]string{"kv-man": manifest(1, api.MaxSeq-2), "kv-snap-1": frames("snap"), "kv-log-9": segment(api.MaxSeq-2, "a", "b")})
	s := open(t, d, 50, "snap", "a", "b")
	if index, err := s.Append("c"); index != 0 || err != api.ErrLong {
		t.Error("Append:", index, err)
	}
	install(t, s, "all")
	wantStore(t, s, 2, api.MaxSeq, api.MaxSeq, api.MaxSeq)
	wantStore(t, open(t, d, 50, "all"), 2, api.MaxSeq, api.MaxSeq, api.MaxSeq)
}
