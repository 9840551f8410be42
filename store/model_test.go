package store_test

import (
	"fmt"
	"math/rand"
	"slices"
	"strings"
	"testing"

	"pannier/api"
	"pannier/disk"
	"pannier/store"
	"pannier/wal"
)

// plainStore does what a store does, as plainly as can be, on a disk of its own.
type plainStore struct {
	disk          *disk.Disk
	log           *wal.Log
	number, index int
}

// write makes a file by way of kv-new.
func (p *plainStore) write(name, bytes string) api.Errno {
	if _, err := p.disk.Read("kv-new"); err == api.OK {
		if err := p.disk.Remove("kv-new"); err != api.OK {
			return err
		}
	}
	if err := p.disk.Append("kv-new", []byte(bytes)); err != api.OK {
		return err
	}
	if err := p.disk.Sync("kv-new"); err != api.OK {
		return err
	}
	return p.disk.Rename("kv-new", name)
}

func (p *plainStore) install(snapshot string) api.Errno {
	old, name := fmt.Sprint("kv-snap-", p.number), fmt.Sprint("kv-snap-", p.number+1)
	if err := p.log.Sync(); err != api.OK {
		p.disk.Remove("kv-new")
		return err
	}
	if err := p.write(name, frames(snapshot)); err != api.OK {
		p.disk.Remove("kv-new")
		return err
	}
	if err := p.write("kv-man", manifest(p.number+1, p.log.Next())); err != api.OK {
		p.disk.Remove("kv-new")
		p.disk.Remove(name)
		return err
	}
	p.number++
	p.index = p.log.Next()
	if p.number > 1 {
		if err := p.disk.Remove(old); err != api.OK {
			return err
		}
	}
	return p.log.Drop(p.index)
}

// open answers the records from the index on; nothing is wrong with the files.
func (p *plainStore) open(segment int) ([]string, api.Errno) {
	log, recs, err := wal.Open(p.disk, "kv-log", segment)
	if err != api.OK {
		return nil, err
	}
	p.log = log
	for _, f := range p.disk.Files() {
		if f.Name == "kv-new" || strings.HasPrefix(f.Name, "kv-snap-") && f.Name != fmt.Sprint("kv-snap-", p.number) {
			if err := p.disk.Remove(f.Name); err != api.OK {
				return nil, err
			}
		}
	}
	return recs[p.index-log.First():], api.OK
}

// run is what was done so far, and what must be there.
type run struct {
	snapshots []string // by their numbers
	recs      []string // by their indices
}

// restart crashes both disks, and opens both stores; now and then the power goes meanwhile.
func (r *run) restart(t *testing.T, what string, rng *rand.Rand, d *disk.Disk, p *plainStore) *store.Store {
	t.Helper()
	sureAhead := p.log.Sure()
	for {
		var keep []api.Torn
		for _, f := range d.Files() {
			if unsure := len(f.Bytes) - f.Synced; unsure > 0 {
				keep = append(keep, api.Torn{Name: f.Name, Bytes: rng.Intn(unsure + 1)})
			}
		}
		want(t, what, d.Crash(keep), api.OK)
		want(t, what, p.disk.Crash(keep), api.OK)
		power, segment := rng.Intn(8)-1, 1+rng.Intn(60)
		d.Stop(power)
		p.disk.Stop(power)
		wanted, wantedErr := p.open(segment)
		s, snapshot, recs, err := store.Open(d, "kv", segment)
		if err != wantedErr || !slices.Equal(recs, wanted) {
			t.Fatalf("%s: Open: %q, %d, not %q, %d", what, recs, err, wanted, wantedErr)
		}
		if err != api.OK {
			continue
		}
		next := p.index + len(recs)
		if snapshot != r.snapshots[p.number] || next < sureAhead || next > len(r.recs) || !slices.Equal(recs, r.recs[p.index:next]) {
			t.Fatalf("%s: Open: %q, %q, of %q", what, snapshot, recs, r.recs)
		}
		r.recs = r.recs[:next]
		return s
	}
}

// Whatever is done, one behind the other, a store tells what the plain one tells, and leaves on the disk what that one leaves.
func TestAsThePlainOne(t *testing.T) {
	installed, full := 0, 0
	for seed := range int64(400) {
		rng := rand.New(rand.NewSource(seed))
		d, segment := newDisk(t, 40+rng.Intn(400)), 1+rng.Intn(60)
		p := &plainStore{disk: d.Fork()}
		if _, err := p.open(segment); err != api.OK {
			t.Fatal(err)
		}
		s := open(t, d, segment, "")
		r := run{snapshots: []string{""}}
		for step := range 100 {
			what := fmt.Sprintf("seed %d, step %d", seed, step)
			text := strings.Repeat(string(rune('a'+rng.Intn(26))), rng.Intn(6)*rng.Intn(6))
			switch rng.Intn(14) {
			case 0, 1:
				want(t, what, s.Sync(), p.log.Sync())
			case 2, 3, 4:
				number := p.number
				err := p.install(text)
				want(t, what, s.Install(text), err)
				if p.number > number {
					r.snapshots = append(r.snapshots, text)
					installed++
				}
				if err == api.ErrFull {
					full++
				}
			case 5:
				power := rng.Intn(20) - 1
				d.Stop(power)
				p.disk.Stop(power)
			case 6:
				s = r.restart(t, what, rng, d, p)
			default:
				wanted, wantedErr := p.log.Append(text)
				if index, err := s.Append(text); index != wanted || err != wantedErr {
					t.Fatalf("%s: Append(%q): %d, %d, not %d, %d", what, text, index, err, wanted, wantedErr)
				}
				if wantedErr == api.OK {
					r.recs = append(r.recs, text)
				}
			}
			wantStore(t, s, p.number, p.index, p.log.Next(), p.log.Sure())
			wantFiles(t, what, d, p.disk.Files()...)
			if t.Failed() {
				t.FailNow()
			}
		}
	}
	if installed < 1000 || full < 100 {
		t.Error("too little was tried:", installed, full)
	}
}

// told is what a script's calls were told ahead of the power's end.
type told struct {
	recs      []string // that were appended, in order, from index 0 on
	snapshots []string // whose Install began, from number 1 on; the number 0 is that of the empty one
	indices   []int    // of the first record behind each
	counts    int      // the last one whose Install was OK
	sure      int
}

// runScript appends, syncs, installs, as far as the power goes.
func runScript(s *store.Store) told {
	k := told{snapshots: []string{""}, indices: []int{0}}
	for i := range 10 {
		rec := fmt.Sprint("rec-", i, strings.Repeat("+", i%4*3))
		if _, err := s.Append(rec); err != api.OK {
			return k
		}
		k.recs = append(k.recs, rec)
		if i%4 == 1 {
			_ = s.Sync()
		}
		if i%3 == 2 {
			k.snapshots = append(k.snapshots, fmt.Sprint("snap-", i))
			k.indices = append(k.indices, s.Next())
			if s.Install(fmt.Sprint("snap-", i)) == api.OK {
				k.counts = len(k.snapshots) - 1
			}
		}
		k.sure = s.Sure()
	}
	return k
}

// checkFound looks whether one of the snapshots is there, not one ahead of the last one that counts, and the records behind it: all that were sure, and a beginning of the others.
func checkFound(t *testing.T, what string, d *disk.Disk, k told) {
	t.Helper()
	s, snapshot, recs, err := store.Open(d, "kv", 30)
	if err != api.OK {
		t.Fatalf("%s: Open: %d", what, err)
	}
	number, index := s.Snap()
	if number < k.counts || number >= len(k.snapshots) || snapshot != k.snapshots[number] || index != k.indices[number] {
		t.Fatalf("%s: snapshot %d, %q, records from %d on, of %v", what, number, snapshot, index, k)
	}
	next := index + len(recs)
	if next < k.sure || next > len(k.recs) || s.Next() != next || s.Sure() != next || !slices.Equal(recs, k.recs[index:next]) {
		t.Fatalf("%s: %q from %d on, of %v", what, recs, index, k)
	}
	for _, f := range d.Files() {
		if f.Name != "kv-man" && f.Name != fmt.Sprint("kv-snap-", number) && !strings.HasPrefix(f.Name, "kv-log-") {
			t.Errorf("%s: %s is left", what, f.Name)
		}
	}
}

// torn are all ways in which a crash may tear the unsure bytes: of the log's last segment, and of a new file.
func torn(d *disk.Disk) [][]api.Torn {
	ways := [][]api.Torn{nil}
	for _, f := range d.Files() {
		var more [][]api.Torn
		for _, way := range ways {
			for kept := range len(f.Bytes) - f.Synced + 1 {
				more = append(more, append(slices.Clone(way), api.Torn{Name: f.Name, Bytes: kept}))
			}
		}
		ways = more
	}
	return ways
}

// Whenever the power goes, and whatever beginning of the unsure bytes lasts, and also if it goes again while the store is opened.
func TestCrashesAnywhere(t *testing.T) {
	for _, segment := range []int{1, 30, 1000} {
		for power := range 58 {
			d := newDisk(t, 10000)
			s := open(t, d, segment, "")
			d.Stop(power)
			k := runScript(s)
			for _, keep := range torn(d) {
				what := fmt.Sprintf("segment %d, power for %d, kept %v", segment, power, keep)
				e := d.Fork()
				want(t, what, e.Crash(keep), api.OK)
				for again := range 6 {
					f := e.Fork()
					f.Stop(again)
					_, _, _, _ = store.Open(f, "kv", 30)
					want(t, what, f.Crash(nil), api.OK)
					checkFound(t, what, f, k)
				}
				checkFound(t, what, e, k)
			}
		}
	}
}

// Any bytes in the files: Open ends, and what it leaves is opened again with the same snapshot and records.
func FuzzOpen(f *testing.F) {
	f.Add(manifest(1, 1), frames("snap"), segment(0, "a", "b"))
	f.Add(manifest(1, 2), frames("snap"), segment(1, "b")+"x")
	f.Add(manifest(2, 0), "", "")
	f.Add("x", frames("snap"), segment(0))
	f.Fuzz(func(t *testing.T, man, snap, log string) {
		d := newDisk(t, 1<<20)
		for name, bytes := range map[string]string{"kv-man": man, "kv-snap-1": snap, "kv-log-1": log, "kv-snap-2": "x"} {
			if d.Append(name, []byte(bytes)) != api.OK {
				return
			}
		}
		was := d.Files()
		s, snapshot, recs, err := store.Open(d, "kv", 50)
		if err != api.OK {
			if s != nil || snapshot != "" || recs != nil || err != api.ErrStore || !slices.Equal(d.Files(), was) {
				t.Errorf("Open: %v, %q, %q, %d", s, snapshot, recs, err)
			}
			return
		}
		again, same, sameRecs, err := store.Open(d, "kv", 50)
		if err != api.OK || same != snapshot || !slices.Equal(sameRecs, recs) || again.Next() != s.Next() {
			t.Errorf("Open again: %q, %q, %d, not %q, %q", same, sameRecs, err, snapshot, recs)
		}
	})
}
