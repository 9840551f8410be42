package disk_test

import (
	"fmt"
	"maps"
	"math/rand"
	"slices"
	"strings"
	"testing"

	"pannier/api"
	"pannier/disk"
)

// plainDisk says what a disk tells, as plainly as can be: it makes a new map at each change.
type plainDisk struct {
	size  int
	files map[string]api.File
	stop  int
	on    bool
}

func (p *plainDisk) left() int {
	left := p.size
	for _, f := range p.files {
		left -= len(f.Bytes)
	}
	return left
}

func (p *plainDisk) list() []api.File {
	var l []api.File
	for _, name := range slices.Sorted(maps.Keys(p.files)) {
		l = append(l, p.files[name])
	}
	return l
}

// without answers the files but some.
func (p *plainDisk) without(names ...string) map[string]api.File {
	files := maps.Clone(p.files)
	for _, name := range names {
		delete(files, name)
	}
	return files
}

func (p *plainDisk) with(f api.File) map[string]api.File {
	files := p.without()
	files[f.Name] = f
	return files
}

func mayName(s string) bool {
	return len(s) >= 1 && len(s) <= 32 && strings.Trim(s, "abcdefghijklmnopqrstuvwxyz0123456789-") == ""
}

// done takes what a change is told to make of the files, if the power is there.
func (p *plainDisk) done(files map[string]api.File, err api.Errno) api.Errno {
	if err == api.ErrFile {
		return err
	}
	if !p.on {
		return api.ErrOff
	}
	if err == api.OK {
		p.files = files
		p.stop--
		p.on = p.stop != 0
	}
	return err
}

func (p *plainDisk) change(kind int, name, other string, size int, b string) api.Errno {
	f, is := p.files[name]
	switch {
	case kind == 0 && !mayName(name) || kind == 3 && !mayName(other):
		return p.done(nil, api.ErrFile)
	case kind == 0 && (len(b) > p.left() || !is && len(p.files) == 64):
		return p.done(nil, api.ErrFull)
	case kind == 0:
		return p.done(p.with(api.File{Name: name, Bytes: f.Bytes + b, Synced: f.Synced}), api.OK)
	case !is:
		return p.done(nil, api.ErrNone)
	case kind == 1:
		return p.done(p.with(api.File{Name: name, Bytes: f.Bytes, Synced: len(f.Bytes)}), api.OK)
	case kind == 2 && (size < 0 || size > len(f.Bytes)):
		return p.done(nil, api.ErrArg)
	case kind == 2:
		return p.done(p.with(api.File{Name: name, Bytes: f.Bytes[:size], Synced: size}), api.OK)
	case kind == 3:
		files := p.without(name, other)
		files[other] = api.File{Name: other, Bytes: f.Bytes, Synced: f.Synced}
		return p.done(files, api.OK)
	}
	return p.done(p.without(name), api.OK)
}

func (p *plainDisk) crash(keep []api.Torn) api.Errno {
	files := map[string]api.File{}
	for i, k := range keep {
		f, is := p.files[k.Name]
		twice := slices.ContainsFunc(keep[:i], func(o api.Torn) bool { return o.Name == k.Name })
		if !is || twice || k.Bytes < 0 || k.Bytes > len(f.Bytes)-f.Synced {
			return api.ErrArg
		}
		files[k.Name] = api.File{Name: k.Name, Bytes: f.Bytes[:f.Synced+k.Bytes], Synced: f.Synced + k.Bytes}
	}
	for name, f := range p.files {
		if _, is := files[name]; !is {
			files[name] = api.File{Name: name, Bytes: f.Bytes[:f.Synced], Synced: f.Synced}
		}
	}
	p.files, p.stop, p.on = files, -1, true
	return api.OK
}

func sameChange(d *disk.Disk, kind int, name, other string, size int, b string) api.Errno {
	switch kind {
	case 0:
		return d.Append(name, []byte(b))
	case 1:
		return d.Sync(name)
	case 2:
		return d.Cut(name, size)
	case 3:
		return d.Rename(name, other)
	}
	return d.Remove(name)
}

func randomName(rng *rand.Rand) string {
	return []string{"a", "b", "c-1", "c-2", "d", "A", "", strings.Repeat("z", 32), strings.Repeat("z", 33)}[rng.Intn(9)]
}

func randomKeep(rng *rand.Rand, files []api.File) []api.Torn {
	var keep []api.Torn
	for _, f := range files {
		if rng.Intn(2) == 0 {
			keep = append(keep, api.Torn{Name: f.Name, Bytes: rng.Intn(len(f.Bytes) - f.Synced + 1)})
		}
	}
	rng.Shuffle(len(keep), func(i, j int) { keep[i], keep[j] = keep[j], keep[i] })
	if rng.Intn(4) == 0 {
		keep = append(keep, api.Torn{Name: randomName(rng), Bytes: rng.Intn(6) - 1})
	}
	return keep
}

// checkBeginnings looks whether each file is a beginning of what it was, with all that was sure.
func checkBeginnings(t *testing.T, was, is []api.File) {
	t.Helper()
	if len(was) != len(is) {
		t.Fatalf("%d files behind a crash, %d ahead of it", len(is), len(was))
	}
	for i, f := range is {
		ahead := was[i]
		if f.Name != ahead.Name || !strings.HasPrefix(ahead.Bytes, f.Bytes) || len(f.Bytes) < ahead.Synced || f.Synced != len(f.Bytes) {
			t.Fatalf("behind a crash: %v, ahead of it: %v", f, ahead)
		}
	}
}

func crashBoth(t *testing.T, rng *rand.Rand, d *disk.Disk, p *plainDisk) {
	t.Helper()
	was := d.Files()
	keep := randomKeep(rng, was)
	given := slices.Clone(keep)
	err := d.Crash(keep)
	if wanted := p.crash(keep); err != wanted || !slices.Equal(keep, given) {
		t.Fatalf("Crash(%v): %d, not %d", given, err, wanted)
	}
	if err == api.OK {
		checkBeginnings(t, was, d.Files())
	}
}

func checkSame(t *testing.T, what string, d *disk.Disk, p *plainDisk) {
	t.Helper()
	files := d.Files()
	if !slices.Equal(files, p.list()) || d.Left() != p.left() || d.Off() == p.on {
		t.Fatalf("%s: %v, %d left, off: %v, not %v", what, files, d.Left(), d.Off(), *p)
	}
	for _, f := range files {
		if s, err := d.Read(f.Name); s != f.Bytes || err != api.OK {
			t.Fatalf("%s: Read(%q): %q, %d", what, f.Name, s, err)
		}
	}
}

// Whatever is done, one behind the other, a disk tells what the plain one tells.
func TestAsThePlainOne(t *testing.T) {
	for seed := range int64(300) {
		rng := rand.New(rand.NewSource(seed))
		size := rng.Intn(40)
		d := newDisk(t, size)
		p := &plainDisk{size: size, stop: -1, on: true}
		p.files = map[string]api.File{}
		for range 200 {
			what := fmt.Sprint("seed ", seed)
			switch rng.Intn(20) {
			case 0:
				crashBoth(t, rng, d, p)
			case 1:
				n := rng.Intn(12) - 2
				d.Stop(n)
				if p.on {
					p.stop, p.on = n, n != 0
				}
			case 2:
				other := d
				d = d.Fork()
				sameChange(other, rng.Intn(5), randomName(rng), "b", 0, "other")
			default:
				kind, name, to, at, b := rng.Intn(7), randomName(rng), randomName(rng), rng.Intn(8)-1, "0123456789"[:rng.Intn(6)]
				if kind > 4 {
					kind = 0
				}
				what = fmt.Sprintf("seed %d: change %d of %q, %q, %d, %q", seed, kind, name, to, at, b)
				want(t, what, sameChange(d, kind, name, to, at, b), p.change(kind, name, to, at, b))
			}
			checkSame(t, what, d, p)
		}
	}
}
