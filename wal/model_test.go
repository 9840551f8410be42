package wal_test

import (
	"fmt"
	"math/rand"
	"slices"
	"strconv"
	"strings"
	"testing"

	"pannier/api"
	"pannier/disk"
	"pannier/wal"
)

// plainSegment is a segment: its number, its base, its records, and how many of its bytes are sure.
type plainSegment struct {
	number, base int
	recs         []string
	synced       int
}

func (s plainSegment) bytes() string {
	return segment(s.base, s.recs...)
}

// plainLog says what a log tells and what it leaves on its disk, as plainly as can be.
type plainLog struct {
	limit    int
	room     int // of the disk, for all segments
	segments []plainSegment
	power    int // for how many calls of the disk; below 0: for all
}

func (p *plainLog) on(do func()) api.Errno {
	if p.power == 0 {
		return api.ErrOff
	}
	do()
	p.power--
	return api.OK
}

func (p *plainLog) files() []api.File {
	var files []api.File
	for _, s := range p.segments {
		files = append(files, api.File{Name: "log-" + strconv.Itoa(s.number), Bytes: s.bytes(), Synced: s.synced})
	}
	slices.SortFunc(files, func(a, b api.File) int { return strings.Compare(a.Name, b.Name) })
	return files
}

func (p *plainLog) left() int {
	left := p.room
	for _, s := range p.segments {
		left -= len(s.bytes())
	}
	return left
}

func (p *plainLog) records() []string {
	var recs []string
	for _, s := range p.segments {
		recs = append(recs, s.recs...)
	}
	return recs
}

func (p *plainLog) first() int {
	if len(p.segments) == 0 {
		return 0
	}
	return p.segments[0].base
}

func (p *plainLog) next() int {
	return p.first() + len(p.records())
}

// sure counts the records of which all bytes are sure.
func (p *plainLog) sure() int {
	count := p.first()
	for _, s := range p.segments {
		for i := range s.recs {
			if len(segment(s.base, s.recs[:i+1]...)) > s.synced {
				return count
			}
			count++
		}
	}
	return count
}

func (p *plainLog) numbers() []int {
	var numbers []int
	for _, s := range p.segments {
		numbers = append(numbers, s.number)
	}
	return numbers
}

func (p *plainLog) sync() api.Errno {
	if len(p.segments) == 0 {
		return api.OK
	}
	last := &p.segments[len(p.segments)-1]
	return p.on(func() { last.synced = len(last.bytes()) })
}

func (p *plainLog) append(rec string) (int, api.Errno) {
	index := p.next()
	n := len(p.segments)
	if n > 0 && len(p.segments[n-1].bytes()) < p.limit {
		if p.power != 0 && len(frames(rec)) > p.left() {
			return 0, api.ErrFull
		}
		err := p.on(func() { p.segments[n-1].recs = append(p.segments[n-1].recs, rec) })
		if err != api.OK {
			index = 0
		}
		return index, err
	}
	if err := p.sync(); err != api.OK {
		return 0, err
	}
	s := plainSegment{number: 1, base: index, recs: []string{rec}}
	if n > 0 {
		s.number = p.segments[n-1].number + 1
	}
	if p.power != 0 && len(s.bytes()) > p.left() {
		return 0, api.ErrFull
	}
	if err := p.on(func() { p.segments = append(p.segments, s) }); err != api.OK {
		return 0, err
	}
	return index, api.OK
}

// goes asks whether the first segment goes.
func (p *plainLog) goes(before int) bool {
	if len(p.segments) < 2 {
		return false
	}
	for i := range p.segments[0].recs {
		if p.segments[0].base+i >= before {
			return false
		}
	}
	return true
}

func (p *plainLog) drop(before int) api.Errno {
	if !p.goes(before) {
		return api.OK
	}
	if err := p.sync(); err != api.OK {
		return err
	}
	for p.goes(before) {
		if err := p.on(func() { p.segments = slices.Clone(p.segments[1:]) }); err != api.OK {
			return err
		}
	}
	return api.OK
}

// crash leaves of the last segment kept unsure bytes, and opens the log: what is torn is gone.
func (p *plainLog) crash(kept int) {
	p.power = -1
	n := len(p.segments)
	if n == 0 {
		return
	}
	last := p.segments[n-1]
	size := last.synced + kept
	if len(segment(last.base)) > size {
		p.segments = p.segments[:n-1]
		return
	}
	whole := 0
	for whole < len(last.recs) && len(segment(last.base, last.recs[:whole+1]...)) <= size {
		whole++
	}
	last.recs = slices.Clone(last.recs[:whole])
	last.synced = len(last.bytes())
	p.segments[n-1] = last
}

func checkSame(t *testing.T, what string, d *disk.Disk, l *wal.Log, p *plainLog) {
	t.Helper()
	if l.First() != p.first() || l.Next() != p.next() || l.Sure() != p.sure() || !slices.Equal(l.Segments(), p.numbers()) {
		t.Fatalf("%s: first %d, next %d, sure %d, segments %v, not %v", what, l.First(), l.Next(), l.Sure(), l.Segments(), *p)
	}
	if files := d.Files(); !slices.Equal(files, p.files()) {
		t.Fatalf("%s: files %q, not %q", what, fmt.Sprint(files), fmt.Sprint(p.files()))
	}
}

// crashBoth crashes, and opens the log with what lasted.
func crashBoth(t *testing.T, what string, rng *rand.Rand, d *disk.Disk, p *plainLog) *wal.Log {
	t.Helper()
	was, sureAhead := p.records(), p.sure()-p.first()
	var keep []api.Torn
	kept := 0
	for _, f := range d.Files() {
		if unsure := len(f.Bytes) - f.Synced; unsure > 0 { // of the last segment alone
			kept = rng.Intn(unsure + 1)
			keep = append(keep, api.Torn{Name: f.Name, Bytes: kept})
		}
	}
	want(t, what, d.Crash(keep), api.OK)
	p.crash(kept)
	p.limit = 1 + rng.Intn(60)
	l, recs, err := wal.Open(d, "log", p.limit)
	if err != api.OK || !slices.Equal(recs, p.records()) {
		t.Fatalf("%s: Open: %q, %d, not %q", what, recs, err, p.records())
	}
	if len(recs) < sureAhead || !slices.Equal(recs, was[:len(recs)]) {
		t.Fatalf("%s: behind a crash %q, ahead of it %q, %d sure", what, recs, was, sureAhead)
	}
	return l
}

// Whatever is done, one behind the other, a log tells what the plain one tells, and leaves on the disk what that one leaves.
func TestAsThePlainOne(t *testing.T) {
	for seed := range int64(500) {
		rng := rand.New(rand.NewSource(seed))
		p := &plainLog{limit: 1 + rng.Intn(60), room: rng.Intn(600), power: -1}
		d := newDisk(t, p.room)
		l := open(t, d, p.limit)
		for step := range 100 {
			what := fmt.Sprintf("seed %d, step %d", seed, step)
			switch rng.Intn(12) {
			case 0, 1:
				want(t, what, l.Sync(), p.sync())
			case 2, 3:
				before := p.first() + rng.Intn(20) - 4
				want(t, what, l.Drop(before), p.drop(before))
			case 4:
				if p.power != 0 {
					p.power = rng.Intn(8) - 1
					d.Stop(p.power)
				}
			case 5:
				l = crashBoth(t, what, rng, d, p)
			default:
				rec := strings.Repeat(string(rune('a'+rng.Intn(26))), rng.Intn(5)*rng.Intn(5))
				wanted, wantedErr := p.append(rec)
				if index, err := l.Append(rec); index != wanted || err != wantedErr {
					t.Fatalf("%s: Append(%q): %d, %d, not %d, %d", what, rec, index, err, wanted, wantedErr)
				}
			}
			checkSame(t, what, d, l, p)
		}
	}
}

// told is what a script's calls were told ahead of the power's end.
type told struct {
	appended []string // in order, from index 0 on
	sure     int
	dropped  int // segments may be gone up to there
}

// runScript appends, syncs, drops, as far as the power goes.
func runScript(l *wal.Log) told {
	var k told
	for i := range 12 {
		rec := fmt.Sprint("rec-", i, strings.Repeat("+", i%4*3))
		if _, err := l.Append(rec); err != api.OK {
			return k
		}
		k.appended = append(k.appended, rec)
		k.sure = l.Sure()
		if i%3 == 2 && l.Sync() == api.OK {
			k.sure = i + 1
		}
		if i%5 == 4 {
			k.dropped = i - 2
			_ = l.Drop(k.dropped)
			k.sure = max(k.sure, l.Sure())
		}
	}
	return k
}

// unsure answers the file that has unsure bytes, and how many; at most one has.
func unsure(t *testing.T, d *disk.Disk) (string, int) {
	t.Helper()
	name, count := "", 0
	for _, f := range d.Files() {
		if f.Synced < len(f.Bytes) {
			if name != "" {
				t.Fatalf("%s and %s are both unsure", name, f.Name)
			}
			name, count = f.Name, len(f.Bytes)-f.Synced
		}
	}
	return name, count
}

// checkFound looks whether all that was sure is there, behind that a beginning of the rest, and nothing else.
func checkFound(t *testing.T, what string, d *disk.Disk, k told) {
	t.Helper()
	l, recs, err := wal.Open(d, "log", 30)
	if err != api.OK {
		t.Fatalf("%s: Open: %d", what, err)
	}
	first, next := l.First(), l.Next()
	if first > k.dropped || next < k.sure || next > len(k.appended) || next-first != len(recs) || l.Sure() != next {
		t.Fatalf("%s: %d to %d, sure %d, of %v", what, first, next, l.Sure(), k)
	}
	if !slices.Equal(recs, k.appended[first:next]) {
		t.Fatalf("%s: %q, of %q", what, recs, k.appended)
	}
}

// Whenever the power goes, and whatever beginning of the unsure bytes lasts, and also if it goes again while the log is opened.
func TestCrashesAnywhere(t *testing.T) {
	for _, limit := range []int{1, 9, 30, 60, 1000} {
		for calls := range 40 {
			d := newDisk(t, 10000)
			l := open(t, d, limit)
			d.Stop(calls)
			k := runScript(l)
			name, count := unsure(t, d)
			for kept := range count + 1 {
				what := fmt.Sprintf("limit %d, power for %d, %d bytes kept", limit, calls, kept)
				e := d.Fork()
				var keep []api.Torn
				if name != "" {
					keep = append(keep, api.Torn{Name: name, Bytes: kept})
				}
				want(t, what, e.Crash(keep), api.OK)
				for again := range 3 {
					f := e.Fork()
					f.Stop(again)
					_, _, _ = wal.Open(f, "log", 30)
					want(t, what, f.Crash(nil), api.OK)
					checkFound(t, what, f, k)
				}
				checkFound(t, what, e, k)
			}
		}
	}
}

// Any bytes in the files: Open ends, and what it leaves is opened again with the same records.
func FuzzOpen(f *testing.F) {
	f.Add(segment(0, "a"), segment(1, "b"), 20)
	f.Add(segment(0, "a"), segment(1, "b")+"x", 1)
	f.Add(segment(7, "a"), "", 1000)
	f.Add("x", "", 3)
	f.Fuzz(func(t *testing.T, one, two string, limit int) {
		d := newDisk(t, 1<<20)
		if d.Append("log-1", []byte(one)) != api.OK || d.Append("log-2", []byte(two)) != api.OK {
			return
		}
		l, recs, err := wal.Open(d, "log", limit)
		if err != api.OK {
			if l != nil || recs != nil || err != api.ErrWal && err != api.ErrArg {
				t.Errorf("Open: %v, %q, %d", l, recs, err)
			}
			return
		}
		files := d.Files()
		again, same, err := wal.Open(d, "log", limit)
		if err != api.OK || !slices.Equal(same, recs) || again.Next() != l.Next() || again.First() != l.First() || !slices.Equal(d.Files(), files) {
			t.Errorf("Open again: %q, not %q", same, recs)
		}
	})
}
