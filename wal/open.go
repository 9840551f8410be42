package wal

import (
	"cmp"
	"iter"
	"slices"
	"strconv"
	"strings"

	"pannier/api"
	"pannier/codec"
	"pannier/disk"
	"pannier/frame"
)

// maxName leaves room for a number behind a log's name.
const maxName = 16

// found is a segment as it lies on the disk.
type found struct {
	number  int
	size    int // of the file
	framed  int // how many of its bytes are frames
	based   bool
	base    int
	records []string
}

// Open finds the log of that name on d, takes off what a crash tore, and answers its records.
func Open(d *disk.Disk, name string, segment int) (*Log, []string, api.Errno) {
	if d == nil || !codec.Name(name) || len(name) > maxName || segment < 1 || segment > api.MaxSegment {
		return nil, nil, api.ErrArg
	}
	l := &Log{disk: d, prefix: name + "-", limit: segment}
	segments, err := l.find()
	if err != api.OK {
		return nil, nil, err
	}
	if !follow(segments) {
		return nil, nil, api.ErrWal
	}
	segments, err = l.mend(segments)
	if err != api.OK {
		return nil, nil, err
	}
	for _, s := range segments {
		l.begin(s.number, s.base, s.framed)
		l.next = s.end()
	}
	if err := l.Sync(); err != api.OK {
		return nil, nil, err
	}
	return l, slices.Collect(records(segments)), api.OK
}

// find answers the log's segments, by rising numbers; ErrWal, if one has a number that cannot be told.
func (l *Log) find() ([]found, api.Errno) {
	var segments []found
	for digits, bytes := range numbered(l.disk.Files(), l.prefix) {
		number, err := strconv.Atoi(digits)
		if err != nil {
			return nil, api.ErrWal
		}
		segments = append(segments, read(number, bytes))
	}
	slices.SortFunc(segments, func(a, b found) int { return cmp.Compare(a.number, b.number) })
	return segments, api.OK
}

// numbered goes over the files whose names are the prefix and a number: that number's digits, and the file's bytes.
func numbered(files []api.File, prefix string) iter.Seq2[string, string] {
	return func(yield func(string, string) bool) {
		for _, f := range files {
			digits, ok := strings.CutPrefix(f.Name, prefix)
			if ok && isNumber(digits) && !yield(digits, f.Bytes) {
				return
			}
		}
	}
}

// isNumber asks whether s is a number from 1 on, without noughts ahead.
func isNumber(s string) bool {
	noDigit := func(r rune) bool { return r < '0' || r > '9' }
	return s != "" && s[0] != '0' && !strings.ContainsFunc(s, noDigit)
}

// read answers what a segment's bytes say.
func read(number int, bytes string) found {
	payloads, framed := frame.Scan([]byte(bytes))
	s := found{number: number, size: len(bytes), framed: framed}
	if len(payloads) > 0 {
		s.base, s.based = readBase(payloads[0])
		s.records = payloads[1:]
	}
	return s
}

// readBase answers the base that a payload is, and whether it is one.
func readBase(payload string) (int, bool) {
	base, size, err := codec.ReadUint([]byte(payload))
	if err != api.OK || size != len(payload) || base > api.MaxSeq {
		return 0, false
	}
	return int(base), true
}

// end is the index behind the segment's records.
func (s found) end() int {
	return s.base + len(s.records)
}

// follow asks whether each segment follows the one ahead. The last one may be torn; without a base it cannot tell what it follows.
func follow(segments []found) bool {
	for i := 1; i < len(segments); i++ {
		ahead, s := segments[i-1], segments[i]
		if s.number-ahead.number != 1 || !ahead.based || ahead.framed != ahead.size {
			return false
		}
		if s.based && s.base != ahead.end() {
			return false
		}
	}
	return true
}

// mend takes off the last segment what stands behind its frames, and the segment itself, if it has no base; it answers those that are left.
func (l *Log) mend(segments []found) ([]found, api.Errno) {
	if len(segments) == 0 {
		return nil, api.OK
	}
	rest, last := segments[:len(segments)-1], segments[len(segments)-1]
	if last.framed < last.size {
		if err := l.disk.Cut(l.file(last.number), last.framed); err != api.OK {
			return nil, err
		}
	}
	if last.based {
		return segments, api.OK
	}
	return rest, l.disk.Remove(l.file(last.number))
}

// records goes over all records of segments, in order.
func records(segments []found) iter.Seq[string] {
	return func(yield func(string) bool) {
		for _, s := range segments {
			for _, rec := range s.records {
				if !yield(rec) {
					return
				}
			}
		}
	}
}
