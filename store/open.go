package store

import (
	"slices"
	"strings"

	"pannier/api"
	"pannier/codec"
	"pannier/disk"
	"pannier/frame"
	"pannier/wal"
)

// maxName leaves room behind a store's name for what its files' names say.
const maxName = 8

// Open finds the store of that name on d, removes what does not count, and answers the snapshot, and the records behind it.
func Open(d *disk.Disk, name string, segment int) (*Store, string, []string, api.Errno) {
	if d == nil || !codec.Name(name) || len(name) > maxName || segment < 1 || segment > api.MaxSegment {
		return nil, "", nil, api.ErrArg
	}
	s := &Store{disk: d, prefix: name + "-"}
	snapshot, err := s.find()
	if err != api.OK {
		return nil, "", nil, err
	}
	records, err := s.openLog(segment)
	if err != api.OK {
		return nil, "", nil, err
	}
	if err := s.tidy(); err != api.OK {
		return nil, "", nil, err
	}
	return s, snapshot, records, api.OK
}

// find takes the manifest, and answers its snapshot; an empty one, if there is no manifest.
func (s *Store) find() (string, api.Errno) {
	bytes, err := s.disk.Read(s.manifestFile())
	if err == api.ErrNone {
		return "", api.OK
	}
	if err != api.OK {
		return "", err
	}
	now, ok := readManifest(bytes)
	if !ok {
		return "", api.ErrStore
	}
	s.now = now
	bytes, err = s.disk.Read(s.snapshotFile(now.number))
	snapshot, ok := onlyFrame(bytes)
	if err != api.OK || !ok {
		return "", api.ErrStore
	}
	return snapshot, api.OK
}

// readManifest answers what a manifest's bytes say, and whether they are one's.
func readManifest(bytes string) (manifest, bool) {
	payload, ok := onlyFrame(bytes)
	if !ok {
		return manifest{}, false
	}
	number, rest, ok := readNumber(payload)
	if !ok || number == 0 {
		return manifest{}, false
	}
	index, rest, ok := readNumber(rest)
	return manifest{number, index}, ok && rest == ""
}

// readNumber answers the number with which s begins, what is behind it, and whether there is one that may be.
func readNumber(s string) (int, string, bool) {
	x, size, err := codec.ReadUint([]byte(s))
	if err != api.OK || x > api.MaxSeq {
		return 0, "", false
	}
	return int(x), s[size:], true
}

// onlyFrame answers the payload of the one frame that bytes are, and whether they are one.
func onlyFrame(bytes string) (string, bool) {
	payloads, framed := frame.Scan([]byte(bytes))
	if len(payloads) != 1 || framed != len(bytes) {
		return "", false
	}
	return payloads[0], true
}

// openLog takes the log, and answers its records behind the snapshot. Where the log does not go with the manifest nothing may change, but wal.Open mends what it finds: so the log is opened on another disk ahead.
func (s *Store) openLog(segment int) ([]string, api.Errno) {
	name := s.prefix + "log"
	trial, _, err := wal.Open(s.disk.Fork(), name, segment)
	if err == api.OK && (trial.First() > s.now.index || trial.Next() < s.now.index) {
		return nil, api.ErrStore
	}
	log, records, err := wal.Open(s.disk, name, segment)
	if err != api.OK {
		return nil, err
	}
	s.log = log
	return slices.Clone(records[s.now.index-log.First():]), api.OK
}

// tidy removes what an Install that did not end may have left: snapshots that do not count, and a new file.
func (s *Store) tidy() api.Errno {
	for _, f := range s.disk.Files() {
		if !s.isLeft(f.Name) {
			continue
		}
		if err := s.disk.Remove(f.Name); err != api.OK {
			return err
		}
	}
	return api.OK
}

// isLeft asks whether a file of that name is the store's, and does not count.
func (s *Store) isLeft(name string) bool {
	digits, ok := strings.CutPrefix(name, s.prefix+"snap-")
	return name == s.newFile() || ok && isNumber(digits) && name != s.snapshotFile(s.now.number)
}

// isNumber asks whether s is a number from 1 on, without noughts ahead.
func isNumber(s string) bool {
	noDigit := func(r rune) bool { return r < '0' || r > '9' }
	return s != "" && s[0] != '0' && !strings.ContainsFunc(s, noDigit)
}
