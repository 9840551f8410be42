package store

import (
	"pannier/api"
	"pannier/codec"
	"pannier/frame"
)

// Install makes snapshot the one that counts, in the stead of the one ahead and of all records. Each file is made under another name, and is sure ahead of its renaming: so it is there whole, or not at all.
func (s *Store) Install(snapshot string) api.Errno {
	if s.closed() {
		return api.ErrClosed
	}
	framed, err := frame.Put(nil, snapshot)
	if err != api.OK {
		return err
	}
	if s.now.number >= api.MaxSeq {
		return api.ErrLong // a manifest of a greater number would be none
	}
	ahead, next := s.now, manifest{number: s.now.number + 1, index: s.log.Next()}
	err = inTurn([]func() api.Errno{
		s.log.Sync,
		func() api.Errno { return s.write(s.snapshotFile(next.number), framed) },
		func() api.Errno { return s.writeManifest(next) },
	})
	if err != api.OK {
		_ = s.removeNew() // what was refused is told, not this
		return err
	}
	s.now = next
	return inTurn([]func() api.Errno{
		func() api.Errno { return s.removeSnapshot(ahead) },
		func() api.Errno { return s.log.Drop(next.index) },
	})
}

// write makes a file with those bytes, at once; one of that name is gone.
func (s *Store) write(name string, b []byte) api.Errno {
	return inTurn([]func() api.Errno{
		s.removeNew,
		func() api.Errno { return s.disk.Append(s.newFile(), b) },
		func() api.Errno { return s.disk.Sync(s.newFile()) },
		func() api.Errno { return s.disk.Rename(s.newFile(), name) },
	})
}

// writeManifest makes m the manifest. If it is refused, m's snapshot does not count, and would take room that the store had.
func (s *Store) writeManifest(m manifest) api.Errno {
	err := s.write(s.manifestFile(), m.framed())
	if err != api.OK {
		_ = s.removeSnapshot(m) // what was refused is told, not this
	}
	return err
}

// framed is a manifest's bytes; two numbers are never too long for a frame.
func (m manifest) framed() []byte {
	numbers := codec.Uint(codec.Uint(nil, uint64(m.number)), uint64(m.index))
	b, _ := frame.Put(nil, string(numbers))
	return b
}

// removeNew removes the new file, if there is one.
func (s *Store) removeNew() api.Errno {
	err := s.disk.Remove(s.newFile())
	if err == api.ErrNone {
		return api.OK
	}
	return err
}

// removeSnapshot removes m's snapshot, if it has one.
func (s *Store) removeSnapshot(m manifest) api.Errno {
	if m.number == 0 {
		return api.OK
	}
	return s.disk.Remove(s.snapshotFile(m.number))
}

// inTurn does what steps say, one behind the other, up to the first one that is refused.
func inTurn(steps []func() api.Errno) api.Errno {
	for _, step := range steps {
		if err := step(); err != api.OK {
			return err
		}
	}
	return api.OK
}
