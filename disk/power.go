package disk

import (
	"pannier/api"
	"pannier/codec"
)

// Stop turns the disk off behind n further changes that are OK; below 0: never.
func (d *Disk) Stop(n int) {
	// What is off stays off until a crash.
	if d.closed() || d.Off() {
		return
	}
	d.calls = n
}

// Off asks whether the disk is off.
func (d *Disk) Off() bool {
	return !d.closed() && d.calls == 0
}

// Crash leaves each file its sure bytes, and as many of the unsure ones as keep says: all sure now.
// The disk is on again, with no Stop.
func (d *Disk) Crash(keep []api.Torn) api.Errno {
	if d.closed() {
		return api.ErrClosed
	}
	lasting, ok := d.lasting(keep)
	if !ok {
		return api.ErrArg
	}
	for name, f := range d.files {
		f.cut(f.sure + lasting[name])
	}
	d.calls = never
	return api.OK
}

// lasting answers by files' names how many unsure bytes last, and whether keep may be.
func (d *Disk) lasting(keep []api.Torn) (map[string]int, bool) {
	lasting := map[string]int{}
	for _, k := range keep {
		f := d.files[k.Name]
		_, twice := lasting[k.Name]
		if f == nil || twice || k.Bytes < 0 || k.Bytes > f.unsure() {
			return nil, false
		}
		lasting[k.Name] = k.Bytes
	}
	return lasting, true
}

// change does what a disk that is off does not do, and counts it, if it is OK.
func (d *Disk) change(do func() api.Errno) api.Errno {
	if d.closed() {
		return api.ErrClosed
	}
	if d.Off() {
		return api.ErrOff
	}
	err := do()
	if err == api.OK && d.calls > 0 {
		d.calls--
	}
	return err
}

// changeFile is a change of a file that is there.
func (d *Disk) changeFile(name string, do func(f *file) api.Errno) api.Errno {
	return d.change(func() api.Errno {
		f := d.files[name]
		if f == nil {
			return api.ErrNone
		}
		return do(f)
	})
}

// giveName is a change by which a file may get that name: one that may not be is refused ahead of the power.
func (d *Disk) giveName(name string, do func() api.Errno) api.Errno {
	if d.closed() {
		return api.ErrClosed
	}
	if !codec.Name(name) {
		return api.ErrFile
	}
	return d.change(do)
}
