package disk

// file is a file's bytes, of which the first sure ones last behind a crash.
type file struct {
	bytes []byte
	sure  int
}

// cut leaves the first size bytes, all of them sure.
func (f *file) cut(size int) {
	f.bytes = f.bytes[:size]
	f.sure = size
}

func (f *file) unsure() int {
	return len(f.bytes) - f.sure
}
