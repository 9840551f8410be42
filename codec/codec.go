// Package codec is layer 1: values as bytes, one form for each value. See shared/doc/01-codec.md.
package codec

import (
	"slices"

	"pannier/api"
)

const (
	groupBits = 7
	groupMask = 1<<groupBits - 1
	moreFlag  = 1 << groupBits
	maxGroups = 10
)

// Uint answers b with x's bytes behind, in new memory.
func Uint(b []byte, x uint64) []byte {
	return appendUint(ownCopy(b, maxGroups), x)
}

// ReadUint answers the number with which b begins, and how many bytes it has.
func ReadUint(b []byte) (uint64, int, api.Errno) {
	var x uint64
	for i, c := range b[:min(len(b), maxGroups)] {
		x |= uint64(c&groupMask) << (groupBits * i)
		if c&moreFlag != 0 {
			continue
		}
		if !rightEnd(c, i) {
			return 0, 0, api.ErrCode
		}
		return x, i + 1, api.OK
	}
	return 0, 0, api.ErrCode
}

// rightEnd asks whether c may be a number's last group, at the place i: a 0 there would be a longer form
// of a shorter one, and the tenth group has room for one bit.
func rightEnd(c byte, i int) bool {
	if i > 0 && c == 0 {
		return false
	}
	return i < maxGroups-1 || c <= 1
}

// Text answers b with s's bytes behind, in new memory.
func Text(b []byte, s string) []byte {
	return appendText(ownCopy(b, maxGroups+len(s)), s)
}

// ReadText answers the text of at most most bytes with which b begins, and how many bytes that takes.
func ReadText(b []byte, most int) (string, int, api.Errno) {
	size, n, err := readCount(b, most)
	if err != api.OK || size > len(b)-n {
		return "", 0, api.ErrCode
	}
	return string(b[n : n+size]), n + size, api.OK
}

// List answers b with how many items l has behind, and each of them by put, in new memory.
// Without a put nothing is written of the items.
func List[T any](b []byte, l []T, put func(b []byte, x T) []byte) []byte {
	out := ownCopy(b, maxGroups)
	if put == nil {
		return appendUint(out, uint64(len(l)))
	}
	// put may have kept what it answered, or have taken it from an item.
	return slices.Clone(appendList(out, l, put))
}

// ReadList answers the list of at most most items with which b begins, each by read, and how many bytes
// that takes. Items without a read are ErrArg; a read that took more than there was, or less than
// nothing, is ErrCode.
func ReadList[T any](b []byte, most int, read func(b []byte) (T, int, api.Errno)) ([]T, int, api.Errno) {
	count, at, err := readCount(b, most)
	if err != api.OK {
		return nil, 0, err
	}
	if read == nil && count > 0 {
		return nil, 0, api.ErrArg
	}
	var l []T
	for range count {
		// The room behind b's end is kept from a read that appends.
		x, n, err := read(b[at:len(b):len(b)])
		if err != api.OK {
			return nil, 0, err
		}
		if n < 0 || n > len(b)-at {
			return nil, 0, api.ErrCode
		}
		l = append(l, x)
		at += n
	}
	return l, at, api.OK
}

// readCount reads how many bytes or items follow, if these are at most most.
func readCount(b []byte, most int) (int, int, api.Errno) {
	x, n, err := ReadUint(b)
	if err != api.OK || most < 0 || x > uint64(most) {
		return 0, 0, api.ErrCode
	}
	return int(x), n, api.OK
}

// ownCopy answers b in memory of its own, with room for more bytes behind.
func ownCopy(b []byte, more int) []byte {
	return append(make([]byte, 0, len(b)+more), b...)
}

// The functions from here on append in place: what they are handed must be the program's own. A value
// of many parts would else be copied at each of them.

func appendUint(b []byte, x uint64) []byte {
	for x > groupMask {
		b = append(b, byte(x&groupMask)|moreFlag)
		x >>= groupBits
	}
	return append(b, byte(x))
}

func appendText(b []byte, s string) []byte {
	return append(appendUint(b, uint64(len(s))), s...)
}

func appendList[T any](b []byte, l []T, put func(b []byte, x T) []byte) []byte {
	b = appendUint(b, uint64(len(l)))
	for _, x := range l {
		b = put(b, x)
	}
	return b
}
