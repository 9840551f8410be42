// Package frame is layer 2: records in a file, each with a check sum. See shared/doc/02-frame.md.
package frame

import (
	"iter"
	"slices"

	"pannier/api"
)

const (
	wordSize = 4
	headSize = 2 * wordSize
)

// Put answers b with the payload's frame behind, in new memory.
func Put(b []byte, payload string) ([]byte, api.Errno) {
	if len(payload) > api.MaxRecord {
		return nil, api.ErrFrame
	}
	out := make([]byte, 0, len(b)+headSize+len(payload))
	out = append(out, b...)
	out = appendWord(out, uint32(len(payload)))
	out = appendWord(out, frameSum(out[len(b):], payload))
	return append(out, payload...), api.OK
}

// All goes over the frames of b as it is now: each with the place of its first byte, and its payload.
func All(b []byte) iter.Seq2[int, string] {
	return frames(slices.Clone(b))
}

// Scan answers all payloads of b's frames, and how many bytes these frames have.
func Scan(b []byte) ([]string, int) {
	var payloads []string
	end := 0
	for at, payload := range frames(b) {
		payloads = append(payloads, payload)
		end = at + headSize + len(payload)
	}
	return payloads, end
}

// frames goes over the frames of b as it is when it is ranged over.
func frames(b []byte) iter.Seq2[int, string] {
	return func(yield func(int, string) bool) {
		at := 0
		for {
			payload, ok := first(b[at:])
			if !ok || !yield(at, payload) {
				return
			}
			at += headSize + len(payload)
		}
	}
}

// first answers the payload of the frame with which b begins, and whether a right one stands there.
func first(b []byte) (string, bool) {
	if len(b) < headSize {
		return "", false
	}
	size := uint64(readWord(b))
	if size > api.MaxRecord || size > uint64(len(b)-headSize) {
		return "", false
	}
	payload := string(b[headSize : headSize+size])
	if readWord(b[wordSize:]) != frameSum(b[:wordSize], payload) {
		return "", false
	}
	return payload, true
}

func appendWord(b []byte, x uint32) []byte {
	return append(b, byte(x>>24), byte(x>>16), byte(x>>8), byte(x))
}

func readWord(b []byte) uint32 {
	return uint32(b[0])<<24 | uint32(b[1])<<16 | uint32(b[2])<<8 | uint32(b[3])
}
