package frame_test

import (
	"bytes"
	"hash/crc32"
	"math/rand"
	"slices"
	"strings"
	"testing"

	"pannier/api"
	"pannier/frame"
)

func put(t *testing.T, payloads ...string) []byte {
	t.Helper()
	var b []byte
	for _, p := range payloads {
		c, err := frame.Put(b, p)
		if err != api.OK {
			t.Fatal(err)
		}
		b = c
	}
	return b
}

func TestSum(t *testing.T) {
	sums := []struct {
		s   string
		sum uint32
	}{{"", 0}, {"a", 0xc1d04330}, {"123456789", 0xe3069283}, {strings.Repeat("\x00", 32), 0x8a9136aa}, {strings.Repeat("\xff", 32), 0x62a8ab43}}
	for _, s := range sums {
		if x := frame.Sum([]byte(s.s)); x != s.sum {
			t.Errorf("Sum(%q): %x", s.s, x)
		}
	}
	rng := rand.New(rand.NewSource(1))
	table := crc32.MakeTable(crc32.Castagnoli)
	for size := range 600 {
		b := make([]byte, size)
		rng.Read(b)
		was := bytes.Clone(b)
		if x := frame.Sum(b); x != crc32.Checksum(b, table) || !bytes.Equal(b, was) {
			t.Errorf("Sum(% x): %x", b, x)
		}
	}
}

func TestPut(t *testing.T) {
	if b := put(t, ""); string(b) != "\x00\x00\x00\x00\x48\x67\x4b\xc7" {
		t.Errorf("Put(nil, \"\"): % x", b)
	}
	sum := frame.Sum([]byte("\x00\x00\x00\x02hi"))
	want := "ab\x00\x00\x00\x02" + string([]byte{byte(sum >> 24), byte(sum >> 16), byte(sum >> 8), byte(sum)}) + "hi"
	if b, err := frame.Put([]byte("ab"), "hi"); string(b) != want || err != api.OK {
		t.Errorf("Put: %q, %d", b, err)
	}
	most := strings.Repeat("x", 65536)
	b := put(t, most)
	if string(b[:4]) != "\x00\x01\x00\x00" || len(b) != 65544 {
		t.Errorf("a payload of 65536 bytes: % x, %d", b[:4], len(b))
	}
	if l, n := frame.Scan(b); len(l) != 1 || l[0] != most || n != 65544 {
		t.Errorf("is not told: %d", n)
	}
	if b, err := frame.Put([]byte("ab"), most+"x"); len(b) != 0 || err != api.ErrFrame {
		t.Errorf("a payload of 65537 bytes: %d", err)
	}
}

func TestPutIsNewMemory(t *testing.T) {
	whole := []byte("abc" + strings.Repeat("\xee", 60))
	was := bytes.Clone(whole)
	one, _ := frame.Put(whole[:3], "x")
	two, _ := frame.Put(whole[:3], "y")
	if one[len(one)-1] != 'x' || two[len(two)-1] != 'y' {
		t.Error("two answers share memory")
	}
	clear(one[:cap(one)])
	clear(two[:cap(two)])
	if !bytes.Equal(whole, was) {
		t.Error("an argument was changed")
	}
}

// framesOf goes over the iterator of b.
func framesOf(b []byte) ([]int, []string) {
	var places []int
	var payloads []string
	for at, p := range frame.All(b) {
		places, payloads = append(places, at), append(payloads, p)
	}
	return places, payloads
}

func TestAll(t *testing.T) {
	b := put(t, "one", "", "three")
	places, payloads := framesOf(b)
	if !slices.Equal(places, []int{0, 11, 19}) || !slices.Equal(payloads, []string{"one", "", "three"}) {
		t.Errorf("All: %v, %q", places, payloads)
	}
	for range frame.All(nil) {
		t.Error("nil has no frames")
	}
	all := frame.All(b)
	for range 2 {
		for at, p := range all {
			if at != 0 || p != "one" {
				t.Errorf("does not begin anew: %d, %q", at, p)
			}
			break
		}
	}
	clear(b) // the iterator goes over what b was when it was asked for
	count := 0
	for range all {
		count++
	}
	if count != 3 {
		t.Errorf("%d frames, behind a change of b", count)
	}
}

func TestScan(t *testing.T) {
	if l, n := frame.Scan(nil); len(l) != 0 || n != 0 {
		t.Errorf("Scan(nil): %q, %d", l, n)
	}
	b := put(t, "one", "", "three")
	l, n := frame.Scan(b)
	if !slices.Equal(l, []string{"one", "", "three"}) || n != len(b) {
		t.Errorf("Scan: %q, %d", l, n)
	}
	clear(b)
	if l[2] != "three" {
		t.Error("payloads hang on the bytes")
	}
}

// Cut off anywhere, with anything behind that is no right frame: all whole frames, and no others.
func TestTorn(t *testing.T) {
	payloads := []string{"one", "", "a longer one, of many bytes", "\x00\x00\x00\x00", "x", ""}
	b := put(t, payloads...)
	ends := []int{0}
	for i := range payloads {
		ends = append(ends, len(put(t, payloads[:i+1]...)))
	}
	for size := range len(b) + 1 {
		whole := 0
		for whole+1 < len(ends) && ends[whole+1] <= size {
			whole++
		}
		l, n := frame.Scan(b[:size])
		if !slices.Equal(l, payloads[:whole]) || n != ends[whole] {
			t.Errorf("the first %d bytes: %q, %d", size, l, n)
		}
		if places, p := framesOf(b[:size]); !slices.Equal(p, payloads[:whole]) || len(places) != whole {
			t.Errorf("All of the first %d bytes: %v, %q", size, places, p)
		}
	}
	long := []byte{0, 1, 0, 1, 0, 0, 0, 0}
	sum := frame.Sum(append(bytes.Clone(long[:4]), make([]byte, 65537)...))
	long = append(long[:4], byte(sum>>24), byte(sum>>16), byte(sum>>8), byte(sum))
	long = append(long, make([]byte, 65537)...)
	for _, behind := range [][]byte{{0}, {0, 0, 0, 0}, make([]byte, 8), make([]byte, 100), bytes.Repeat([]byte{0xff}, 50), []byte("\x00\x00\x00\x01"), long} {
		if l, n := frame.Scan(append(bytes.Clone(b), behind...)); !slices.Equal(l, payloads) || n != len(b) {
			t.Errorf("with % x behind: %q, %d", behind[:min(len(behind), 9)], l, n)
		}
	}
}

// A turned bit of a frame, but in its first 4 bytes, ends the frames ahead of it.
func TestTurnedBits(t *testing.T) {
	payloads := []string{"one", "", "some bytes", "last"}
	b := put(t, payloads...)
	end := 0
	for i := range payloads {
		begin := end
		end = len(put(t, payloads[:i+1]...))
		for bit := (begin + 4) * 8; bit < end*8; bit++ {
			c := bytes.Clone(b)
			c[bit/8] ^= 1 << (bit % 8)
			if l, n := frame.Scan(c); !slices.Equal(l, payloads[:i]) || n != begin {
				t.Errorf("bit %d turned: %q, %d", bit, l, n)
			}
		}
	}
}

// Of any bytes: frames that are put again are just the bytes that were told to be theirs.
func FuzzScan(f *testing.F) {
	one, _ := frame.Put(nil, "one")
	two, _ := frame.Put(one, "")
	for _, b := range [][]byte{nil, {0}, make([]byte, 20), one, two, two[:len(two)-1]} {
		f.Add(b)
	}
	f.Fuzz(func(t *testing.T, b []byte) {
		l, n := frame.Scan(b)
		if c := put(t, l...); !bytes.Equal(c, b[:n]) {
			t.Errorf("Scan(% x): %q, %d", b, l, n)
		}
		if _, p := framesOf(b); !slices.Equal(p, l) {
			t.Errorf("All(% x): %q", b, p)
		}
	})
}
