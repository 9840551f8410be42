package codec_test

import (
	"bytes"
	"encoding/binary"
	"math"
	"math/rand"
	"slices"
	"strings"
	"testing"

	"pannier/api"
	"pannier/codec"
)

// roomy answers bytes with room behind their end, and a function that tells whether all of it is as it was.
func roomy(s string) ([]byte, func() bool) {
	whole := append([]byte(s), bytes.Repeat([]byte{0xee}, 64)...)
	was := slices.Clone(whole)
	return whole[:len(s)], func() bool { return bytes.Equal(whole, was) }
}

func TestUint(t *testing.T) {
	forms := []struct {
		x    uint64
		form string
	}{
		{0, "\x00"}, {1, "\x01"}, {127, "\x7f"}, {128, "\x80\x01"}, {300, "\xac\x02"},
		{16383, "\xff\x7f"}, {16384, "\x80\x80\x01"}, {1 << 32, "\x80\x80\x80\x80\x10"},
		{1<<63 - 1, "\xff\xff\xff\xff\xff\xff\xff\xff\x7f"},
		{1 << 63, "\x80\x80\x80\x80\x80\x80\x80\x80\x80\x01"},
		{math.MaxUint64, "\xff\xff\xff\xff\xff\xff\xff\xff\xff\x01"},
	}
	for _, f := range forms {
		if b := codec.Uint(nil, f.x); string(b) != f.form {
			t.Errorf("Uint(%d): % x", f.x, b)
		}
		if b := codec.Uint([]byte("ab"), f.x); string(b) != "ab"+f.form {
			t.Errorf("Uint behind ab (%d): % x", f.x, b)
		}
		for _, behind := range []string{"", "\x00", "\xff\xff"} {
			x, n, err := codec.ReadUint([]byte(f.form + behind))
			if x != f.x || n != len(f.form) || err != api.OK {
				t.Errorf("ReadUint(%q + %q): %d, %d, %d", f.form, behind, x, n, err)
			}
		}
		for cut := range len(f.form) {
			if x, n, err := codec.ReadUint([]byte(f.form[:cut])); x != 0 || n != 0 || err != api.ErrCode {
				t.Errorf("ReadUint(%q): %d, %d, %d", f.form[:cut], x, n, err)
			}
		}
	}
}

func TestReadUintRefuses(t *testing.T) {
	ff := strings.Repeat("\xff", 9)
	for _, s := range []string{
		"", "\x80", "\x80\x00", "\x81\x00", "\xff\x80\x00", "\x80\x80",
		ff + "\x00", ff + "\x02", ff + "\x7f", ff + "\x80", ff + "\x81", ff + "\xff",
		ff + "\x81\x00", ff + "\x80\x01", ff + "\xff\x01", strings.Repeat("\x80", 40) + "\x01",
	} {
		if x, n, err := codec.ReadUint([]byte(s)); x != 0 || n != 0 || err != api.ErrCode {
			t.Errorf("ReadUint(%q): %d, %d, %d", s, x, n, err)
		}
	}
}

// Of any bytes: just what another reader of such groups tells, where it is the shortest form.
func TestReadUintOfAnyBytes(t *testing.T) {
	rng := rand.New(rand.NewSource(1))
	for range 200000 {
		b := make([]byte, rng.Intn(13))
		for i := range b {
			b[i] = []byte{0, 1, 2, 0x7f, 0x80, 0x81, 0xff, byte(rng.Int())}[rng.Intn(8)]
		}
		want, size := binary.Uvarint(b)
		x, n, err := codec.ReadUint(b)
		if size <= 0 || !bytes.Equal(binary.AppendUvarint(nil, want), b[:size]) {
			if x != 0 || n != 0 || err != api.ErrCode {
				t.Fatalf("ReadUint(% x): %d, %d, %d", b, x, n, err)
			}
			continue
		}
		if x != want || n != size || err != api.OK {
			t.Fatalf("ReadUint(% x): %d, %d, %d", b, x, n, err)
		}
	}
}

func TestText(t *testing.T) {
	long := strings.Repeat("x", 300)
	forms := []struct{ s, form string }{
		{"", "\x00"}, {"ab", "\x02ab"}, {"\x00\xff", "\x02\x00\xff"}, {long, "\xac\x02" + long},
	}
	for _, f := range forms {
		if b := codec.Text([]byte("q"), f.s); string(b) != "q"+f.form {
			t.Errorf("Text(%q): % x", f.s, b)
		}
		for _, most := range []int{len(f.s), len(f.s) + 1, math.MaxInt} {
			s, n, err := codec.ReadText([]byte(f.form+"zz"), most)
			if s != f.s || n != len(f.form) || err != api.OK {
				t.Errorf("ReadText(%q, %d): %q, %d, %d", f.form, most, s, n, err)
			}
		}
		for _, most := range []int{len(f.s) - 1, -1, math.MinInt} {
			if s, n, err := codec.ReadText([]byte(f.form), most); s != "" || n != 0 || err != api.ErrCode {
				t.Errorf("ReadText(%q, %d): %q, %d, %d", f.form, most, s, n, err)
			}
		}
		for cut := range len(f.form) {
			if s, n, err := codec.ReadText([]byte(f.form[:cut]), 1000); s != "" || n != 0 || err != api.ErrCode {
				t.Errorf("ReadText(%q): %q, %d, %d", f.form[:cut], s, n, err)
			}
		}
	}
	huge := codec.Uint(nil, math.MaxUint64)
	for _, b := range [][]byte{{0x82, 0x00, 'a', 'b'}, append(huge, 'a'), append(codec.Uint(nil, math.MaxInt64), 'a')} {
		if s, n, err := codec.ReadText(b, math.MaxInt); s != "" || n != 0 || err != api.ErrCode {
			t.Errorf("ReadText(% x): %q, %d, %d", b, s, n, err)
		}
	}
}

func TestList(t *testing.T) {
	var handed []string
	put := func(b []byte, x string) []byte {
		handed = append(handed, string(b)+"|"+x)
		return append(b, x...)
	}
	if b := codec.List([]byte("b"), []string{"x", "yz", ""}, put); string(b) != "b\x03xyz" {
		t.Errorf("List: %q", b)
	}
	if want := []string{"b\x03|x", "b\x03x|yz", "b\x03xyz|"}; !slices.Equal(handed, want) {
		t.Errorf("put was handed %q", handed)
	}
	for _, l := range [][]uint64{nil, {}} {
		if b := codec.List(nil, l, codec.Uint); string(b) != "\x00" {
			t.Errorf("an empty list: %q", b)
		}
	}
	if b := codec.List(nil, make([]uint64, 300), codec.Uint); len(b) != 302 || string(b[:3]) != "\xac\x02\x00" {
		t.Errorf("a long list: % x", b)
	}
	if b := codec.List([]byte("b"), []string{"x"}, nil); string(b) != "b\x01" {
		t.Errorf("without a put: %q", b)
	}
}

// What is answered is new memory: neither the arguments, nor the room behind them, nor what put has kept.
func TestWrittenIsNewMemory(t *testing.T) {
	b, same := roomy("abc")
	one, two := codec.Uint(b, 5), codec.Uint(b, 6)
	three, four := codec.Text(b, "x"), codec.Text(b, "y")
	five, six := codec.List(b, []string{"v"}, codec.Text), codec.List(b, []string{"w"}, codec.Text)
	if string(one) != "abc\x05" || string(two) != "abc\x06" || string(three) != "abc\x01x" || string(four) != "abc\x01y" {
		t.Errorf("%q %q %q %q", one, two, three, four)
	}
	if string(five) != "abc\x01\x01v" || string(six) != "abc\x01\x01w" {
		t.Errorf("%q %q", five, six)
	}
	for _, out := range [][]byte{one, two, three, four, five, six} {
		clear(out[:cap(out)])
	}
	if !same() {
		t.Error("an argument was changed")
	}

	item, same := roomy("item")
	answer := codec.List(nil, [][]byte{item}, func(b []byte, x []byte) []byte { return x })
	if string(answer) != "item" {
		t.Errorf("%q", answer)
	}
	clear(answer[:cap(answer)])
	if !same() {
		t.Error("an item was changed")
	}

	var kept []byte
	answer = codec.List(nil, []byte("pq"), func(b []byte, x byte) []byte {
		kept = append(b, x)
		return kept
	})
	clear(kept[:cap(kept)])
	if string(answer) != "\x02pq" {
		t.Errorf("%q", answer)
	}
}

func readByte(b []byte) (byte, int, api.Errno) {
	if len(b) == 0 {
		return 0, 0, api.ErrNone
	}
	if b[0] == '!' {
		return 'q', 7, api.ErrTwice
	}
	return b[0], 1, api.OK
}

func TestReadList(t *testing.T) {
	var handed []string
	l, n, err := codec.ReadList([]byte("\x03xyz!!"), 3, func(b []byte) (byte, int, api.Errno) {
		handed = append(handed, string(b))
		return readByte(b)
	})
	if string(l) != "xyz" || n != 4 || err != api.OK {
		t.Errorf("ReadList: %q, %d, %d", l, n, err)
	}
	if want := []string{"xyz!!", "yz!!", "z!!"}; !slices.Equal(handed, want) {
		t.Errorf("read was handed %q", handed)
	}
	if l, n, err := codec.ReadList([]byte("\x00!"), 0, readByte); len(l) != 0 || n != 1 || err != api.OK {
		t.Errorf("an empty list: %q, %d, %d", l, n, err)
	}
	empty := func(b []byte) (int, int, api.Errno) { return len(b), 0, api.OK }
	if l, n, err := codec.ReadList([]byte("\x02a"), 9, empty); !slices.Equal(l, []int{1, 1}) || n != 1 || err != api.OK {
		t.Errorf("items of no bytes: %v, %d, %d", l, n, err)
	}
}

func TestReadListRefuses(t *testing.T) {
	refused := []struct {
		s    string
		most int
		err  api.Errno
	}{
		{"", 9, api.ErrCode}, {"\x80", 9, api.ErrCode}, {"\x81\x00a", 9, api.ErrCode},
		{"\x03xyz", 2, api.ErrCode}, {"\x01x", 0, api.ErrCode}, {"\x00", -1, api.ErrCode},
		{"\x01x", math.MinInt, api.ErrCode}, {"\xff\xff\xff\xff\xff\xff\xff\xff\xff\x01x", math.MaxInt, api.ErrCode},
		{"\x03xy", 9, api.ErrNone}, {"\x03x!z", 9, api.ErrTwice}, {"\x03!", 9, api.ErrTwice},
		{"\xff\xff\xff\xff\xff\xff\xff\xff\x7fxy", math.MaxInt, api.ErrNone},
	}
	for _, r := range refused {
		l, n, err := codec.ReadList([]byte(r.s), r.most, readByte)
		if len(l) != 0 || n != 0 || err != r.err {
			t.Errorf("ReadList(%q, %d): %q, %d, %d", r.s, r.most, l, n, err)
		}
	}
	calls := 0
	codec.ReadList([]byte("\x03x!z"), 9, func(b []byte) (byte, int, api.Errno) {
		calls++
		return readByte(b)
	})
	if calls != 2 {
		t.Errorf("read was called %d times", calls)
	}
}

// A read that tells nonsense, or is none at all, makes no panic.
func TestReadListOfWrongReads(t *testing.T) {
	for _, size := range []int{-1, 3, math.MinInt, math.MaxInt} {
		wrong := func(b []byte) (int, int, api.Errno) { return 1, size, api.OK }
		if l, n, err := codec.ReadList([]byte("\x02ab"), 9, wrong); len(l) != 0 || n != 0 || err != api.ErrCode {
			t.Errorf("a read of %d: %v, %d, %d", size, l, n, err)
		}
	}
	if l, n, err := codec.ReadList[int]([]byte("\x00"), 9, nil); len(l) != 0 || n != 1 || err != api.OK {
		t.Errorf("without a read: %v, %d, %d", l, n, err)
	}
	if l, n, err := codec.ReadList[int]([]byte("\x01a"), 9, nil); len(l) != 0 || n != 0 || err != api.ErrArg {
		t.Errorf("without a read: %v, %d, %d", l, n, err)
	}
	b, same := roomy("\x02ab")
	codec.ReadList(b, 9, func(b []byte) (byte, int, api.Errno) {
		_ = append(b, "over"...)
		return b[0], 1, api.OK
	})
	if !same() {
		t.Error("the room behind an argument was changed")
	}
}

func TestName(t *testing.T) {
	for _, s := range []string{"a", "z", "0", "9", "-", "c-1", "az09-", strings.Repeat("x", 32)} {
		if !codec.Name(s) {
			t.Errorf("%q may be a name", s)
		}
	}
	for _, s := range []string{"", strings.Repeat("x", 33), "A", "a b", "a_b", "é", "a\x00", "`", "{", "/", ":", ",", ".", "a\n"} {
		if codec.Name(s) {
			t.Errorf("%q may be none", s)
		}
	}
	for c := range 256 {
		want := strings.IndexByte("abcdefghijklmnopqrstuvwxyz0123456789-", byte(c)) >= 0
		if codec.Name(string([]byte{byte(c)})) != want {
			t.Errorf("the byte %d", c)
		}
	}
}
