package codec_test

import (
	"bytes"
	"math"
	"math/rand"
	"reflect"
	"slices"
	"strings"
	"testing"

	"pannier/api"
	"pannier/codec"
)

const top = api.MaxSeq

func event() api.Event {
	return api.Event{Dot: api.Dot{Origin: 2, Seq: 300}, Deps: []int{0, 3}, Cart: "c-1", Epoch: 1, Sku: "tea", Qty: 2, Clears: true}
}

func seal() api.Seal {
	return api.Seal{Token: "t", Cart: "c", Epoch: 4, Cut: []int{5}}
}

func msg() api.Msg {
	return api.Msg{Kind: 3, From: 1, To: 2, Ballot: api.Ballot{Round: 7, Node: 6}, Slot: 4, Entry: api.Entry{Seal: seal()},
		Voted: []api.Voted{{Slot: 8, Ballot: api.Ballot{Round: 9, Node: 5}, Entry: api.Entry{Noop: true}}},
		Seen:  []int{1}, Events: []api.Event{event()}, Time: 130}
}

func empty() api.Msg {
	return api.Msg{Entry: api.Entry{Noop: true}}
}

const (
	eventForm = "\x02\xac\x02\x02\x00\x03\x03c-1\x01\x03tea\x02\x01"
	sealForm  = "\x01t\x01c\x04\x01\x05"
	msgForm   = "\x03\x01\x02\x07\x06\x04\x00" + sealForm + "\x01\x08\x09\x05\x01\x01\x01\x01" + eventForm + "\x82\x01"
)

func TestForms(t *testing.T) {
	if b, err := codec.Event(event()); string(b) != eventForm || err != api.OK {
		t.Errorf("Event: %q, %d", b, err)
	}
	if b, err := codec.Seal(seal()); string(b) != sealForm || err != api.OK {
		t.Errorf("Seal: %q, %d", b, err)
	}
	if b, err := codec.Msg(msg()); string(b) != msgForm || err != api.OK {
		t.Errorf("Msg: %q, %d", b, err)
	}
	if b, err := codec.Msg(empty()); string(b) != "\x00\x00\x00\x00\x00\x00\x01\x00\x00\x00\x00" || err != api.OK {
		t.Errorf("Msg of an empty one: %q, %d", b, err)
	}
	if e, n, err := codec.ReadEvent([]byte(eventForm + "behind")); !reflect.DeepEqual(e, event()) || n != len(eventForm) || err != api.OK {
		t.Errorf("ReadEvent: %v, %d, %d", e, n, err)
	}
	if s, n, err := codec.ReadSeal([]byte(sealForm + "behind")); !reflect.DeepEqual(s, seal()) || n != len(sealForm) || err != api.OK {
		t.Errorf("ReadSeal: %v, %d, %d", s, n, err)
	}
	if m, err := codec.ReadMsg([]byte(msgForm)); !reflect.DeepEqual(m, msg()) || err != api.OK {
		t.Errorf("ReadMsg: %v, %d", m, err)
	}
	if m, err := codec.ReadMsg([]byte(msgForm + "\x00")); !reflect.DeepEqual(m, api.Msg{}) || err != api.ErrCode {
		t.Errorf("ReadMsg with a byte behind: %v, %d", m, err)
	}
}

// vectors that may be, and such that may not.
var (
	rightVectors = [][]int{nil, {}, {1}, {0, 1}, {top}, {0, 0, 0, 0, 0, 0, 1}, {top, top, top, top, top, top, top}}
	wrongVectors = [][]int{{0}, {1, 0}, {-1}, {-1, 1}, {top + 1}, {top + 1, 1}, {math.MinInt}, {math.MaxInt}, {1, 1, 1, 1, 1, 1, 1, 1}}
	rightNames   = []string{"a", "-", "0", strings.Repeat("z", 32)}
	wrongNames   = []string{"", "A", "a b", "é", strings.Repeat("z", 33)}
)

// each tries a field at each value.
func each[T, X any](l []X, base func() T, set func(x *T, v X), check func(x T)) {
	for _, v := range l {
		x := base()
		set(&x, v)
		check(x)
	}
}

// numbers tries a field at the edges of 0 to most, and beyond them.
func numbers[T any](most int, base func() T, set func(x *T, v int), right, wrong func(x T)) {
	each([]int{0, 1, most - 1, most}, base, set, right)
	each([]int{-1, math.MinInt, most + 1, math.MaxInt}, base, set, wrong)
}

func names[T any](base func() T, set func(x *T, v string), right, wrong func(x T)) {
	each(rightNames, base, set, right)
	each(wrongNames, base, set, wrong)
}

func vectors[T any](base func() T, set func(x *T, v []int), right, wrong func(x T)) {
	each(rightVectors, base, set, right)
	each(wrongVectors, base, set, wrong)
}

func TestEventParts(t *testing.T) {
	right := func(e api.Event) {
		b, err := codec.Event(e)
		if err != api.OK {
			t.Errorf("Event(%v): %d", e, err)
		}
		o, n, err := codec.ReadEvent(b)
		if c, _ := codec.Event(o); n != len(b) || err != api.OK || !bytes.Equal(b, c) {
			t.Errorf("ReadEvent of %v: %v, %d, %d", e, o, n, err)
		}
	}
	wrong := func(e api.Event) {
		if b, err := codec.Event(e); len(b) != 0 || err != api.ErrArg {
			t.Errorf("Event(%v): %q, %d", e, b, err)
		}
	}
	numbers(6, event, func(e *api.Event, v int) { e.Dot.Origin = v }, right, wrong)
	numbers(top, event, func(e *api.Event, v int) { e.Dot.Seq = v }, right, wrong)
	vectors(event, func(e *api.Event, v []int) { e.Deps = v }, right, wrong)
	names(event, func(e *api.Event, v string) { e.Cart = v }, right, wrong)
	numbers(top, event, func(e *api.Event, v int) { e.Epoch = v }, right, wrong)
	names(event, func(e *api.Event, v string) { e.Sku = v }, right, wrong)
	numbers(1000, event, func(e *api.Event, v int) { e.Qty = v }, right, wrong)
	wrong(api.Event{})
}

func TestSealParts(t *testing.T) {
	right := func(s api.Seal) {
		b, err := codec.Seal(s)
		if err != api.OK {
			t.Errorf("Seal(%v): %d", s, err)
		}
		o, n, err := codec.ReadSeal(b)
		if c, _ := codec.Seal(o); n != len(b) || err != api.OK || !bytes.Equal(b, c) {
			t.Errorf("ReadSeal of %v: %v, %d, %d", s, o, n, err)
		}
	}
	wrong := func(s api.Seal) {
		if b, err := codec.Seal(s); len(b) != 0 || err != api.ErrArg {
			t.Errorf("Seal(%v): %q, %d", s, b, err)
		}
	}
	names(seal, func(s *api.Seal, v string) { s.Token = v }, right, wrong)
	names(seal, func(s *api.Seal, v string) { s.Cart = v }, right, wrong)
	numbers(top, seal, func(s *api.Seal, v int) { s.Epoch = v }, right, wrong)
	vectors(seal, func(s *api.Seal, v []int) { s.Cut = v }, right, wrong)
	wrong(api.Seal{})
}

func TestMsgParts(t *testing.T) {
	right := func(m api.Msg) {
		b, err := codec.Msg(m)
		if err != api.OK {
			t.Errorf("Msg(%v): %d", m, err)
		}
		o, err := codec.ReadMsg(b)
		if c, _ := codec.Msg(o); err != api.OK || !bytes.Equal(b, c) {
			t.Errorf("ReadMsg of %v: %v, %d", m, o, err)
		}
	}
	wrong := func(m api.Msg) {
		if b, err := codec.Msg(m); len(b) != 0 || err != api.ErrArg {
			t.Errorf("Msg(%v): %q, %d", m, b, err)
		}
	}
	numbers(255, msg, func(m *api.Msg, v int) { m.Kind = v }, right, wrong)
	numbers(6, msg, func(m *api.Msg, v int) { m.From = v }, right, wrong)
	numbers(6, msg, func(m *api.Msg, v int) { m.To = v }, right, wrong)
	numbers(top, msg, func(m *api.Msg, v int) { m.Ballot.Round = v }, right, wrong)
	numbers(6, msg, func(m *api.Msg, v int) { m.Ballot.Node = v }, right, wrong)
	numbers(top, msg, func(m *api.Msg, v int) { m.Slot = v }, right, wrong)
	names(msg, func(m *api.Msg, v string) { m.Entry.Seal.Token = v }, right, wrong)
	numbers(top, msg, func(m *api.Msg, v int) { m.Voted[0].Slot = v }, right, wrong)
	numbers(top, msg, func(m *api.Msg, v int) { m.Voted[0].Ballot.Round = v }, right, wrong)
	numbers(6, msg, func(m *api.Msg, v int) { m.Voted[0].Ballot.Node = v }, right, wrong)
	vectors(msg, func(m *api.Msg, v []int) { m.Seen = v }, right, wrong)
	names(msg, func(m *api.Msg, v string) { m.Events[0].Sku = v }, right, wrong)
	numbers(1<<62, msg, func(m *api.Msg, v int) { m.Time = v }, right, wrong)
	right(empty())
	wrong(api.Msg{})

	entries := []api.Entry{{Noop: true}, {Noop: true, Seal: api.Seal{Cut: []int{}}}, {Seal: seal()}}
	wrongEntries := []api.Entry{{}, {Noop: true, Seal: seal()}, {Noop: true, Seal: api.Seal{Token: "t"}},
		{Noop: true, Seal: api.Seal{Cart: "c"}}, {Noop: true, Seal: api.Seal{Epoch: 1}}, {Noop: true, Seal: api.Seal{Cut: []int{1}}}}
	inMsg := func(m *api.Msg, v api.Entry) { m.Entry = v }
	inVoted := func(m *api.Msg, v api.Entry) { m.Voted[0].Entry = v }
	each(entries, msg, inMsg, right)
	each(entries, msg, inVoted, right)
	each(wrongEntries, msg, inMsg, wrong)
	each(wrongEntries, msg, inVoted, wrong)
}

func TestListsOfMessages(t *testing.T) {
	voted := api.Voted{Entry: api.Entry{Noop: true}}
	small := api.Event{Cart: "c", Sku: "s"}
	long := empty()
	long.Voted = slices.Repeat([]api.Voted{voted}, 4096)
	long.Events = slices.Repeat([]api.Event{small}, 4096)
	b, err := codec.Msg(long)
	if err != api.OK {
		t.Fatal(err)
	}
	if m, err := codec.ReadMsg(b); err != api.OK || len(m.Voted) != 4096 || len(m.Events) != 4096 {
		t.Errorf("lists of 4096 items: %d, %d, %d", len(m.Voted), len(m.Events), err)
	}
	m := empty()
	m.Voted = slices.Repeat([]api.Voted{voted}, 4097)
	if b, err := codec.Msg(m); len(b) != 0 || err != api.ErrArg {
		t.Errorf("4097 votes: %d", err)
	}
	m = empty()
	m.Events = slices.Repeat([]api.Event{small}, 4097)
	if b, err := codec.Msg(m); len(b) != 0 || err != api.ErrArg {
		t.Errorf("4097 events: %d", err)
	}
	head := "\x00\x00\x00\x00\x00\x00\x01"
	votes := func(n int) []byte {
		return codec.List([]byte(head), make([]int, n), func(b []byte, _ int) []byte { return append(b, 0, 0, 0, 1) })
	}
	if m, err := codec.ReadMsg(append(votes(4096), 0, 0, 0)); len(m.Voted) != 4096 || err != api.OK {
		t.Errorf("4096 votes are read: %d", err)
	}
	if _, err := codec.ReadMsg(append(votes(4097), 0, 0, 0)); err != api.ErrCode {
		t.Errorf("4097 votes are read: %d", err)
	}
	events := func(n int) []byte {
		one, _ := codec.Event(small)
		return codec.List([]byte(head+"\x00\x00"), make([]int, n), func(b []byte, _ int) []byte { return append(b, one...) })
	}
	if m, err := codec.ReadMsg(append(events(4096), 0)); len(m.Events) != 4096 || err != api.OK {
		t.Errorf("4096 events are read: %d", err)
	}
	if _, err := codec.ReadMsg(append(events(4097), 0)); err != api.ErrCode {
		t.Errorf("4097 events are read: %d", err)
	}
}

// exact answers a message of just so many bytes.
func exact(size int) api.Msg {
	full := api.Event{Dot: api.Dot{Origin: 1, Seq: 1}, Cart: strings.Repeat("c", 32), Sku: strings.Repeat("s", 32)}
	m := empty()
	head, _ := codec.Msg(m)
	one, _ := codec.Event(full)
	count := (size-len(head)-1)/len(one) - 1
	m.Events = slices.Repeat([]api.Event{full}, count)
	rest := size - (len(head) + 1 + count*len(one)) // to be had by two more events
	shorter := func(e api.Event, less int) api.Event {
		e.Cart = e.Cart[min(less, 31):]
		e.Sku = e.Sku[max(0, less-31):]
		return e
	}
	less := 2*len(one) - rest
	m.Events = append(m.Events, shorter(full, min(less, 60)), shorter(full, max(0, less-60)))
	return m
}

func TestLongMessages(t *testing.T) {
	m := exact(65536)
	b, err := codec.Msg(m)
	if len(b) != 65536 || err != api.OK {
		t.Fatalf("a message of 65536 bytes: %d, %d", len(b), err)
	}
	if o, err := codec.ReadMsg(b); len(o.Events) != len(m.Events) || err != api.OK {
		t.Errorf("is read: %d", err)
	}
	m.Time = 128 // one byte more
	if b, err := codec.Msg(m); len(b) != 0 || err != api.ErrLong {
		t.Errorf("a message of 65537 bytes: %d, %d", len(b), err)
	}
	over := append(slices.Clone(b[:65535]), 0x80, 0x01)
	if o, err := codec.ReadMsg(over); !reflect.DeepEqual(o, api.Msg{}) || err != api.ErrCode {
		t.Errorf("is read: %d", err)
	}
	m.Kind = 256
	if _, err := codec.Msg(m); err != api.ErrArg {
		t.Errorf("ErrArg is ahead of ErrLong: %d", err)
	}
}

func TestLongBytesAhead(t *testing.T) {
	behind := func(form string, size int) []byte { return append([]byte(form), make([]byte, size-len(form))...) }
	if _, n, err := codec.ReadEvent(behind(eventForm, 65536)); n != len(eventForm) || err != api.OK {
		t.Errorf("ReadEvent of 65536 bytes: %d, %d", n, err)
	}
	if e, n, err := codec.ReadEvent(behind(eventForm, 65537)); !reflect.DeepEqual(e, api.Event{}) || n != 0 || err != api.ErrCode {
		t.Errorf("ReadEvent of 65537 bytes: %d, %d", n, err)
	}
	if _, n, err := codec.ReadSeal(behind(sealForm, 65536)); n != len(sealForm) || err != api.OK {
		t.Errorf("ReadSeal of 65536 bytes: %d, %d", n, err)
	}
	if s, n, err := codec.ReadSeal(behind(sealForm, 65537)); !reflect.DeepEqual(s, api.Seal{}) || n != 0 || err != api.ErrCode {
		t.Errorf("ReadSeal of 65537 bytes: %d, %d", n, err)
	}
}

// Bytes with a part that may not be say nothing.
func TestWrongBytes(t *testing.T) {
	over := "\x80\x80\x80\x80\x08" // 2^31
	z33 := "\x21" + strings.Repeat("z", 33)
	name := "\x01c"
	events := []string{
		"", "\x07\x01\x00" + name + "\x00" + name + "\x01\x00", "\x00" + over + "\x00" + name + "\x00" + name + "\x01\x00",
		"\x00\x01\x01\x00" + name + "\x00" + name + "\x01\x00", "\x00\x01\x08\x01\x01\x01\x01\x01\x01\x01\x01" + name + "\x00" + name + "\x01\x00",
		"\x00\x01\x01" + over + name + "\x00" + name + "\x01\x00", "\x00\x01\x00\x00\x00" + name + "\x01\x00",
		"\x00\x01\x00" + z33 + "\x00" + name + "\x01\x00", "\x00\x01\x00\x01C\x00" + name + "\x01\x00",
		"\x00\x01\x00" + name + over + name + "\x01\x00", "\x00\x01\x00" + name + "\x00\x01_\x01\x00",
		"\x00\x01\x00" + name + "\x00" + name + "\xe9\x07\x00", "\x00\x01\x00" + name + "\x00" + name + "\x01\x02",
		"\x80\x00\x01\x00" + name + "\x00" + name + "\x01\x00", "\x00\x01\x80\x00" + name + "\x00" + name + "\x01\x00",
		"\x00\x01\x00\x81\x00c\x00" + name + "\x01\x00", "\x00\x01\x00" + name + "\x00" + name + "\x01\x81\x00",
	}
	for _, s := range events {
		if e, n, err := codec.ReadEvent([]byte(s)); !reflect.DeepEqual(e, api.Event{}) || n != 0 || err != api.ErrCode {
			t.Errorf("ReadEvent(%q): %v, %d, %d", s, e, n, err)
		}
	}
	if _, n, err := codec.ReadEvent([]byte("\x06\x01\x00" + name + "\x00" + name + "\xe8\x07\x00")); n != 11 || err != api.OK {
		t.Errorf("the base of these: %d, %d", n, err)
	}
	for _, s := range []string{"", "\x00" + name + "\x00\x00", name + "\x00\x00\x00", name + name + over + "\x00", name + name + "\x00\x01\x00", name + name + "\x00\x02\x01\x00", z33 + name + "\x00\x00"} {
		if x, n, err := codec.ReadSeal([]byte(s)); !reflect.DeepEqual(x, api.Seal{}) || n != 0 || err != api.ErrCode {
			t.Errorf("ReadSeal(%q): %v, %d, %d", s, x, n, err)
		}
	}
	z := "\x00"
	far := "\x81\x80\x80\x80\x80\x80\x80\x80\x40" // 2^62 + 1
	for _, s := range []string{
		"\x80\x02" + z + z + z + z + z + "\x01" + z + z + z + z, z + "\x07" + z + z + z + z + "\x01" + z + z + z + z,
		z + z + "\x07" + z + z + z + "\x01" + z + z + z + z, z + z + z + over + z + z + "\x01" + z + z + z + z,
		z + z + z + z + "\x07" + z + "\x01" + z + z + z + z, z + z + z + z + z + over + "\x01" + z + z + z + z,
		z + z + z + z + z + z + "\x02" + z + z + z + z, z + z + z + z + z + z + z + z + z + z + z,
		z + z + z + z + z + z + "\x01\x01" + over + z + z + "\x01" + z + z + z, z + z + z + z + z + z + "\x01\x01" + z + over + z + "\x01" + z + z + z,
		z + z + z + z + z + z + "\x01\x01" + z + z + "\x07\x01" + z + z + z, z + z + z + z + z + z + "\x01\x01" + z + z + z + "\x02" + z + z + z,
		z + z + z + z + z + z + "\x01" + z + "\x01\x00" + z + z, z + z + z + z + z + z + "\x01" + z + z + z + far,
	} {
		if m, err := codec.ReadMsg([]byte(s)); !reflect.DeepEqual(m, api.Msg{}) || err != api.ErrCode {
			t.Errorf("ReadMsg(%q): %v, %d", s, m, err)
		}
	}
}

func randomVector(rng *rand.Rand) []int {
	v := make([]int, rng.Intn(8))
	for i := range v {
		v[i] = rng.Intn(4) * rng.Intn(1<<29)
	}
	for len(v) > 0 && v[len(v)-1] == 0 {
		v = v[:len(v)-1]
	}
	if len(v) == 0 {
		return nil
	}
	return v
}

func randomName(rng *rand.Rand) string {
	b := make([]byte, 1+rng.Intn(32))
	for i := range b {
		b[i] = "abcdefghijklmnopqrstuvwxyz0123456789-"[rng.Intn(37)]
	}
	return string(b)
}

func randomEvent(rng *rand.Rand) api.Event {
	return api.Event{Dot: api.Dot{Origin: rng.Intn(7), Seq: rng.Intn(1 << 31)}, Deps: randomVector(rng), Cart: randomName(rng),
		Epoch: rng.Intn(1 << 31), Sku: randomName(rng), Qty: rng.Intn(1001), Clears: rng.Intn(2) == 0}
}

func randomEntry(rng *rand.Rand) api.Entry {
	if rng.Intn(3) == 0 {
		return api.Entry{Noop: true}
	}
	return api.Entry{Seal: api.Seal{Token: randomName(rng), Cart: randomName(rng), Epoch: rng.Intn(1 << 31), Cut: randomVector(rng)}}
}

func randomMsg(rng *rand.Rand) api.Msg {
	ballot := func() api.Ballot { return api.Ballot{Round: rng.Intn(1 << 31), Node: rng.Intn(7)} }
	m := api.Msg{Kind: rng.Intn(256), From: rng.Intn(7), To: rng.Intn(7), Ballot: ballot(), Slot: rng.Intn(1 << 31),
		Entry: randomEntry(rng), Seen: randomVector(rng), Time: rng.Intn(1<<62 + 1)}
	for range rng.Intn(4) {
		m.Voted = append(m.Voted, api.Voted{Slot: rng.Intn(1 << 31), Ballot: ballot(), Entry: randomEntry(rng)})
	}
	for range rng.Intn(4) {
		m.Events = append(m.Events, randomEvent(rng))
	}
	return m
}

func TestWrittenIsRead(t *testing.T) {
	rng := rand.New(rand.NewSource(2))
	for range 3000 {
		m := randomMsg(rng)
		b, err := codec.Msg(m)
		if err != api.OK {
			t.Fatalf("Msg(%v): %d", m, err)
		}
		if o, err := codec.ReadMsg(b); !reflect.DeepEqual(o, m) || err != api.OK {
			t.Fatalf("ReadMsg of %v: %v, %d", m, o, err)
		}
		for cut := range len(b) {
			if o, err := codec.ReadMsg(b[:cut]); !reflect.DeepEqual(o, api.Msg{}) || err != api.ErrCode {
				t.Fatalf("ReadMsg of a beginning of %v: %v, %d", m, o, err)
			}
		}
		e := randomEvent(rng)
		b, _ = codec.Event(e)
		if o, n, err := codec.ReadEvent(append(b, 0xff)); !reflect.DeepEqual(o, e) || n != len(b) || err != api.OK {
			t.Fatalf("ReadEvent of %v: %v, %d, %d", e, o, n, err)
		}
		s := api.Seal{Token: randomName(rng), Cart: randomName(rng), Epoch: rng.Intn(1 << 31), Cut: randomVector(rng)}
		b, _ = codec.Seal(s)
		if o, n, err := codec.ReadSeal(append(b, 0xff)); !reflect.DeepEqual(o, s) || n != len(b) || err != api.OK {
			t.Fatalf("ReadSeal of %v: %v, %d, %d", s, o, n, err)
		}
	}
}

// Of bytes that are changed here and there: what is read is written just so.
func TestReadIsWritten(t *testing.T) {
	rng := rand.New(rand.NewSource(3))
	read := 0
	for range 100000 {
		b, _ := codec.Msg(randomMsg(rng))
		for range 1 + rng.Intn(2) {
			b[rng.Intn(len(b))] = []byte{0, 1, 0x80, 0x81, byte(rng.Int())}[rng.Intn(5)]
		}
		checkWrittenJustSo(t, b)
		if _, err := codec.ReadMsg(b); err == api.OK {
			read++
		}
	}
	if read < 1000 {
		t.Errorf("only %d of the changed ones were messages", read)
	}
}

func checkWrittenJustSo(t *testing.T, b []byte) {
	was := bytes.Clone(b)
	if m, err := codec.ReadMsg(b); err == api.OK {
		if c, err := codec.Msg(m); !bytes.Equal(b, c) || err != api.OK {
			t.Fatalf("ReadMsg(% x): %v, written % x, %d", b, m, c, err)
		}
	} else if err != api.ErrCode || !reflect.DeepEqual(m, api.Msg{}) {
		t.Fatalf("ReadMsg(% x): %v, %d", b, m, err)
	}
	if e, n, err := codec.ReadEvent(b); err == api.OK {
		if c, err := codec.Event(e); !bytes.Equal(b[:n], c) || err != api.OK {
			t.Fatalf("ReadEvent(% x): %v, written % x, %d", b, e, c, err)
		}
	} else if err != api.ErrCode || n != 0 || !reflect.DeepEqual(e, api.Event{}) {
		t.Fatalf("ReadEvent(% x): %v, %d, %d", b, e, n, err)
	}
	if s, n, err := codec.ReadSeal(b); err == api.OK {
		if c, err := codec.Seal(s); !bytes.Equal(b[:n], c) || err != api.OK {
			t.Fatalf("ReadSeal(% x): %v, written % x, %d", b, s, c, err)
		}
	} else if err != api.ErrCode || n != 0 || !reflect.DeepEqual(s, api.Seal{}) {
		t.Fatalf("ReadSeal(% x): %v, %d, %d", b, s, n, err)
	}
	if !bytes.Equal(b, was) {
		t.Fatalf("reading changed % x", was)
	}
}

func FuzzRead(f *testing.F) {
	for _, s := range []string{"", eventForm, sealForm, msgForm, msgForm[:20], "\xff\xff\xff\xff\xff\xff\xff\xff\xff\x01"} {
		f.Add([]byte(s))
	}
	f.Fuzz(func(t *testing.T, b []byte) { checkWrittenJustSo(t, b) })
}

// What was read shares nothing with the bytes, what was written nothing with the value.
func TestValuesAreNewMemory(t *testing.T) {
	b := []byte(msgForm)
	m, _ := codec.ReadMsg(b)
	clear(b)
	if !reflect.DeepEqual(m, msg()) {
		t.Errorf("a message hangs on the bytes that it was read from: %v", m)
	}
	c, _ := codec.Msg(m)
	clear(c)
	if !reflect.DeepEqual(m, msg()) {
		t.Errorf("a message hangs on the bytes that it was written to: %v", m)
	}
}
