package node

import (
	"slices"
	"strings"

	"pannier/api"
	"pannier/codec"
	"pannier/disk"
	"pannier/store"
)

const storeName = "n"

// The letters with which records begin.
const (
	eventLetter  = 'E' // behind it an event
	voteLetter   = 'M' // a message that changed the acceptor
	chosenLetter = 'C' // a message that tells what was chosen
)

// open finds the node's store on d, and answers all its records, those of the snapshot ahead. store.Open
// mends what it finds, and where the snapshot is none nothing may change: so that is looked at on another disk ahead.
func open(d *disk.Disk, segment int) (*store.Store, []string, api.Errno) {
	if trial, snapshot, _, err := store.Open(d.Fork(), storeName, segment); err == api.OK {
		if _, is := recordsOf(trial, snapshot); !is {
			return nil, nil, api.ErrStore
		}
	}
	s, snapshot, behind, err := store.Open(d, storeName, segment)
	if err != api.OK {
		return nil, nil, err
	}
	records, _ := recordsOf(s, snapshot)
	return s, append(records, behind...), api.OK
}

// recordsOf answers the records of a store's snapshot, none, if it never had one, and whether it is a list of texts.
func recordsOf(s *store.Store, snapshot string) ([]string, bool) {
	if number, _ := s.Snap(); number == 0 {
		return nil, true
	}
	records, size, err := codec.ReadList([]byte(snapshot), len(snapshot), func(b []byte) (string, int, api.Errno) {
		return codec.ReadText(b, len(b))
	})
	return records, err == api.OK && size == len(snapshot)
}

// record makes it last, from the next Flush on, that body came.
func (n *Node) record(letter rune, body string) api.Errno {
	_, err := n.store.Append(written(letter, body))
	return err
}

func written(letter rune, body string) string {
	return string(letter) + body
}

// replay does what a record says; one that says nothing, or that is refused, is passed over.
func (n *Node) replay(rec string) {
	if rec == "" {
		return
	}
	body := rec[1:]
	switch rec[0] {
	case eventLetter:
		if e, size, err := codec.ReadEvent([]byte(body)); err == api.OK && size == len(body) {
			n.put(e)
		}
	case voteLetter:
		_ = n.acceptor.Replay(body)
	case chosenLetter:
		if m, err := codec.ReadMsg([]byte(body)); err == api.OK && body == n.chosenBody(m.Slot, m.Entry) {
			_ = n.learner.Choose(m.Slot, m.Entry)
		}
	}
}

// eventBody is the bytes of an event that may be.
func eventBody(e api.Event) string {
	b, _ := codec.Event(e)
	return string(b)
}

// messageBody is the bytes of a message that may be.
func messageBody(m api.Msg) string {
	b, _ := codec.Msg(m)
	return string(b)
}

// chosenBody is what a record says of an entry that may be and was chosen in that slot.
func (n *Node) chosenBody(slot int, e api.Entry) string {
	return messageBody(n.chosen(n.id, slot, e))
}

// put brings an event to the replica's log, and answers whether any is applied by it.
func (n *Node) put(e api.Event) bool {
	applied, err := n.replica.Put(e)
	if err != api.OK {
		return false
	}
	if len(applied) == 0 {
		n.early[e.Dot] = own(e)
	}
	for _, a := range applied {
		delete(n.early, a.Dot)
	}
	return len(applied) > 0
}

// carryOut has the machine do what stands in the prefix and is not done yet, and answers whether there was any.
func (n *Node) carryOut() bool {
	before := n.machine.Done()
	for _, e := range n.learner.From(before) {
		if _, made, _ := n.machine.Do(e); made {
			_ = n.replica.Learn(e.Seal)
		}
	}
	return n.machine.Done() > before
}

// own answers e in memory of the node's own. A name that is a piece of a longer text would keep all of that.
func own(e api.Event) api.Event {
	e.Cart, e.Sku = strings.Clone(e.Cart), strings.Clone(e.Sku)
	e.Deps = slices.Clone(e.Deps)
	return e
}
