package replica

import (
	"slices"

	"pannier/api"
	"pannier/codec"
	"pannier/vv"
)

// Save answers the applied events and the seals as bytes. What waits is not among them.
func (r *Replica) Save() string {
	if r.closed() {
		return ""
	}
	b := codec.List(nil, slices.Collect(r.All()), putBy(codec.Event))
	return string(codec.List(b, r.seals, putBy(codec.Seal)))
}

// Load answers the replica of that node of which Save tells these bytes.
func Load(node int, saved string) (*Replica, api.Errno) {
	r, err := New(node)
	if err != api.OK {
		return nil, err
	}
	events, seals, err := readSaved([]byte(saved))
	if err != api.OK {
		return nil, api.ErrCode
	}
	// Its own events were made by Update, of what was applied and learned then. So all is done again by the
	// calls that there are: bytes of which they do not make a replica are told by none.
	p := past{r, eventsByDot(events), seals}
	p.redo()
	if r.Save() != saved {
		return nil, api.ErrCode
	}
	return r, api.OK
}

// putBy answers a function that appends an item's bytes.
func putBy[T any](bytesOf func(x T) ([]byte, api.Errno)) func(b []byte, x T) []byte {
	return func(b []byte, x T) []byte {
		// What may not be never came into a replica, so nothing is refused here.
		own, _ := bytesOf(x)
		return append(b, own...)
	}
}

// readSaved answers the two lists with which b begins.
func readSaved(b []byte) ([]api.Event, []api.Seal, api.Errno) {
	events, n, err := codec.ReadList(b, api.MaxDots, readBy(codec.ReadEvent))
	if err != api.OK {
		return nil, nil, err
	}
	// There is no limit of seals, but each one has bytes.
	seals, _, err := codec.ReadList(b[n:], len(b), readBy(codec.ReadSeal))
	return events, seals, err
}

// readBy answers a function that reads an item of a list that may have more bytes than a record.
func readBy[T any](read func(b []byte) (T, int, api.Errno)) func(b []byte) (T, int, api.Errno) {
	return func(b []byte) (T, int, api.Errno) { return read(b[:min(len(b), api.MaxRecord)]) }
}

func eventsByDot(l []api.Event) map[api.Dot]api.Event {
	found := map[api.Dot]api.Event{}
	for _, e := range l {
		found[e.Dot] = e
	}
	return found
}

// past is a replica that is made again, the events that it had, and the seals that it is still to learn.
type past struct {
	*Replica
	events map[api.Dot]api.Event
	seals  []api.Seal
}

// redo makes the node's own events again, one behind the other, and ahead of each one what it tells of:
// the events in its Deps, and as few seals as give its cart the Epoch, since others may need the lesser one yet.
func (p *past) redo() {
	for seq := 1; ; seq++ {
		e, is := p.events[api.Dot{Origin: p.node, Seq: seq}]
		if !is {
			break
		}
		p.takeUpto(e.Deps)
		p.learn(func() bool { return p.Epoch(e.Cart) < e.Epoch })
		p.Update(e.Cart, e.Sku, e.Qty, e.Clears)
	}
	p.takeUpto(slices.Repeat([]int{api.MaxDots}, api.MaxNodes))
	p.learn(func() bool { return true })
}

// takeUpto takes the others' events that v has, each when it is ready: so none waits, however many there are.
func (p *past) takeUpto(v []int) {
	for more := true; more; {
		more = false
		for origin := range api.MaxNodes {
			for p.takeNext(origin, v) {
				more = true
			}
		}
	}
}

// takeNext takes the origin's next event, if v has it, and it is ready.
func (p *past) takeNext(origin int, v []int) bool {
	e, is := p.events[p.next(origin)]
	if !is || !vv.Has(v, e.Dot) || !vv.Below(e.Deps, p.Applied()) {
		return false
	}
	_, err := p.Take(e)
	return err == api.OK
}

// learn learns one seal behind the other, as long as there are some, and more holds.
func (p *past) learn(more func() bool) {
	for len(p.seals) > 0 && more() {
		p.Learn(p.seals[0])
		p.seals = p.seals[1:]
	}
}
