package lease

import "pannier/api"

// Hold is what an acceptor granted.
type Hold struct {
	lease int        // how long it is given
	of    api.Ballot // the empty one: nobody's
	until int        // by the acceptor's own clock
}

// NewHold answers a hold of nobody, until 0.
func NewHold(lease int) (*Hold, api.Errno) {
	if !mayLast(lease) {
		return nil, api.ErrArg
	}
	return &Hold{lease: lease}, api.OK
}

// Give gives it to b for a lease from now on, unless it blocks b, and answers whether it is b's.
func (h *Hold) Give(b api.Ballot, now int) bool {
	if h.closed() || !mayShow(now) || h.Blocks(b, now) {
		return false
	}
	h.give(b, now)
	return true
}

// Blocks asks whether it keeps b from being let through at that moment.
func (h *Hold) Blocks(b api.Ballot, now int) bool {
	return !h.closed() && now < h.until && b != h.of
}

// Restart makes it nobody's for a lease from now on: what was granted ahead of a crash is not known any more,
// so all ballots are kept away until it must be over.
func (h *Hold) Restart(now int) {
	if h.closed() || !mayShow(now) {
		return
	}
	h.give(api.Ballot{}, now)
}

// Until answers when it ends.
func (h *Hold) Until() int {
	if h.closed() {
		return 0
	}
	return h.until
}

// Fork answers another hold that is the same.
func (h *Hold) Fork() *Hold {
	if h.closed() {
		return nil
	}
	other := *h
	return &other
}

// give makes it b's; it never ends earlier by this.
func (h *Hold) give(b api.Ballot, now int) {
	h.of, h.until = b, max(h.until, now+h.lease)
}

// closed asks whether no NewHold and no Fork made h.
func (h *Hold) closed() bool {
	return h == nil || h.lease == 0
}
