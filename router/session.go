package router

import (
	"strconv"

	"pannier/api"
)

// Session is a client's: which node it asks, and with which tokens.
type Session struct {
	client int
	nodes  int
	tokens int // how many it gave
	target int
	tries  int
}

// New answers a session of that client, which asks so many nodes.
func New(client, nodes int) (*Session, api.Errno) {
	if client < 0 || client > api.MaxSeq || nodes < 1 || nodes > api.MaxNodes {
		return nil, api.ErrArg
	}
	return &Session{client: client, nodes: nodes, target: client % nodes}, api.OK
}

// Token answers a new token.
func (s *Session) Token() string {
	if s.closed() {
		return ""
	}
	s.tokens++
	return s.Last()
}

// Last answers the token that was given last, so that a checkout can be tried again with it.
func (s *Session) Last() string {
	if s.closed() || s.tokens == 0 {
		return ""
	}
	return "c" + strconv.Itoa(s.client) + "-" + strconv.Itoa(s.tokens-1)
}

// Target answers which node is asked.
func (s *Session) Target() int {
	if s.closed() {
		return 0
	}
	return s.target
}

// Fail has the next node be asked.
func (s *Session) Fail() {
	if s.closed() {
		return
	}
	s.target = (s.target + 1) % s.nodes
	s.tries++
}

// Tries answers how often it failed since the last Done.
func (s *Session) Tries() int {
	if s.closed() {
		return 0
	}
	return s.tries
}

// Done has it go on as if it had not failed; it stays with the node that answered.
func (s *Session) Done() {
	if s.closed() {
		return
	}
	s.tries = 0
}

// closed asks whether no New made s.
func (s *Session) closed() bool {
	return s == nil || s.nodes == 0
}
