// Package search: what a resolver does from call to call, without regard to who calls it at the same time.
package search

import (
	"slices"

	"trawl/api"
	"trawl/wire"
)

// State is a resolver's state. Its methods must come one after the other.
type State struct {
	config api.Config
	lastID uint16 // of the question that was sent last, whatever was asked
	task
}

// task is what is kept of a question as long as it is being answered.
type task struct {
	next  func() api.Step // what the search does next; nil if no question is being answered
	chase *chase          // the one that goes on
	sent  int             // so many questions, by all chases
	reply api.Message     // as far as it is known: its Answers are the records by which names stand for others
}

// New makes the state of a resolver that is asked nothing.
func New(c api.Config) (*State, api.Errno) {
	if !isConfig(c) {
		return nil, api.ErrConfig
	}
	// The list of roots stays its owner's, who may write into it.
	c.Roots = slices.Clone(c.Roots)
	return &State{config: c}, api.OK
}

// Heard is told what has come from a server.
func (s *State) Heard(from uint32, b []byte) (api.Step, api.Errno) {
	if s.next == nil {
		return api.Step{}, api.ErrBusy
	}
	m, e := wire.Unpack(b)
	if e != api.OK || !s.fits(from, m) {
		return api.Step{}, api.OK
	}
	s.look(m)
	return s.goOn(), api.OK
}

// Late is told that nothing has come in time.
func (s *State) Late() (api.Step, api.Errno) {
	if s.next == nil {
		return api.Step{}, api.ErrBusy
	}
	return s.goOn(), api.OK
}

// goOn goes on until there is something that the caller is to do.
func (s *State) goOn() api.Step {
	for {
		if step := s.next(); step.Kind != api.Nothing {
			return step
		}
	}
}
