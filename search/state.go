// Package search: what a resolver does from call to call, without regard to who calls it at the same time.
package search

import (
	"slices"

	"trawl/api"
	"trawl/wire"
)

// State is a resolver's state. Its methods must come one after the other.
type State struct {
	config api.Config
	lastID uint16 // of the question that was sent last, whatever was asked
	busy   bool   // a question is being answered
}

// New makes the state of a resolver that is asked nothing.
func New(c api.Config) (*State, api.Errno) {
	if !isConfig(c) {
		return nil, api.ErrConfig
	}
	// The list of roots stays its owner's, who may write into it.
	c.Roots = slices.Clone(c.Roots)
	return &State{config: c}, api.OK
}

// Heard is told what has come from a server.
func (s *State) Heard(from uint32, b []byte) (api.Step, api.Errno) { return s.wait() }

// Late is told that nothing has come in time.
func (s *State) Late() (api.Step, api.Errno) { return s.wait() }

// wait does nothing, if there is something to wait for.
func (s *State) wait() (api.Step, api.Errno) {
	if !s.busy {
		return api.Step{}, api.ErrBusy
	}
	return api.Step{}, api.OK
}

// send makes the step by which a question goes to a server.
func (s *State) send(to uint32, name string, kind uint16) api.Step {
	// 65535 is followed by 0: so it wraps round by itself.
	s.lastID++
	q := api.Question{Name: name, Type: kind, Class: api.ClassIN}
	return api.Step{Kind: api.Send, To: to, Bytes: packed(api.Message{ID: s.lastID, Questions: []api.Question{q}})}
}

// answer makes the step by which what was asked is answered.
func answer(m api.Message) api.Step {
	return api.Step{Kind: api.Answer, Bytes: packed(m)}
}

// packed is for messages with one question at most and nothing behind it: these are never refused, for a name has been read and leaves room.
func packed(m api.Message) []byte {
	b, _ := wire.Pack(m)
	return b
}
