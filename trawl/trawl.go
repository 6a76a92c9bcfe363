// Package trawl: questions about names are answered from the root on: see DOC.md.
package trawl

import (
	"sync"

	"trawl/api"
	"trawl/search"
	"trawl/wire"
)

// Pack makes a message's bytes (P3).
func Pack(m api.Message) ([]byte, api.Errno) { return wire.Pack(m) }

// Unpack reads a message (P4).
func Unpack(b []byte) (api.Message, api.Errno) { return wire.Unpack(b) }

// Resolver answers one question after the other.
type Resolver struct {
	mutex sync.Mutex
	state *search.State // several goroutines may call at a time: only who holds the mutex looks at it
}

// New makes a resolver (P5).
func New(c api.Config) (*Resolver, api.Errno) {
	state, e := search.New(c)
	if e != api.OK {
		return nil, e
	}
	return &Resolver{state: state}, api.OK
}

// Ask begins with a question (P6).
func (r *Resolver) Ask(b []byte) (api.Step, api.Errno) {
	r.mutex.Lock()
	defer r.mutex.Unlock()
	return r.state.Ask(b)
}

// Heard tells what has come from a server (P7).
func (r *Resolver) Heard(from uint32, b []byte) (api.Step, api.Errno) {
	r.mutex.Lock()
	defer r.mutex.Unlock()
	return r.state.Heard(from, b)
}

// Late tells that nothing has come in time (P7).
func (r *Resolver) Late() (api.Step, api.Errno) {
	r.mutex.Lock()
	defer r.mutex.Unlock()
	return r.state.Late()
}
