package search

import (
	"trawl/api"
	"trawl/wire"
)

const root = "\x00"

// chase is the way from the root on to what is told of a name and a type.
type chase struct {
	above   *chase // whose zone waits for its servers' addresses; nil, if what was asked waits
	depth   int
	name    string
	kind    uint16
	zone    string
	names   []string // of the zone's servers: those that are to be looked up if there are no servers
	servers []uint32
	tries   int // so many questions were sent in this zone
}

// server is the one to which the zone's question goes behind so many tries.
func (c *chase) server(tries int) uint32 { return c.servers[tries%len(c.servers)] }

func (c *chase) question() api.Question {
	return api.Question{Name: c.name, Type: c.kind, Class: api.ClassIN}
}

// lookUp begins a chase for a name that is to be told in the answer.
func (s *State) lookUp(name string) {
	s.start(&chase{name: name, kind: s.asked().Type})
}

// start lets a chase begin, in the zone of the root.
func (s *State) start(c *chase) {
	c.zone, c.servers = root, s.config.Roots
	s.chase, s.next = c, s.send
}

// send sends the chase's question. It stays what is done next: for when the question is late, or what comes is lame.
func (s *State) send() api.Step {
	c := s.chase
	if c.tries == s.config.Tries {
		s.next = s.fail
		return api.Step{}
	}
	if s.sent == s.config.Budget {
		s.next = s.failAll
		return api.Step{}
	}
	to := c.server(c.tries)
	c.tries++
	s.sent++
	// 65535 is followed by 0: so it wraps round by itself.
	s.lastID++
	// One question is never refused: its name was read from a message.
	b, _ := wire.Pack(api.Message{ID: s.lastID, Questions: []api.Question{c.question()}})
	return api.Step{Kind: api.Send, To: to, Bytes: b}
}

// seek sees to it that the zone has servers: as long as there are none, one name of them after the other is looked up.
func (s *State) seek() api.Step {
	c := s.chase
	switch {
	case len(c.servers) > 0:
		// No other name will be looked up: they need not be kept.
		c.names, s.next = nil, s.send
	case len(c.names) == 0 || c.depth == s.config.Depth:
		s.next = s.fail
	default:
		name := c.names[0]
		c.names = c.names[1:]
		s.start(&chase{above: c, depth: c.depth + 1, name: name, kind: api.TypeA})
	}
	return api.Step{}
}

func (s *State) fail() api.Step {
	s.end(api.Failed, nil)
	return api.Step{}
}

func (s *State) failAll() api.Step {
	s.settle(api.Failed, nil)
	return api.Step{}
}

// end ends the chase: what it found, or why there is nothing, is told to who waits for it.
func (s *State) end(code int, found []api.Record) {
	above := s.chase.above
	if above == nil {
		s.settle(code, found)
		return
	}
	above.servers = addresses(found)
	s.chase, s.next = above, s.seek
}
