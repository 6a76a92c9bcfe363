package search

import (
	"slices"

	"trawl/api"
	"trawl/wire"
)

// standsFor goes on with the name for which the chase's name stands. A server's name may not stand for another one.
func (s *State) standsFor(r api.Record) {
	switch {
	case s.chase.above != nil:
		s.end(api.Failed, nil)
	case len(s.reply.Answers) == s.config.Chain || s.isAhead(r.Data):
		s.settle(api.Failed, nil)
	default:
		s.reply.Answers = append(s.reply.Answers, r)
		s.lookUp(r.Data)
	}
}

// isAhead tells whether a name has been looked up for the answer: the way would lead round.
func (s *State) isAhead(name string) bool {
	return same(name, s.asked().Name) || slices.ContainsFunc(s.reply.Answers, func(r api.Record) bool { return same(name, r.Data) })
}

// settle decides how what was asked is answered.
func (s *State) settle(code int, found []api.Record) {
	s.reply.Code = code
	s.reply.Answers = append(s.reply.Answers, found...)
	if code == api.Failed {
		s.reply.Answers = nil
	}
	s.next = s.finish
}

// finish answers what was asked, and forgets it.
func (s *State) finish() api.Step {
	step := answer(s.reply)
	s.task = task{}
	return step
}

// answer makes the step by which something is answered. All names in it were read from messages, so that only its length can be wrong.
func answer(m api.Message) api.Step {
	b, e := wire.Pack(m)
	if e != api.OK {
		m.Answers, m.Cut = nil, true
		b, _ = wire.Pack(m)
	}
	return api.Step{Kind: api.Answer, Bytes: b}
}
