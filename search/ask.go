package search

import (
	"trawl/api"
	"trawl/wire"
)

// Ask begins with a question, or answers at once why it does not.
func (s *State) Ask(b []byte) (api.Step, api.Errno) {
	if s.next != nil {
		return api.Step{}, api.ErrBusy
	}
	if len(b) < wire.HeaderSize {
		return api.Step{Kind: api.Answer}, api.OK
	}
	m, e := wire.Unpack(b)
	// Of what is no message nothing was read: only its bytes tell whom to answer.
	m.ID = uint16(b[0])<<8 | uint16(b[1])
	switch {
	case e != api.OK || m.Response:
		return refusal(m.ID, api.BadForm, nil), api.OK
	case len(m.Questions) != 1:
		return refusal(m.ID, api.NotDone, nil), api.OK
	case m.Op != 0 || m.Questions[0].Class != api.ClassIN:
		return refusal(m.ID, api.NotDone, m.Questions), api.OK
	}
	s.begin(m)
	return s.goOn(), api.OK
}

func refusal(id uint16, code int, questions []api.Question) api.Step {
	return answer(api.Message{ID: id, Response: true, Code: code, Questions: questions})
}

func (s *State) begin(asked api.Message) {
	s.reply = api.Message{ID: asked.ID, Response: true, Wanted: asked.Wanted, Able: true, Questions: asked.Questions}
	s.lookUp(s.asked().Name)
}

// asked is the question that is being answered.
func (s *State) asked() api.Question { return s.reply.Questions[0] }
