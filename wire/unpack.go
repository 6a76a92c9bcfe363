package wire

import "trawl/api"

// Unpack reads a message; its names, and data that are names, come without pointers.
func Unpack(b []byte) (api.Message, api.Errno) {
	if len(b) > api.MaxBytes {
		return api.Message{}, api.ErrMessage
	}
	r := reader{message: b}
	m := api.Message{ID: r.short()}
	unpackFlags(&m, r.short())
	questions, answers, authority, extra := r.short(), r.short(), r.short(), r.short()
	m.Questions = list(&r, questions, r.question)
	m.Answers = list(&r, answers, r.record)
	m.Authority = list(&r, authority, r.record)
	m.Extra = list(&r, extra, r.record)
	if r.bad || r.at != len(b) {
		return api.Message{}, api.ErrMessage
	}
	return m, api.OK
}

// reader goes through a message. Once something is bad it stays so, and all that is read is 0 or empty: it is enough to look at the end.
type reader struct {
	message []byte
	at      int
	bad     bool
}

// list reads as many elements as were told, but none behind a bad one: what a message tells may be far more than it has.
func list[T any](r *reader, count uint16, one func() T) []T {
	var all []T
	for range count {
		x := one()
		if r.bad {
			return nil
		}
		all = append(all, x)
	}
	return all
}

func (r *reader) take(size int) []byte {
	if r.bad || len(r.message)-r.at < size {
		r.bad = true
		return nil
	}
	r.at += size
	return r.message[r.at-size : r.at]
}

func (r *reader) short() uint16 {
	b := r.take(2)
	if r.bad {
		return 0
	}
	return uint16(b[0])<<8 | uint16(b[1])
}

func (r *reader) long() uint32 {
	high := uint32(r.short())
	return high<<16 | uint32(r.short())
}

func (r *reader) name() string {
	if r.bad {
		return ""
	}
	name, end, ok := readName(r.message, r.at)
	if !ok {
		r.bad = true
		return ""
	}
	r.at = end
	return name
}

func (r *reader) question() api.Question {
	var q api.Question
	q.Name = r.name()
	q.Type = r.short()
	q.Class = r.short()
	return q
}

func (r *reader) record() api.Record {
	var x api.Record
	x.Name = r.name()
	x.Type = r.short()
	x.Class = r.short()
	x.TTL = r.long()
	x.Data = r.data(x.Type, int(r.short()))
	return x
}

func (r *reader) data(kind uint16, size int) string {
	if !isNameType(kind) {
		return string(r.take(size))
	}
	end := r.at + size
	name := r.name()
	if r.at != end {
		r.bad = true
		return ""
	}
	return name
}
