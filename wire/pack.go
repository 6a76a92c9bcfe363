package wire

import "trawl/api"

// Pack makes a message's bytes, without any pointer.
func Pack(m api.Message) ([]byte, api.Errno) {
	size, ok := packedSize(m)
	if !ok {
		return nil, api.ErrMessage
	}
	b := make([]byte, 0, size)
	for _, x := range []uint16{m.ID, packFlags(m), count(m.Questions), count(m.Answers), count(m.Authority), count(m.Extra)} {
		b = addShort(b, x)
	}
	for _, q := range m.Questions {
		b = addQuestion(b, q)
	}
	for _, list := range [][]api.Record{m.Answers, m.Authority, m.Extra} {
		for _, r := range list {
			b = addRecord(b, r)
		}
	}
	return b, api.OK
}

// packedSize tells how many bytes the message has, if it can be packed. It is asked ahead of the packing, so that a message of any size is refused before memory is taken for it.
func packedSize(m api.Message) (int, bool) {
	if m.Op < 0 || m.Op > api.MaxOp || m.Code < 0 || m.Code > api.MaxCode {
		return 0, false
	}
	size, ok := HeaderSize, true
	for _, q := range m.Questions {
		if size, ok = withQuestion(size, q); !ok {
			return 0, false
		}
	}
	for _, list := range [][]api.Record{m.Answers, m.Authority, m.Extra} {
		for _, r := range list {
			if size, ok = withRecord(size, r); !ok {
				return 0, false
			}
		}
	}
	return size, true
}

func withQuestion(size int, q api.Question) (int, bool) {
	if !isName(q.Name) {
		return 0, false
	}
	size += len(q.Name) + questionSize
	return size, size <= api.MaxBytes
}

func withRecord(size int, r api.Record) (int, bool) {
	// Data that are too many by themselves are not added, so that no sum wraps round.
	if !isName(r.Name) || len(r.Data) > api.MaxBytes || isNameType(r.Type) && !isName(r.Data) {
		return 0, false
	}
	size += len(r.Name) + recordSize + len(r.Data)
	return size, size <= api.MaxBytes
}

// count is told in two bytes: lists of more elements are far above MaxBytes, and have been refused.
func count[T any](list []T) uint16 {
	return uint16(len(list))
}

func addShort(b []byte, x uint16) []byte {
	return append(b, byte(x>>8), byte(x))
}

func addQuestion(b []byte, q api.Question) []byte {
	b = append(b, q.Name...)
	b = addShort(b, q.Type)
	return addShort(b, q.Class)
}

func addRecord(b []byte, r api.Record) []byte {
	b = append(b, r.Name...)
	b = addShort(b, r.Type)
	b = addShort(b, r.Class)
	b = addShort(b, uint16(r.TTL>>16))
	b = addShort(b, uint16(r.TTL))
	b = addShort(b, uint16(len(r.Data)))
	return append(b, r.Data...)
}
