package wire

import "trawl/api"

// HeaderSize is how many bytes a message has at least.
const HeaderSize = 12

// What a question and a record have beside their names and data, in bytes.
const (
	questionSize = 4
	recordSize   = 10
)

// The flags of one bit, and how far Op is shifted; Code is in the lowest bits.
const (
	flagResponse = 1 << 15
	flagOwn      = 1 << 10
	flagCut      = 1 << 9
	flagWanted   = 1 << 8
	flagAble     = 1 << 7
	shiftOp      = 11
)

func packFlags(m api.Message) uint16 {
	return flag(m.Response, flagResponse) | uint16(m.Op)<<shiftOp | flag(m.Own, flagOwn) | flag(m.Cut, flagCut) |
		flag(m.Wanted, flagWanted) | flag(m.Able, flagAble) | uint16(m.Code)
}

func flag(set bool, mask uint16) uint16 {
	if set {
		return mask
	}
	return 0
}

func unpackFlags(m *api.Message, flags uint16) {
	m.Response = flags&flagResponse != 0
	m.Op = int(flags >> shiftOp & api.MaxOp)
	m.Own = flags&flagOwn != 0
	m.Cut = flags&flagCut != 0
	m.Wanted = flags&flagWanted != 0
	m.Able = flags&flagAble != 0
	m.Code = int(flags & api.MaxCode)
}
