package trawl_test

import (
	"strings"
	"testing"

	"trawl/api"
	"trawl/trawl"
)

// name makes a name of labels.
func name(labels ...string) string {
	var s strings.Builder
	for _, l := range labels {
		s.WriteByte(byte(len(l)))
		s.WriteString(l)
	}
	return s.String() + "\x00"
}

// label makes a label of so many bytes, its length ahead.
func label(size int) string {
	return string([]byte{byte(size)}) + strings.Repeat("x", size)
}

// nameOf255 has as many bytes as a name may have; with one byte more in its last label it is none.
func nameOf255() string { return label(63) + label(63) + label(63) + label(61) + "\x00" }

func nameOf256() string { return label(63) + label(63) + label(63) + label(62) + "\x00" }

func mustPack(t *testing.T, m api.Message) []byte {
	t.Helper()
	b, e := trawl.Pack(m)
	if e != api.OK {
		t.Fatalf("Pack(%+v): error %d", m, e)
	}
	return b
}

func mustUnpack(t *testing.T, b []byte) api.Message {
	t.Helper()
	m, e := trawl.Unpack(b)
	if e != api.OK {
		t.Fatalf("Unpack(%x): error %d", b, e)
	}
	return m
}

// everything is a message with something in every place.
func everything() api.Message {
	return api.Message{
		ID: 0x1234, Response: true, Op: 9, Own: true, Cut: true, Wanted: true, Able: true, Code: 6,
		Questions: []api.Question{{Name: name("w", "Ab"), Type: 0x0102, Class: 0x0304}, {Name: "\x00", Type: 1, Class: 1}},
		Answers:   []api.Record{{Name: name("w", "Ab"), Type: api.TypeCNAME, Class: 1, TTL: 0x05060708, Data: name("v")}},
		Authority: []api.Record{{Name: "\x00", Type: api.TypeNS, Class: 3, TTL: 0, Data: "\x00"}, {Name: name("v"), Type: 16, Class: 1, TTL: 9, Data: ""}},
		Extra:     []api.Record{{Name: name("v"), Type: api.TypeA, Class: 1, TTL: 1<<32 - 1, Data: "\x01\x02\x03\x04"}},
	}
}

// everythingBytes are the bytes of everything, written out by hand.
const everythingBytes = "\x12\x34\xcf\x86\x00\x02\x00\x01\x00\x02\x00\x01" +
	"\x01w\x02Ab\x00\x01\x02\x03\x04" +
	"\x00\x00\x01\x00\x01" +
	"\x01w\x02Ab\x00\x00\x05\x00\x01\x05\x06\x07\x08\x00\x03\x01v\x00" +
	"\x00\x00\x02\x00\x03\x00\x00\x00\x00\x00\x01\x00" +
	"\x01v\x00\x00\x10\x00\x01\x00\x00\x00\x09\x00\x00" +
	"\x01v\x00\x00\x01\x00\x01\xff\xff\xff\xff\x00\x04\x01\x02\x03\x04"

// eachByteChanged does something with all bytes that differ from s in one place at most.
func eachByteChanged(s string, do func(b []byte)) {
	for i := range len(s) {
		for x := range 256 {
			b := []byte(s)
			b[i] = byte(x)
			do(b)
		}
	}
}
