package trawl_test

import (
	"strings"
	"testing"

	"trawl/api"
	"trawl/trawl"
)

func TestP3FirstMessage(t *testing.T) {
	m := api.Message{ID: 1, Questions: []api.Question{{Name: name("a"), Type: api.TypeA, Class: api.ClassIN}}}
	want := "\x00\x01\x00\x00\x00\x01\x00\x00\x00\x00\x00\x00\x01\x61\x00\x00\x01\x00\x01"
	if b := mustPack(t, m); string(b) != want {
		t.Errorf("got %x, want %x", b, want)
	}
}

func TestP3Everything(t *testing.T) {
	if b := mustPack(t, everything()); string(b) != everythingBytes {
		t.Errorf("got %x, want %x", b, everythingBytes)
	}
}

func TestP3Flags(t *testing.T) {
	for _, c := range flagCases() {
		b := mustPack(t, c.m)
		if got := uint16(b[2])<<8 | uint16(b[3]); got != c.flags {
			t.Errorf("%+v: flags %04x, want %04x", c.m, got, c.flags)
		}
	}
}

type flagCase struct {
	m     api.Message
	flags uint16
}

func flagCases() []flagCase {
	return []flagCase{
		{api.Message{}, 0},
		{api.Message{Response: true}, 0x8000},
		{api.Message{Op: 1}, 0x0800},
		{api.Message{Op: 2}, 0x1000},
		{api.Message{Op: 4}, 0x2000},
		{api.Message{Op: 8}, 0x4000},
		{api.Message{Op: 15}, 0x7800},
		{api.Message{Own: true}, 0x0400},
		{api.Message{Cut: true}, 0x0200},
		{api.Message{Wanted: true}, 0x0100},
		{api.Message{Able: true}, 0x0080},
		{api.Message{Code: 1}, 1},
		{api.Message{Code: 8}, 8},
		{api.Message{Code: 15}, 15},
		{api.Message{Response: true, Op: 15, Own: true, Cut: true, Wanted: true, Able: true, Code: 15}, 0xff8f},
	}
}

// The packed names stand whole, be they ever so alike: pointers are only read.
func TestP3NoPointers(t *testing.T) {
	n := name("same", "name")
	m := api.Message{Questions: []api.Question{{Name: n}, {Name: n}}, Answers: []api.Record{{Name: n, Type: api.TypeNS, Data: n}}}
	if b := mustPack(t, m); strings.Count(string(b), n) != 4 {
		t.Errorf("the name stands %d times in %x, want 4", strings.Count(string(b), n), b)
	}
}

func TestP3Edges(t *testing.T) {
	good := []struct {
		told string
		m    api.Message
		size int
	}{
		{"a name of 255 bytes", asked(nameOf255()), 12 + 255 + 4},
		{"a label of 63 bytes", asked(label(63) + "\x00"), 12 + 65 + 4},
		{"the root", asked("\x00"), 12 + 1 + 4},
		{"a label with any bytes", asked(name("\x00\xc0\xff.")), 12 + 6 + 4},
		{"data that are a name of 255 bytes", told(api.TypeCNAME, nameOf255()), 12 + 1 + 10 + 255},
		{"data that are no name, of another type", told(api.TypeA, "\xff"), 12 + 1 + 10 + 1},
		{"no data", told(3, ""), 12 + 1 + 10},
		{"512 bytes", told(16, strings.Repeat("x", 489)), 512},
	}
	for _, c := range good {
		if b := mustPack(t, c.m); len(b) != c.size {
			t.Errorf("%s: %d bytes, want %d", c.told, len(b), c.size)
		}
	}
}

// asked is a message with a question of that name.
func asked(n string) api.Message {
	return api.Message{Questions: []api.Question{{Name: n, Type: api.TypeA, Class: api.ClassIN}}}
}

// told is a message with a record of the root, of that type and data.
func told(kind uint16, data string) api.Message {
	return api.Message{Extra: []api.Record{{Name: "\x00", Type: kind, Class: api.ClassIN, Data: data}}}
}

func noNames() map[string]string {
	return map[string]string{
		"nothing":             "",
		"no end":              "\x01a",
		"a label cut off":     "\x02a",
		"a length alone":      "\x01",
		"a 0 too many":        "\x01a\x00\x00",
		"two roots":           "\x00\x00",
		"something behind":    "\x00a",
		"a label of 64 bytes": label(64) + "\x00",
		"a length of 128":     label(128) + "\x00",
		"a length of 191":     label(191) + "\x00",
		"a pointer":           "\xc0\x0c",
		"a pointer behind":    "\x01a\xc0\x00",
		"256 bytes":           nameOf256(),
		"far too much":        strings.Repeat("\x01a", 1<<20) + "\x00",
		"text":                "example.org",
	}
}

func TestP3NoName(t *testing.T) {
	for what, n := range noNames() {
		list := []api.Record{{Name: n, Type: api.TypeA}}
		for where, m := range map[string]api.Message{
			"question":    asked(n),
			"answer":      {Answers: list},
			"authority":   {Authority: list},
			"extra":       {Extra: list},
			"NS data":     told(api.TypeNS, n),
			"CNAME data":  told(api.TypeCNAME, n),
			"second":      {Questions: []api.Question{{Name: "\x00"}, {Name: n}}},
			"other class": {Answers: []api.Record{{Name: "\x00", Type: api.TypeNS, Class: 77, Data: n}}},
		} {
			refused(t, what+" as "+where, m)
		}
	}
}

func refused(t *testing.T, what string, m api.Message) {
	t.Helper()
	if b, e := trawl.Pack(m); b != nil || e != api.ErrMessage {
		t.Errorf("%s: Pack gave %d bytes, error %d", what, len(b), e)
	}
}

func TestP3Refused(t *testing.T) {
	const most, least = int(^uint(0) >> 1), -int(^uint(0)>>1) - 1
	for _, x := range []int{-1, 16, 17, 256, 1 << 16, -1 << 16, most, least} {
		refused(t, "Op", api.Message{Op: x})
		refused(t, "Code", api.Message{Code: x})
	}
	refused(t, "513 bytes", told(16, strings.Repeat("x", 490)))
	refused(t, "data whose length wraps round in two bytes", told(16, strings.Repeat("x", 1<<16)))
	refused(t, "many questions", api.Message{Questions: make([]api.Question, 101)})
	questions := make([]api.Question, 1<<16)
	records := make([]api.Record, 1<<16)
	for i := range questions {
		questions[i].Name, records[i].Name = "\x00", "\x00"
	}
	refused(t, "questions whose count wraps round", api.Message{Questions: questions})
	refused(t, "answers whose count wraps round", api.Message{Answers: records})
	refused(t, "authority whose count wraps round", api.Message{Authority: records})
	refused(t, "extra whose count wraps round", api.Message{Extra: records})
	refused(t, "101 questions of 5 bytes", api.Message{Questions: questions[:101]})
	if b := mustPack(t, api.Message{Questions: questions[:100]}); len(b) != 512 {
		t.Errorf("100 questions of 5 bytes: %d bytes", len(b))
	}
	refused(t, "46 records of 11 bytes", api.Message{Answers: records[:20], Authority: records[:20], Extra: records[:6]})
	if b := mustPack(t, api.Message{Answers: records[:20], Authority: records[:20], Extra: records[:5]}); len(b) != 12+45*11 {
		t.Errorf("45 records of 11 bytes: %d bytes", len(b))
	}
}
