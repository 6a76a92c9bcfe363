package trawl_test

import (
	"reflect"
	"strings"
	"testing"

	"trawl/api"
	"trawl/trawl"
)

func TestP4Everything(t *testing.T) {
	if m := mustUnpack(t, []byte(everythingBytes)); !reflect.DeepEqual(m, everything()) {
		t.Errorf("got %+v, want %+v", m, everything())
	}
}

func TestP4Empty(t *testing.T) {
	if m := mustUnpack(t, make([]byte, 12)); !reflect.DeepEqual(m, api.Message{}) {
		t.Errorf("got %+v", m)
	}
}

func TestP4Flags(t *testing.T) {
	for _, c := range flagCases() {
		for idle := range uint16(8) {
			b := make([]byte, 12)
			b[2], b[3] = byte(c.flags>>8), byte(c.flags|idle<<4)
			if m := mustUnpack(t, b); !reflect.DeepEqual(m, c.m) {
				t.Errorf("flags %x: got %+v, want %+v", b[2:4], m, c.m)
			}
		}
	}
}

func TestP4MissingOrLeft(t *testing.T) {
	for size := range everythingBytes {
		noMessage(t, "cut off", everythingBytes[:size])
	}
	for _, more := range []string{"\x00", "x", "\xc0\x0c", everythingBytes} {
		noMessage(t, "something left", everythingBytes+more)
	}
	// one element more, or less, than there are
	for place := 5; place < 12; place += 2 {
		for _, by := range []byte{1, 255} {
			b := []byte(everythingBytes)
			b[place] += by
			noMessage(t, "a wrong count", string(b))
		}
		b := []byte(everythingBytes)
		b[place-1] = 0xff
		noMessage(t, "a great count", string(b))
	}
}

func noMessage(t *testing.T, what, b string) {
	t.Helper()
	if m, e := trawl.Unpack([]byte(b)); e != api.ErrMessage || !reflect.DeepEqual(m, api.Message{}) {
		t.Errorf("%s: Unpack(%.80x) gave %+v, error %d", what, b, m, e)
	}
}

func TestP4MostBytes(t *testing.T) {
	m := told(16, strings.Repeat("x", 489))
	b := mustPack(t, m)
	if got := mustUnpack(t, b); !reflect.DeepEqual(got, m) {
		t.Errorf("512 bytes: got %+v", got)
	}
	b[22]++
	noMessage(t, "513 bytes", string(b)+"x")
}

// header is that of a message with so many questions and answers; its first bytes can be read as the name x.
func header(questions, answers byte) string {
	return "\x01x\x00\x00\x00" + string([]byte{questions, 0, answers}) + "\x00\x00\x00\x00"
}

const tail = "\x00\x01\x00\x01" // type A, class IN

// In these tests the first name stands at place 12.
func TestP4Names(t *testing.T) {
	for _, c := range []struct{ told, first, second, want string }{
		{"a whole name", name("a"), name("b", "c"), name("b", "c")},
		{"the root", name("a"), "\x00", "\x00"},
		{"255 bytes", name("a"), nameOf255(), nameOf255()},
		{"a pointer alone", name("a", "b"), "\xc0\x0c", name("a", "b")},
		{"a pointer to the second label", name("a", "b"), "\xc0\x0e", name("b")},
		{"a pointer to the 0", name("a", "b"), "\xc0\x10", "\x00"},
		{"labels and a pointer", name("a", "b"), "\x01c\x02de\xc0\x0e", name("c", "de", "b")},
		{"a pointer into a label", name("\x01a\x00"), "\xc0\x0d", name("a")},
		{"a pointer to a pointer", name("\xc0\x0c"), "\xc0\x0d", name("\xc0\x0c")},
		{"a pointer to the message's beginning", name("a"), "\xc0\x00", name("x")},
		{"a pointer to a class", name("a"), "\xc0\x11", "\x00"},
		{"upper and lower case", name("aA", "Zz"), "\x01Q\xc0\x0c", name("Q", "aA", "Zz")},
		{"255 bytes by a pointer", name("a"), label(63) + label(63) + label(63) + label(59) + "\xc0\x0c", label(63) + label(63) + label(63) + label(59) + name("a")},
	} {
		m := mustUnpack(t, []byte(header(2, 0)+c.first+tail+c.second+tail))
		want := []api.Question{{Name: c.first, Type: api.TypeA, Class: api.ClassIN}, {Name: c.want, Type: api.TypeA, Class: api.ClassIN}}
		if !reflect.DeepEqual(m.Questions, want) {
			t.Errorf("%s: got %+v, want %+v", c.told, m.Questions, want)
		}
	}
}

func TestP4BadNames(t *testing.T) {
	// the second name stands at place 19 = 0x13 here
	for what, n := range map[string]string{
		"a pointer to itself":                     "\xc0\x13",
		"a pointer to its second byte":            "\xc0\x14",
		"a pointer to its own label":              "\x01c\xc0\x13",
		"a pointer to the pointer behind a label": "\x01c\xc0\x15",
		"a pointer to a 0 behind":                 "\xc0\x15",
		"a pointer to the last byte but one":      "\xc0\x17",
		"a pointer behind the end":                "\xc2\x00",
		"the greatest pointer":                    "\xff\xff",
		"a pointer to a length of 64":             "\xc0\x0d",
		"a length of 64":                          label(64) + "\x00",
		"a length of 127":                         label(127) + "\x00",
		"a length of 128":                         label(128) + "\x00",
		"a length of 191":                         label(191) + "\x00",
		"a label and a length of 64":              "\x01a" + label(64) + "\x00",
		"256 bytes":                               nameOf256(),
		"256 bytes by a pointer":                  label(63) + label(63) + label(63) + label(60) + "\xc0\x0c",
		"no end":                                  label(4),
	} {
		noMessage(t, what, header(2, 0)+name("@")+tail+n+tail)
	}
	noMessage(t, "half a pointer", header(1, 0)+"\xc0")
	noMessage(t, "a label and half a pointer", header(1, 0)+"\x01a\xc0")
	noMessage(t, "a pointer and no type", header(1, 0)+"\xc0\x00")
}

// A pointer's place is held against where its own piece began, not only against where the name did.
func TestP4PiecesGoAhead(t *testing.T) {
	const start = "\xc0\x0d" // leads to place 13, the first name's label
	for what, inner := range map[string]string{
		"to a 0 ahead of the name, behind the piece": "\xc0\x0f\x00",
		"to itself":                "\xc0\x0d\x00",
		"back to the second name":  "\xc0\x15\x00",
		"behind a label to itself": "\x01a\xc0\x0d",
		"to the label's pointer":   "\x01a\xc0\x0f",
	} {
		noMessage(t, "a piece with a pointer "+what, header(2, 0)+name(inner)+tail+start+tail)
	}
	m := mustUnpack(t, []byte(header(2, 0)+name("\x01a\xc0\x00")+tail+"\x01b"+start+tail))
	if got, want := m.Questions[1].Name, name("b", "a", "x"); got != want {
		t.Errorf("three pieces: got %x, want %x", got, want)
	}
}

// Only where a piece begins is bound: its labels may lie over the pointer that led there.
func TestP4PieceOverItsPointer(t *testing.T) {
	b := header(2, 1) + name("a") + tail + "\xc0\x12" + tail + "\x00" + tail + "\x00\x00\x00\x3c\x00\x04123\x00"
	want := b[18:40]
	if got := mustUnpack(t, []byte(b)).Questions[1].Name; got != want {
		t.Errorf("got %x, want %x", got, want)
	}
}

// pointer gives the bytes of a pointer to a place.
func pointer(place int) string {
	return string([]byte{192 | byte(place>>8), byte(place)})
}

// chain is a message whose first name is a; each other name is some labels, and a pointer to the name ahead of it.
func chain(labels string, links int) string {
	b := header(byte(links+1), 0) + name("a") + tail
	place := 12
	for range links {
		here := len(b)
		b += labels + pointer(place) + tail
		place = here
	}
	return b
}

func TestP4Chains(t *testing.T) {
	for _, c := range []struct {
		labels string
		links  int
	}{{"", 82}, {label(1), 61}, {label(20), 12}, {label(62), 4}} {
		m := mustUnpack(t, []byte(chain(c.labels, c.links)))
		for i, q := range m.Questions {
			if q.Name != strings.Repeat(c.labels, i)+name("a") {
				t.Errorf("labels %q, name %d: %x", c.labels, i, q.Name)
			}
		}
	}
	noMessage(t, "a chain whose last name has 256 bytes", chain(label(22), 11))
	noMessage(t, "a chain whose last name has 318 bytes", chain(label(62), 5))
}

// answer is a message with the question a.b (at place 12) and a record of the same name, of that type, length and data.
func answer(kind, size byte, data string) string {
	return header(1, 1) + name("a", "b") + tail + "\xc0\x0c\x00" + string([]byte{kind}) + "\x00\x01\x00\x00\x00\x3c\x00" + string([]byte{size}) + data
}

func TestP4Data(t *testing.T) {
	for _, c := range []struct {
		told, data, want string
		kinds            []byte
	}{
		{"a name", name("c"), name("c"), []byte{2, 5}},
		{"the root", "\x00", "\x00", []byte{2, 5}},
		{"a pointer", "\xc0\x0c", name("a", "b"), []byte{2, 5}},
		{"labels and a pointer", "\x01c\xc0\x0e", name("c", "b"), []byte{2, 5}},
		{"a pointer to the record's name", "\xc0\x15", name("a", "b"), []byte{2, 5}},
		{"a pointer to the data's length", "\xc0\x1f", "\x00", []byte{2, 5}},
		{"a pointer, in data of another type", "\xc0\x0c", "\xc0\x0c", []byte{1, 3, 4, 6, 12, 255}},
		{"nothing, in data of another type", "", "", []byte{1, 3, 6, 16}},
		{"any bytes, in data of another type", "\xff\x00\x40", "\xff\x00\x40", []byte{1, 6, 16}},
		{"an address", "\x01\x02\x03\x04", "\x01\x02\x03\x04", []byte{1}},
	} {
		for _, kind := range c.kinds {
			m := mustUnpack(t, []byte(answer(kind, byte(len(c.data)), c.data)))
			want := []api.Record{{Name: name("a", "b"), Type: uint16(kind), Class: 1, TTL: 60, Data: c.want}}
			if !reflect.DeepEqual(m.Answers, want) {
				t.Errorf("%s, type %d: got %+v, want %+v", c.told, kind, m.Answers, want)
			}
		}
	}
}

func TestP4BadData(t *testing.T) {
	for _, kind := range []byte{2, 5} {
		noMessage(t, "a name and a byte", answer(kind, 4, name("c")+"\x00"))
		noMessage(t, "a pointer and a byte", answer(kind, 3, "\xc0\x0c\x00"))
		noMessage(t, "two names", answer(kind, 6, name("c")+name("d")))
		noMessage(t, "no data", answer(kind, 0, ""))
		noMessage(t, "no data, and a name behind", answer(kind, 0, "\x00"))
		noMessage(t, "a name that is longer than the data", answer(kind, 2, name("c")))
		noMessage(t, "a pointer that is longer than the data", answer(kind, 1, "\xc0\x0c"))
		noMessage(t, "data that are longer than the message", answer(kind, 4, name("c")))
		noMessage(t, "a name without an end", answer(kind, 2, "\x01c"))
		noMessage(t, "a pointer to itself", answer(kind, 2, "\xc0\x21"))
		noMessage(t, "a length that is none", answer(kind, 2, "\x40\x00"))
	}
	noMessage(t, "data that are cut off", answer(1, 4, "123"))
	noMessage(t, "data and a byte", answer(1, 4, "12345"))
}

func TestP4PackedAndBack(t *testing.T) {
	for _, m := range []api.Message{
		everything(), asked(nameOf255()), asked("\x00"), told(api.TypeNS, nameOf255()), told(0, "\xc0\x00"), told(65535, ""),
		{ID: 65535}, {Answers: []api.Record{{Name: name("\x00"), Type: api.TypeCNAME, Class: 65535, TTL: 1 << 31, Data: name("\xff")}}},
	} {
		if got := mustUnpack(t, mustPack(t, m)); !reflect.DeepEqual(got, m) {
			t.Errorf("got %+v, want %+v", got, m)
		}
	}
}
