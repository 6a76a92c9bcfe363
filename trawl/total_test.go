package trawl_test

import (
	"math/rand"
	"reflect"
	"strings"
	"testing"

	"trawl/api"
	"trawl/trawl"
)

// P1 for Unpack: whatever the bytes are, the call ends without panic, and gives a message or an error, never both.
func checkUnpack(t *testing.T, b []byte) {
	t.Helper()
	m, e := trawl.Unpack(b)
	switch {
	case e == api.ErrMessage:
		if !reflect.DeepEqual(m, api.Message{}) {
			t.Fatalf("Unpack(%x): an error, and %+v", b, m)
		}
	case e != api.OK:
		t.Fatalf("Unpack(%x): error %d", b, e)
	default:
		checkRead(t, b, m)
	}
}

// checkRead looks at what was read: it is packed and read again, a record at a time, for all of it may have more than 512 bytes without its pointers.
func checkRead(t *testing.T, b []byte, m api.Message) {
	t.Helper()
	single := []api.Message{{ID: m.ID, Response: m.Response, Op: m.Op, Own: m.Own, Cut: m.Cut, Wanted: m.Wanted, Able: m.Able, Code: m.Code}}
	for _, q := range m.Questions {
		single = append(single, api.Message{Questions: []api.Question{q}})
	}
	for _, list := range [][]api.Record{m.Answers, m.Authority, m.Extra} {
		for _, r := range list {
			if len(r.Name)+len(r.Data) <= api.MaxBytes-22 {
				single = append(single, api.Message{Extra: []api.Record{r}})
			}
		}
	}
	for _, want := range single {
		if got := mustUnpack(t, mustPack(t, want)); !reflect.DeepEqual(got, want) {
			t.Fatalf("of %x: got %+v, want %+v", b, got, want)
		}
	}
}

func TestP1UnpackAnyByte(t *testing.T) {
	for _, s := range []string{everythingBytes, answer(5, 4, "\x01c\xc0\x0e"), chain(label(1), 20)} {
		eachByteChanged(s, func(b []byte) { checkUnpack(t, b) })
	}
}

func TestP1UnpackAnyBytes(t *testing.T) {
	random := rand.New(rand.NewSource(1))
	pieces := []string{"\x00", "\x01a", "\xc0\x0c", "\xc0\x0d", "\xc0\x00", "\xc1\x00", tail, "\x00\x05\x00\x01", "\x00\x00\x00\x00\x00\x02", "\x3f", "\x40", "\xff"}
	for range 200000 {
		var b strings.Builder
		b.WriteString(header(byte(random.Intn(4)), byte(random.Intn(3))))
		for range random.Intn(12) {
			b.WriteString(pieces[random.Intn(len(pieces))])
		}
		checkUnpack(t, []byte(b.String()))
	}
}

func TestP1UnpackSizes(t *testing.T) {
	for _, size := range []int{0, 1, 11, 12, 13, 511, 512, 513, 1 << 16, 1 << 20} {
		for _, x := range []byte{0, 1, 2, 63, 64, 192, 255} {
			checkUnpack(t, []byte(strings.Repeat(string([]byte{x}), size)))
		}
	}
	checkUnpack(t, nil)
}

// checkPack is P1 for Pack: bytes, or an error, never both.
func checkPack(t *testing.T, m api.Message) {
	t.Helper()
	b, e := trawl.Pack(m)
	if e != api.OK && (e != api.ErrMessage || b != nil) {
		t.Fatalf("Pack(%.200v): %d bytes, error %d", m, len(b), e)
	}
	if e == api.OK && !reflect.DeepEqual(mustUnpack(t, b), m) {
		t.Fatalf("Pack(%+v) = %x", m, b)
	}
}

func TestP1PackAnything(t *testing.T) {
	random := rand.New(rand.NewSource(2))
	numbers := []int{0, 0, 0, 1, 15, 16, -1, 1 << 30, -1 << 30}
	texts := []string{"", "\x00", "\x00", "\x00", name("a"), name("a", "b"), nameOf255(), nameOf256(), "\x01", "\xff", "\xc0\x0c", strings.Repeat("x", 300), strings.Repeat("\x00", 1<<16)}
	number := func() int { return numbers[random.Intn(len(numbers))] }
	text := func() string { return texts[random.Intn(len(texts))] }
	records := func() []api.Record {
		var list []api.Record
		for range random.Intn(3) {
			list = append(list, api.Record{Name: text(), Type: uint16(random.Intn(7)), Class: uint16(number()), TTL: uint32(number()), Data: text()})
		}
		return list
	}
	for range 200000 {
		m := api.Message{ID: uint16(number()), Response: random.Intn(2) == 0, Op: number(), Code: number(), Answers: records(), Authority: records(), Extra: records()}
		for range random.Intn(3) {
			m.Questions = append(m.Questions, api.Question{Name: text(), Type: uint16(number()), Class: uint16(number())})
		}
		checkPack(t, m)
	}
}

// A list of any length is refused as soon as it is too much.
func TestP1PackLongLists(t *testing.T) {
	text := strings.Repeat("x", 1<<20)
	records := make([]api.Record, 1<<20)
	for i := range records {
		records[i] = api.Record{Name: "\x00", Type: 16, Data: text}
	}
	refused(t, "a million records of a million bytes", api.Message{Answers: records, Authority: records, Extra: records})
	refused(t, "a million empty records", api.Message{Extra: make([]api.Record, 1<<20)})
}
