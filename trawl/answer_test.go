package trawl_test

import (
	"slices"
	"strings"
	"testing"

	"trawl/api"
)

func TestP11Answers(t *testing.T) {
	for _, id := range []uint16{0, 1, 0x1234, 65535} {
		for _, wanted := range []bool{false, true} {
			n := name("wWw", "A")
			m := api.Message{ID: id, Own: true, Cut: true, Wanted: wanted, Code: 9, Questions: asked(n).Questions, Answers: list(address(n, 9)), Extra: list(address(n, 9))}
			k := talkWith(t, config(func(c *api.Config) { c.Tries = 1 }))
			found := address(name("www", "a"), 1)
			for _, way := range []struct {
				heard api.Message
				code  int
				want  []api.Record
			}{
				{api.Message{Own: true, Answers: list(found), Authority: list(found), Extra: list(found)}, 0, list(found)},
				{api.Message{Own: true}, 0, nil},
				{api.Message{Code: api.NoName, Own: true, Authority: list(record(name("a"), 6, "soa"))}, api.NoName, nil},
				{api.Message{Code: 5, Answers: list(found)}, api.Failed, nil},
			} {
				k.askAll(m)
				k.goesTo(7)
				k.hears(way.heard)
				k.answers(way.code, way.want...)
			}
		}
	}
}

// The bytes of an answer, written out by hand.
func TestP11Bytes(t *testing.T) {
	k := talkWith(t, config(nil))
	k.askAll(api.Message{ID: 0xabcd, Wanted: true, Questions: asked(name("A")).Questions})
	k.goesTo(7)
	k.own(api.Record{Name: name("a"), Type: 1, Class: 1, TTL: 258, Data: "\x01\x02\x03\x04"})
	want := "\xab\xcd\x81\x80\x00\x01\x00\x01\x00\x00\x00\x00\x01A\x00\x00\x01\x00\x01\x01a\x00\x00\x01\x00\x01\x00\x00\x01\x02\x00\x04\x01\x02\x03\x04"
	if k.step.Kind != api.Answer || string(k.step.Bytes) != want {
		t.Errorf("got %x, want %x", k.step.Bytes, want)
	}
}

// links are names of which each one stands for the next.
func links(count int) (names []string, records []api.Record) {
	for i := range count + 1 {
		names = append(names, name(string([]byte{'a' + byte(i)})))
	}
	for i := range count {
		r := standing(names[i], names[i+1])
		r.TTL = uint32(i)
		records = append(records, r)
	}
	return names, records
}

// follow lets one name stand for the next one, so often.
func (k *talk) follow(names []string, records []api.Record, count int) {
	k.t.Helper()
	for i := range count {
		k.sends(7, names[i], k.asked.Questions[0].Type)
		k.own(records[i])
	}
}

func TestP11Chain(t *testing.T) {
	names, records := links(11)
	for chain := 0; chain <= 10; chain++ {
		set := func(c *api.Config) { c.Chain = chain }
		for code, heard := range map[int]api.Message{api.NoError: {Own: true}, api.NoName: {Code: api.NoName}} {
			k := talkOf(t, names[0], set)
			k.follow(names, records, chain)
			k.sends(7, names[chain], 1)
			k.hears(heard)
			k.answers(code, records[:chain]...)
		}
		found := address(names[chain], 1)
		k := talkOf(t, names[0], set)
		k.follow(names, records, chain)
		k.sends(7, names[chain], 1)
		k.own(found, found)
		k.answers(0, append(append(list(), records[:chain]...), found, found)...)
		// one more
		k.ask(names[0], 1)
		k.follow(names, records, chain+1)
		k.answers(api.Failed)
	}
}

// With Failed nothing that was kept is told.
func TestP11FailedBehindOthers(t *testing.T) {
	names, records := links(3)
	k := talkOf(t, names[0], func(c *api.Config) { c.Tries = 1 })
	k.follow(names, records, 3)
	k.sends(7, names[3], 1)
	k.lame()
	k.answers(api.Failed)
	k = talkOf(t, names[0], func(c *api.Config) { c.Budget = 3 })
	k.follow(names, records, 3)
	k.answers(api.Failed)
	k = talkOf(t, names[0], func(c *api.Config) { c.Depth = 0 })
	k.follow(names, records, 3)
	k.sends(7, names[3], 1)
	k.refers(names[3], []string{name("n")})
	k.answers(api.Failed)
}

// A name that was looked up for the answer ahead leads round.
func TestP11Round(t *testing.T) {
	names, records := links(4)
	for count := range 4 {
		for back := range count + 1 {
			for _, other := range []string{names[back], strings.ToUpper(names[back])} {
				k := talkOf(t, names[0], nil)
				k.follow(names, records, count)
				k.sends(7, names[count], 1)
				k.own(standing(names[count], other))
				k.answers(api.Failed)
			}
		}
	}
	k := talkOf(t, name("A", "b"), nil)
	k.goesTo(7)
	k.own(standing(name("a", "b"), name("a", "B")))
	k.answers(api.Failed)
}

// Servers' names and the names of records do not count among those ahead.
func TestP11NotRound(t *testing.T) {
	n, s := name("x", "a"), name("n", "b")
	k := talkOf(t, n, nil)
	k.goesTo(7)
	k.refers(name("a"), []string{s})
	k.sends(7, s, 1)
	k.own(address(s, 30))
	k.goesTo(30)
	k.own(standing(n, s))
	k.sends(7, s, 1)
	k.own(standing(s, name("a")))
	k.sends(7, name("a"), 1)
	k.own(address(name("a"), 1))
	k.answers(0, standing(n, s), standing(s, name("a")), address(name("a"), 1))
	// what was ahead of the last question does not count for the next one
	k.ask(name("a"), 1)
	k.goesTo(7)
	k.own(standing(name("a"), n))
	k.sends(7, n, 1)
	k.own()
	k.answers(0, standing(name("a"), n))
}

// The type that was asked stays; a CNAME is what is found if it is asked for.
func TestP11OtherTypes(t *testing.T) {
	names, records := links(2)
	for _, kind := range []uint16{0, 2, 16, 255, 65535} {
		k := talkWith(t, config(nil))
		k.ask(names[0], kind)
		k.follow(names, records, 2)
		k.sends(7, names[2], kind)
		k.own(record(names[2], kind, "\x00"))
		k.answers(0, records[0], records[1], record(names[2], kind, "\x00"))
	}
	k := talkWith(t, config(func(c *api.Config) { c.Chain = 0 }))
	k.ask(names[0], 5)
	k.goesTo(7)
	k.own(records[0], standing(names[0], names[0]))
	k.answers(0, records[0], standing(names[0], names[0]))
}

// Behind the other name the way begins at the root, not in the zone where the record stood.
func TestP11FromTheRoot(t *testing.T) {
	n, y := name("x", "a"), name("y", "a")
	k := talkOf(t, n, nil)
	k.goesTo(7)
	k.refers(name("a"), []string{name("n", "a")}, address(name("n", "a"), 30))
	k.goesTo(30)
	k.own(standing(n, y), address(y, 9))
	k.sends(7, y, 1)
	// in the zone of the root again: what is told of b counts there
	k.refers(name("a"), []string{name("n", "b")}, address(name("n", "b"), 31))
	k.sends(31, y, 1)
	k.own(address(y, 1))
	k.answers(0, standing(n, y), address(y, 1))
}

// An answer of 512 bytes is whole: 19 for the header and the question, 13 and its data for the record.
func TestP11MostBytes(t *testing.T) {
	for data, isCut := range map[int]bool{0: false, 479: false, 480: false, 481: true} {
		k := talkWith(t, config(nil))
		k.ask(name("a"), 16)
		k.goesTo(7)
		found := record(name("a"), 16, strings.Repeat("x", data))
		k.hearsPointers(found)
		if isCut {
			k.answersBy(api.Message{Cut: true})
		} else {
			k.answers(0, found)
		}
	}
}

// Many records together are too long, too.
func TestP11TooMany(t *testing.T) {
	n := name(strings.Repeat("n", 20)) // 22 bytes: 38 with header and question, 36 for each record
	for count, isCut := range map[int]bool{13: false, 14: true, 28: true} {
		k := talkOf(t, n, nil)
		k.goesTo(7)
		found := slices.Repeat(list(address(n, 1)), count)
		k.hearsPointers(found...)
		if isCut {
			k.answersBy(api.Message{Cut: true})
		} else {
			k.answers(0, found...)
		}
	}
}

// What was kept counts: 19 bytes, 16 for what is kept, 13 and its data for what is found.
func TestP11MostBytesWithKept(t *testing.T) {
	for data, isCut := range map[int]bool{464: false, 465: true} {
		k := talkWith(t, config(nil))
		k.ask(name("a"), 16)
		k.goesTo(7)
		kept, found := standing(name("a"), name("b")), record(name("b"), 16, strings.Repeat("x", data))
		k.own(kept)
		k.sends(7, name("b"), 16)
		k.own(found)
		if isCut {
			k.answersBy(api.Message{Cut: true})
		} else {
			k.answers(0, kept, found)
		}
	}
}

// What was kept can be too long alone, when there is no name, or nothing.
func TestP11KeptIsTooLong(t *testing.T) {
	var names []string
	for _, c := range []string{"a", "b", "c"} {
		names = append(names, name(strings.Repeat(c, 60), strings.Repeat(c, 60), strings.Repeat(c, 60)))
	}
	first, second := standing(names[0], names[1]), standing(names[1], names[2])
	for code, heard := range map[int]api.Message{api.NoName: {Code: api.NoName}, api.NoError: {Own: true}} {
		k := talkOf(t, names[0], nil)
		k.goesTo(7)
		k.hearsPointers(first)
		k.sends(7, names[1], 1)
		k.hearsPointers(second)
		k.sends(7, names[2], 1)
		k.hears(heard)
		k.answersBy(api.Message{Code: code, Cut: true})
		// the first one alone is too long: 200 bytes of header and question, and 378
		k.ask(names[0], 1)
		k.goesTo(7)
		k.hearsPointers(first)
		k.sends(7, names[1], 1)
		k.hears(heard)
		k.answersBy(api.Message{Code: code, Cut: true})
	}
}

// Failed has no records, and so is never cut.
func TestP11FailedIsNotCut(t *testing.T) {
	n, m := name(strings.Repeat("a", 60), strings.Repeat("a", 60), strings.Repeat("a", 60)), name(strings.Repeat("b", 60), strings.Repeat("b", 60), strings.Repeat("b", 60))
	k := talkOf(t, n, func(c *api.Config) { c.Tries = 1 })
	k.goesTo(7)
	k.hearsPointers(standing(n, m))
	k.sends(7, m, 1)
	k.late()
	k.answers(api.Failed)
	k.ask(nameOf255(), 1)
	k.goesTo(7)
	k.late()
	k.answers(api.Failed)
}

// hearsPointers lets the server say its own records, with pointers for their names: so there is room for more.
func (k *talk) hearsPointers(l ...api.Record) {
	k.t.Helper()
	q := mustUnpack(k.t, k.step.Bytes).Questions[0]
	b := []byte{byte(k.sent >> 8), byte(k.sent), 0x84, 0, 0, 1, 0, byte(len(l)), 0, 0, 0, 0}
	b = append(b, q.Name+string([]byte{byte(q.Type >> 8), byte(q.Type), 0, 1})...)
	for _, r := range l {
		b = append(b, "\xc0\x0c"+string([]byte{byte(r.Type >> 8), byte(r.Type), 0, 1, 0, 0, byte(r.TTL >> 8), byte(r.TTL), byte(len(r.Data) >> 8), byte(len(r.Data))})+r.Data...)
	}
	s, e := k.r.Heard(k.step.To, b)
	if e != api.OK {
		k.t.Fatalf("Heard(%x): error %d", b, e)
	}
	k.step = s
}
