package trawl_test

import (
	"reflect"
	"slices"
	"testing"

	"trawl/api"
	"trawl/trawl"
)

// fitting is what the server 7 may say to the first question, for the address of that name.
func fitting(n string) api.Message {
	return api.Message{ID: 1, Response: true, Own: true, Questions: asked(n).Questions, Answers: list(address(n, 1))}
}

// unfit looks whether what is heard leads to nothing.
func unfit(t *testing.T, what string, r *trawl.Resolver, from uint32, b []byte) {
	t.Helper()
	if s, e := r.Heard(from, b); e != api.OK || !reflect.DeepEqual(s, api.Step{}) {
		t.Errorf("%s: got %s, error %d, instead of nothing", what, shown(s), e)
	}
}

func TestP7Unfit(t *testing.T) {
	n := name("a", "b")
	k := talkOf(t, n, nil)
	k.goesTo(7)
	for what, turn := range map[string]func(m *api.Message){
		"the next ID":            func(m *api.Message) { m.ID = 2 },
		"the last ID":            func(m *api.Message) { m.ID = 0 },
		"the asked one's ID":     func(m *api.Message) { m.ID = k.asked.ID },
		"a higher byte of an ID": func(m *api.Message) { m.ID = 0x0101 },
		"no response":            func(m *api.Message) { m.Response = false },
		"no question":            func(m *api.Message) { m.Questions = nil },
		"the question twice":     func(m *api.Message) { m.Questions = append(m.Questions, m.Questions...) },
		"a question behind it":   func(m *api.Message) { m.Questions = append(m.Questions, question(name("c"), 1)) },
		"a question ahead of it": func(m *api.Message) { m.Questions = append([]api.Question{question(name("c"), 1)}, m.Questions...) },
		"another type":           func(m *api.Message) { m.Questions[0].Type = 2 },
		"a higher byte of type":  func(m *api.Message) { m.Questions[0].Type = 0x0101 },
		"another class":          func(m *api.Message) { m.Questions[0].Class = 3 },
		"any class":              func(m *api.Message) { m.Questions[0].Class = 255 },
		"another name":           func(m *api.Message) { m.Questions[0].Name = name("a", "c") },
		"a name above":           func(m *api.Message) { m.Questions[0].Name = name("b") },
		"a name below":           func(m *api.Message) { m.Questions[0].Name = name("x", "a", "b") },
		"a name with more":       func(m *api.Message) { m.Questions[0].Name = name("a", "b", "c") },
		"the root":               func(m *api.Message) { m.Questions[0].Name = "\x00" },
		"other labels":           func(m *api.Message) { m.Questions[0].Name = name("a\x01b") },
	} {
		m := fitting(n)
		turn(&m)
		unfit(t, what, k.r, 7, mustPack(t, m))
	}
	k.own(address(n, 1))
	k.answers(0, address(n, 1))
}

func TestP7NoMessage(t *testing.T) {
	n := name("a", "b")
	k := talkOf(t, n, nil)
	k.goesTo(7)
	b := mustPack(t, fitting(n))
	for size := range len(b) {
		unfit(t, "cut off", k.r, 7, b[:size])
	}
	unfit(t, "no list", k.r, 7, nil)
	unfit(t, "something left", k.r, 7, append(slices.Clone(b), 0))
	unfit(t, "513 bytes", k.r, 7, append(slices.Clone(b), make([]byte, 513-len(b))...))
	unfit(t, "twice", k.r, 7, append(slices.Clone(b), b...))
	k.own(address(n, 1))
	k.answers(0, address(n, 1))
}

// Only the server that was asked last is listened to.
func TestP7FromAnother(t *testing.T) {
	n := name("a")
	k := talkOf(t, n, func(c *api.Config) { c.Roots = []uint32{7, 8, 0, 1<<32 - 1, 7} })
	for id, to := range []uint32{7, 8, 0, 1<<32 - 1, 7} {
		if id > 0 {
			k.late()
		}
		k.sends(to, n, 1)
		m := fitting(n)
		m.ID = uint16(id + 1)
		for _, from := range []uint32{7, 8, 0, 1<<32 - 1, 9, to + 1, to - 1, to + 1<<31, to + 256} {
			if from != to {
				unfit(t, "from another server", k.r, from, mustPack(t, m))
			}
		}
		for other := range uint16(10) {
			if m.ID = other; int(other) != id+1 {
				unfit(t, "another question's ID", k.r, to, mustPack(t, m))
			}
		}
	}
	k.own(address(n, 1))
	k.answers(0, address(n, 1))
}

// What does not matter for fitting: all flags but one, the other lists, and pointers.
func TestP7Fits(t *testing.T) {
	n := name("a", "b")
	for what, turn := range map[string]func(m *api.Message){
		"as it is":   func(m *api.Message) {},
		"an Op":      func(m *api.Message) { m.Op = 15 },
		"not own":    func(m *api.Message) { m.Own = false },
		"cut":        func(m *api.Message) { m.Cut = true },
		"wanted":     func(m *api.Message) { m.Wanted = true },
		"able":       func(m *api.Message) { m.Able = true },
		"more lists": func(m *api.Message) { m.Authority, m.Extra = m.Answers, m.Answers },
	} {
		k := talkOf(t, n, nil)
		k.goesTo(7)
		m := fitting(n)
		turn(&m)
		s, e := k.r.Heard(7, mustPack(t, m))
		if e != api.OK || s.Kind != api.Answer {
			t.Errorf("%s: got %s, error %d", what, shown(s), e)
		}
	}
	k := talkOf(t, n, nil)
	k.goesTo(7)
	s, _ := k.r.Heard(7, []byte("\x00\x01\x80\x70\x00\x01\x00\x01\x00\x00\x00\x00"+n+tail+"\xc0\x0c"+tail+"\x00\x00\x00\x05\x00\x04\x01\x02\x03\x04"))
	k.step = s
	k.answers(0, api.Record{Name: n, Type: 1, Class: 1, TTL: 5, Data: "\x01\x02\x03\x04"})
}

// Letters A to Z may differ by their case, and nothing else may.
func TestP7NamesThatFit(t *testing.T) {
	for sent := range 256 {
		for heard := range 256 {
			letter := sent|32 >= 'a' && sent|32 <= 'z'
			fits := sent == heard || letter && sent|32 == heard|32
			if !fits && sent^heard != 32 && sent%16 != 0 {
				continue // to be quick: those that differ in one bit are the ones to mix up
			}
			k := talkOf(t, name(string([]byte{'x', byte(sent)})), nil)
			m := fitting(name(string([]byte{'X', byte(heard)})))
			s, e := k.r.Heard(7, mustPack(t, m))
			if e != api.OK || (s.Kind == api.Answer) != fits {
				t.Errorf("bytes %d and %d: got %s, error %d", sent, heard, shown(s), e)
			}
		}
	}
	// such as are the same only for those who know more letters
	for _, pair := range [][2]string{{"\u212a", "k"}, {"\u212a", "\u212a"[:2] + "k"}, {"\u017f", "s"}, {"\u00c4", "\u00e4"}, {"\u0130", "i"}, {"\xff", "\xfe"}} {
		k := talkOf(t, name(pair[0]), nil)
		unfit(t, pair[0], k.r, 7, mustPack(t, fitting(name(pair[1]))))
	}
}

// The longest name, in letters of the other case.
func TestP7LongNameFits(t *testing.T) {
	n := nameOf255()
	k := talkOf(t, n, nil)
	k.goesTo(7)
	big := []byte(n)
	for i, c := range big {
		if c == 'x' {
			big[i] = 'X'
		}
	}
	m := fitting(string(big))
	m.Answers = nil
	s, _ := k.r.Heard(7, mustPack(t, m))
	k.step = s
	k.answers(0)
}

// What does not fit costs nothing: no ID, no try, no question of the budget.
func TestP7UnfitChangesNothing(t *testing.T) {
	n := name("a")
	k := talkOf(t, n, func(c *api.Config) { c.Tries, c.Budget, c.Roots = 2, 2, []uint32{7, 8} })
	k.goesTo(7)
	for range 300 {
		unfit(t, "from another", k.r, 8, mustPack(t, fitting(n)))
		unfit(t, "no message", k.r, 7, nil)
	}
	k.late()
	k.goesTo(8)
	unfit(t, "from the server ahead", k.r, 7, mustPack(t, fitting(n)))
	k.late()
	k.answers(api.Failed)
}

// Any byte of what fits is changed: what leads on then is just what fits still.
func TestP7AnyByte(t *testing.T) {
	n := name("a", "b")
	fit := string(mustPack(t, fitting(n)))
	eachByteChanged(fit, func(b []byte) {
		k := talkOf(t, n, nil)
		s, e := k.r.Heard(7, b)
		q := len(mustPack(t, asked(n)))
		head := b[0] == 0 && b[1] == 1 && b[2]&0x80 != 0 && string(b[4:6]) == fit[4:6]
		same := string(b[13:14]) == "a" || string(b[13:14]) == "A"
		same = same && (string(b[15:16]) == "b" || string(b[15:16]) == "B") && b[12] == 1 && b[14] == 1 && string(b[16:q]) == fit[16:q]
		_, isMessage := trawl.Unpack(b)
		fits := head && same && isMessage == api.OK
		if e != api.OK || (s.Kind != api.Nothing) != fits {
			t.Fatalf("%x: got %s, error %d", b, shown(s), e)
		}
	})
}

// The IDs of a resolver go on through all that it is asked and all that it looks up.
func TestP7IDs(t *testing.T) {
	k := talkWith(t, config(func(c *api.Config) { c.Tries = 2 }))
	n := name("x", "a")
	for range 3 {
		k.ask(n, api.TypeA)
		k.goesTo(7, 7)
		k.refers(name("a"), []string{name("n", "b")})
		k.sends(7, name("n", "b"), 1)
		k.own(address(name("n", "b"), 5))
		k.goesTo(5)
		k.own(standing(n, name("c")))
		k.sends(7, name("c"), 1)
		k.late()
		k.sends(7, name("c"), 1)
		k.late()
		k.answers(api.Failed)
	}
}

func TestP7IDsGoRound(t *testing.T) {
	k := talkWith(t, config(func(c *api.Config) { c.Tries = 1 }))
	for range 1<<16 + 3 {
		k.asked = asked(name("a"))
		k.step = mustAsk(t, k.r, mustPack(t, k.asked))
		k.goesTo(7)
		k.late()
	}
	if k.ask(name("a"), 1); string(k.step.Bytes[:2]) != "\x00\x04" {
		t.Errorf("the ID is %x", k.step.Bytes[:2])
	}
}

// At the end of the row the ID is heard, too.
func TestP7IDZero(t *testing.T) {
	k := talkWith(t, config(func(c *api.Config) { c.Tries = 8 }))
	for range 1 << 13 {
		k.ask(name("a"), 1)
		k.goesTo(7, 7, 7, 7, 7, 7, 7)
		if k.sent < 1<<16-1 {
			k.late()
			k.goesTo(7)
			k.late()
		}
	}
	k.late()
	k.sends(7, name("a"), 1)
	m := fitting(name("a"))
	for _, id := range []uint16{1, 65535, 256} {
		m.ID = id
		unfit(t, "another ID", k.r, 7, mustPack(t, m))
	}
	k.own(address(name("a"), 1))
	k.answers(0, address(name("a"), 1))
}

// When all is answered there is nothing to wait for, and when something is asked anew what was sent ahead does not fit.
func TestP7BehindTheAnswer(t *testing.T) {
	n := name("a")
	k := talkOf(t, n, nil)
	k.goesTo(7)
	k.own(address(n, 1))
	k.answers(0, address(n, 1))
	s, e := k.r.Heard(7, mustPack(t, fitting(n)))
	busy(t, "Heard", s, e)
	k.ask(n, 1)
	k.goesTo(7)
	unfit(t, "to what was asked ahead", k.r, 7, mustPack(t, fitting(n)))
	k.own(address(n, 2))
	k.answers(0, address(n, 2))
}

// A question that is sent has nothing of the one that was asked but its name and type.
func TestP7SentBytes(t *testing.T) {
	n := name("wWw", "a")
	k := talkWith(t, config(nil))
	m := api.Message{ID: 0xffff, Own: true, Cut: true, Wanted: true, Able: true, Code: 15, Questions: []api.Question{question(n, 0x1234)}, Extra: list(address("\x00", 1))}
	k.step = mustAsk(t, k.r, mustPack(t, m))
	for id := range byte(3) {
		want := "\x00" + string([]byte{id + 1}) + "\x00\x00\x00\x01\x00\x00\x00\x00\x00\x00" + n + "\x12\x34\x00\x01"
		if !reflect.DeepEqual(k.step, api.Step{Kind: api.Send, To: 7, Bytes: []byte(want)}) {
			t.Errorf("got %+v, want %x", k.step, want)
		}
		k.late()
	}
}
