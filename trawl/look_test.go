package trawl_test

import (
	"strings"
	"testing"

	"trawl/api"
)

// Here x.a is asked for, and the root's servers are 7 and 8: who is lame is followed by 8.

func talkOfXA(t *testing.T, kind uint16) *talk {
	t.Helper()
	k := talkWith(t, config(func(c *api.Config) { c.Roots = []uint32{7, 8} }))
	k.ask(name("x", "a"), kind)
	k.goesTo(7)
	return k
}

// inA is the same, further on: in the zone of a, whose servers are 17 and 18.
func inA(t *testing.T, kind uint16) *talk {
	t.Helper()
	k := talkOfXA(t, kind)
	k.refers(name("a"), []string{name("n", "a")}, address(name("n", "a"), 17), address(name("n", "a"), 18))
	k.goesTo(17)
	return k
}

func TestP9Codes(t *testing.T) {
	n := name("x", "a")
	for code := range 16 {
		for _, m := range []api.Message{{}, {Own: true}, {Own: true, Answers: list(address(n, 1))}, {Answers: list(standing(n, name("b")))}, {Authority: list(serverOf(name("a"), n)), Extra: list(address(n, 9))}} {
			k := talkOfXA(t, 1)
			m.Code = code
			k.hears(m)
			switch {
			case code != 0 && code != 3:
				k.goesTo(8)
			case code == 3 && len(m.Answers) == 0:
				k.answers(api.NoName)
			}
		}
	}
}

func TestP9Lame(t *testing.T) {
	n := name("x", "a")
	for what, m := range map[string]api.Message{
		"nothing":                   {},
		"another name":              {Answers: list(address(name("y", "a"), 1), address(name("a"), 1), address("\x00", 1), address(name("y", "x", "a"), 1))},
		"another type":              {Answers: list(record(n, 2, n), record(n, 16, "1234"), record(n, 257, "1234"))},
		"another class":             {Answers: list(ofClass(0, address(n, 1)), ofClass(2, address(n, 1)), ofClass(255, address(n, 1)), ofClass(257, address(n, 1)))},
		"another class's CNAME":     {Answers: list(ofClass(3, standing(n, name("b"))))},
		"another name's CNAME":      {Answers: list(standing(name("a"), name("b")), standing(name("y", "x", "a"), n))},
		"an address elsewhere":      {Authority: list(address(n, 1)), Extra: list(address(n, 1))},
		"a CNAME elsewhere":         {Authority: list(standing(n, name("b"))), Extra: list(standing(n, name("b")))},
		"the root's servers":        {Authority: list(serverOf("\x00", name("n"))), Extra: list(address(name("n"), 9))},
		"a neighbour's servers":     {Authority: list(serverOf(name("b"), name("n")), serverOf(name("y", "a"), name("n"))), Extra: list(address(name("n"), 9))},
		"servers of a name below":   {Authority: list(serverOf(name("y", "x", "a"), name("n"))), Extra: list(address(name("n"), 9))},
		"servers of a longer label": {Authority: list(serverOf(name("xa"), name("n")), serverOf(name("xx", "a"), name("n"))), Extra: list(address(name("n"), 9))},
		"servers of another class":  {Authority: list(ofClass(3, serverOf(name("a"), name("n")))), Extra: list(address(name("n"), 9))},
		"servers among the answers": {Answers: list(serverOf(name("a"), name("n"))), Extra: list(address(name("n"), 9))},
		"servers among the extra":   {Extra: list(serverOf(name("a"), name("n")), address(name("n"), 9))},
		"another type's authority":  {Authority: list(record(name("a"), 6, name("n")), standing(name("a"), name("n"))), Extra: list(address(name("n"), 9))},
	} {
		k := talkOfXA(t, 1)
		k.hears(m)
		if k.step.To != 8 {
			t.Errorf("%s: got %s", what, shown(k.step))
			continue
		}
		k.goesTo(8)
		// the same from who says that it is its own: there is nothing
		m.Own = true
		k.hears(m)
		k.answers(0)
	}
}

func TestP9Found(t *testing.T) {
	n, big := name("x", "a"), name("X", "A")
	for _, kind := range []uint16{0, 1, 2, 5, 16, 255, 65535} {
		one, other := record(n, kind, name("b")), record(big, kind, name("c"))
		other.TTL = 1<<32 - 1
		for _, m := range []api.Message{{}, {Own: true}, {Code: 3}, {Code: 3, Own: true, Cut: true}} {
			k := talkOfXA(t, kind)
			// nothing else matters then
			m.Answers = list(address(name("y", "a"), 9), standingUnless(kind, n), other, ofClass(3, one), one, record(n, 9999, "text"), one)
			m.Authority = list(serverOf(name("a"), name("n", "a")))
			m.Extra = list(address(name("n", "a"), 9), one)
			k.hears(m)
			k.answers(0, other, one, one)
		}
	}
	k := talkOfXA(t, 16)
	k.own(record(n, 16, ""))
	k.answers(0, record(n, 16, ""))
}

// standingUnless is a record by which the name stands for another one; if these are asked for, a record of no use.
func standingUnless(kind uint16, n string) api.Record {
	if kind == api.TypeCNAME {
		return record(n, 9998, "")
	}
	return standing(n, name("d"))
}

// An address that is found need not be of 4 bytes: what was asked is told as it came.
func TestP9FoundOfAnySize(t *testing.T) {
	n := name("x", "a")
	for _, data := range []string{"", "123", "12345"} {
		k := talkOfXA(t, 1)
		k.own(record(n, 1, data))
		k.answers(0, record(n, 1, data))
	}
}

func TestP9StandsFor(t *testing.T) {
	n := name("x", "a")
	for _, m := range []api.Message{{}, {Own: true}, {Code: 3}} {
		k := talkOfXA(t, 1)
		m.Answers = list(record(n, 2, n), standing(name("a"), name("e")), ofClass(3, standing(n, name("f"))), standing(name("X", "a"), name("B")), standing(n, name("c")), address(name("b"), 1))
		m.Authority = list(serverOf(name("a"), name("n", "a")))
		m.Extra = list(address(name("n", "a"), 9))
		k.hears(m)
		k.sends(7, name("B"), 1)
		k.own(address(name("b"), 2))
		k.answers(0, standing(name("X", "a"), name("B")), address(name("b"), 2))
	}
}

func TestP9NoName(t *testing.T) {
	for _, m := range []api.Message{
		{Code: 3}, {Code: 3, Own: true}, {Code: 3, Answers: list(address(name("a"), 1))},
		{Code: 3, Authority: list(serverOf(name("a"), name("n", "a"))), Extra: list(address(name("n", "a"), 9))},
	} {
		k := talkOfXA(t, 1)
		k.hears(m)
		k.answers(api.NoName)
	}
}

func TestP9Nothing(t *testing.T) {
	n := name("x", "a")
	for _, m := range []api.Message{{Own: true}, {Own: true, Answers: list(record(n, 28, "1234"))}, {Own: true, Authority: list(record(name("a"), 6, "soa"), serverOf("\x00", name("n")))}} {
		k := talkOfXA(t, 1)
		k.hears(m)
		k.answers(0)
	}
}

// Who sends on is followed, even if it says that all is its own.
func TestP9GoesOn(t *testing.T) {
	n := name("x", "a")
	for _, own := range []bool{false, true} {
		for _, zone := range []string{name("a"), name("A"), n, name("X", "a")} {
			k := talkOfXA(t, 1)
			k.hears(api.Message{Own: own, Answers: list(address(name("y", "a"), 3)), Authority: list(record(zone, 6, "soa"), serverOf(zone, name("n"))), Extra: list(address(name("n"), 9))})
			k.goesTo(9)
		}
	}
}

// The first zone that is told counts, however near another one would be.
func TestP9FirstZone(t *testing.T) {
	a, xa := name("a"), name("x", "a")
	extra := list(address(name("n"), 9), address(name("m"), 10), address(name("k"), 11))
	k := talkOfXA(t, 1)
	k.hears(api.Message{Authority: list(serverOf(name("b"), name("k")), serverOf(a, name("n")), serverOf(xa, name("m")), serverOf(name("A"), name("k"))), Extra: extra})
	k.goesTo(9, 11, 9)
	k = talkOfXA(t, 1)
	k.hears(api.Message{Authority: list(serverOf("\x00", name("k")), serverOf(xa, name("m")), serverOf(a, name("n"))), Extra: extra})
	k.goesTo(10, 10)
	// the way does not lead up again
	k.hears(api.Message{Authority: list(serverOf(a, name("n")), serverOf(xa, name("n")), serverOf(name("X", "A"), name("n"))), Extra: extra})
	k.goesTo(10)
}

// Addresses come in the order of the servers' names, and of each name's records.
func TestP9Servers(t *testing.T) {
	a, n, m := name("a"), name("n", "b"), name("m", "b")
	k := talkOfXA(t, 1)
	k.hears(api.Message{
		Answers:   list(address(n, 99)),
		Authority: list(address(n, 98), serverOf(a, n), serverOf(name("b"), name("k")), serverOf(name("A"), m), serverOf(a, name("N", "b")), serverOf(a, n), ofClass(3, serverOf(a, name("k")))),
		Extra: list(address(m, 20), address(name("k"), 97), address(n, 21), ofClass(3, address(n, 96)), address(name("N", "B"), 22), address(m, 23), record(n, 28, "\x00\x00\x00\x5f"),
			record(n, 1, "\x00\x00\x5e"), record(n, 1, "\x00\x00\x00\x00\x5d"), record(n, 1, ""), address(n, 21)),
	})
	k.goesTo(21, 22, 21, 20, 23, 21, 22, 21)
	k.late()
	k.answers(api.Failed)
}

func TestP9Addresses(t *testing.T) {
	for data, want := range map[string]uint32{"\x01\x02\x03\x04": 0x01020304, "\x00\x00\x00\x00": 0, "\xff\xff\xff\xff": 1<<32 - 1, "\xff\x00\x00\x00": 0xff000000, "\x00\x80\x00\x80": 0x00800080} {
		k := talkOfXA(t, 1)
		k.refers(name("a"), []string{name("n")}, record(name("n"), 1, data))
		k.goesTo(want)
	}
}

// A server whose name lies outside of the zone that tells it has no address by that.
func TestP9OutsideTheZone(t *testing.T) {
	xa, outside := name("x", "a"), []string{name("n", "b"), name("n"), "\x00", name("n", "xa"), name("n", "a", "b"), name("n\x01a")}
	for _, o := range outside {
		k := inA(t, 1)
		k.refers(xa, []string{o, name("n", "x", "a")}, address(o, 30), address(name("n", "x", "a"), 31))
		k.goesTo(31, 31)
	}
	for _, inside := range []string{name("n", "a"), name("a"), name("n", "A"), name("n", "b", "a"), xa} {
		k := inA(t, 1)
		k.refers(xa, []string{inside}, address(inside, 30))
		k.goesTo(30)
	}
}

// What a zone's servers say of other names is not heard: neither records nor zones.
func TestP9LeftOut(t *testing.T) {
	xa := name("x", "a")
	for _, m := range []api.Message{
		{Authority: list(serverOf(name("b"), name("n", "a"))), Extra: list(address(name("n", "a"), 30))},
		{Authority: list(serverOf("\x00", name("n", "a"))), Extra: list(address(name("n", "a"), 30))},
		{Authority: list(serverOf(name("a"), name("n", "a")), serverOf(name("A"), name("n", "a"))), Extra: list(address(name("n", "a"), 30))},
		{Answers: list(address(name("b"), 1), standing(name("b"), xa))},
	} {
		k := inA(t, 1)
		k.hears(m)
		k.goesTo(18)
		m.Own = true
		k.hears(m)
		k.answers(0)
	}
	k := inA(t, 1)
	k.own(address(name("b"), 1), address(name("X", "A"), 2))
	k.answers(0, address(name("X", "A"), 2))
}

// A name in which only bytes, and not labels, stand ahead of the zone's name does not lie in it.
func TestP9LabelsNotBytes(t *testing.T) {
	odd := name("b\x01a")
	k := talkOf(t, odd, nil)
	k.goesTo(7)
	k.refers(name("a"), []string{name("n")}, address(name("n"), 30))
	k.goesTo(7)
	k.refers(odd, []string{name("n")}, address(name("n"), 31))
	k.goesTo(31)
	k = inA(t, 1)
	k.refers(name("x", "a"), []string{odd, name("n", "a")}, address(odd, 30), address(name("n", "a"), 31))
	k.goesTo(31)
}

// The root itself can be asked for: every zone is below it, and leads away.
func TestP9Root(t *testing.T) {
	k := talkOf(t, "\x00", nil)
	k.goesTo(7)
	k.refers(name("a"), []string{name("n")}, address(name("n"), 30))
	k.goesTo(7)
	k.refers("\x00", []string{name("n")}, address(name("n"), 30))
	k.goesTo(7)
	k.own(address("\x00", 1))
	k.answers(0, address("\x00", 1))
}

// A name of many labels, zone by zone.
func TestP9EveryZone(t *testing.T) {
	long := strings.Repeat("\x01a", 40) + "\x00"
	k := talkOf(t, long, nil)
	k.goesTo(7)
	for count := 1; count <= 40; count++ {
		zone := long[len(long)-1-2*count:]
		k.refers(zone, []string{zone}, address(zone, byte(10+count)))
		k.goesTo(uint32(10 + count))
	}
	k.own(address(long, 1))
	k.answers(0, address(long, 1))
}
