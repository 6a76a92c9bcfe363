package trawl_test

import (
	"fmt"
	"reflect"
	"testing"

	"trawl/api"
	"trawl/trawl"
)

// talk is a talk with a resolver. It counts the questions that are sent, so that each one's ID is looked at.
type talk struct {
	t     *testing.T
	r     *trawl.Resolver
	asked api.Message
	sent  int
	step  api.Step // what was to be done at last
}

// config has room for all, but for what a test sets.
func config(set func(c *api.Config)) api.Config {
	c := api.Config{Budget: 200, Depth: 6, Chain: 10, Tries: 8, Roots: []uint32{7}}
	if set != nil {
		set(&c)
	}
	return c
}

func talkWith(t *testing.T, c api.Config) *talk {
	t.Helper()
	return &talk{t: t, r: mustNew(t, c)}
}

// talkOf begins a talk by asking for a name's address.
func talkOf(t *testing.T, name string, set func(c *api.Config)) *talk {
	t.Helper()
	k := talkWith(t, config(set))
	k.ask(name, api.TypeA)
	return k
}

func question(name string, kind uint16) api.Question {
	return api.Question{Name: name, Type: kind, Class: api.ClassIN}
}

func record(name string, kind uint16, data string) api.Record {
	return api.Record{Name: name, Type: kind, Class: api.ClassIN, TTL: 300, Data: data}
}

// address is an A record, of the server with that small number.
func address(name string, server byte) api.Record {
	return record(name, api.TypeA, string([]byte{0, 0, 0, server}))
}

func serverOf(zone, server string) api.Record { return record(zone, api.TypeNS, server) }

func standing(name, other string) api.Record { return record(name, api.TypeCNAME, other) }

// ofClass is the record, of another class.
func ofClass(class uint16, r api.Record) api.Record {
	r.Class = class
	return r
}

func list(l ...api.Record) []api.Record { return l }

func (k *talk) ask(name string, kind uint16) {
	k.t.Helper()
	k.askAll(api.Message{ID: 0x4321, Wanted: true, Questions: []api.Question{question(name, kind)}})
}

func (k *talk) askAll(m api.Message) {
	k.t.Helper()
	k.asked, k.step = m, mustAsk(k.t, k.r, mustPack(k.t, m))
}

// sends looks whether the next question is to be sent, to that server.
func (k *talk) sends(to uint32, name string, kind uint16) {
	k.t.Helper()
	k.sent++
	want := mustPack(k.t, api.Message{ID: uint16(k.sent), Questions: []api.Question{question(name, kind)}})
	if k.step.Kind != api.Send || k.step.To != to || string(k.step.Bytes) != string(want) {
		k.t.Fatalf("question %d: got %s, want to be sent to %d: %q, type %d", k.sent, shown(k.step), to, name, kind)
	}
}

// goesTo looks whether the next question is to be sent to that server, for the address that was asked for.
func (k *talk) goesTo(servers ...uint32) {
	k.t.Helper()
	for i, to := range servers {
		if i > 0 {
			k.late()
		}
		k.sends(to, k.asked.Questions[0].Name, k.asked.Questions[0].Type)
	}
}

// shown shows a step, in words.
func shown(s api.Step) string {
	m, _ := trawl.Unpack(s.Bytes)
	return fmt.Sprintf("kind %d, to %d: %+v", s.Kind, s.To, m)
}

func (k *talk) late() {
	k.t.Helper()
	s, e := k.r.Late()
	if e != api.OK {
		k.t.Fatalf("Late: error %d", e)
	}
	k.step = s
}

// hears lets the server to which the last question was sent say something: m, with what makes it fit.
func (k *talk) hears(m api.Message) {
	k.t.Helper()
	if k.step.Kind != api.Send {
		k.t.Fatalf("got %s, want a question", shown(k.step))
	}
	last := mustUnpack(k.t, k.step.Bytes)
	m.ID, m.Response, m.Questions = last.ID, true, last.Questions
	s, e := k.r.Heard(k.step.To, mustPack(k.t, m))
	if e != api.OK {
		k.t.Fatalf("Heard: error %d", e)
	}
	k.step = s
}

// own lets the server say that these are its own records.
func (k *talk) own(l ...api.Record) {
	k.t.Helper()
	k.hears(api.Message{Own: true, Answers: l})
}

// lame lets the server say nothing of use.
func (k *talk) lame() {
	k.t.Helper()
	k.hears(api.Message{Code: api.Failed})
}

// refers lets the server send on to a zone: its servers' names, and what else is told.
func (k *talk) refers(zone string, servers []string, extra ...api.Record) {
	k.t.Helper()
	m := api.Message{Extra: extra}
	for _, s := range servers {
		m.Authority = append(m.Authority, serverOf(zone, s))
	}
	k.hears(m)
}

// answers looks whether what was asked is answered, by these records; then there is nothing to wait for.
func (k *talk) answers(code int, l ...api.Record) {
	k.t.Helper()
	k.answersBy(api.Message{Code: code, Answers: l})
}

func (k *talk) answersBy(want api.Message) {
	k.t.Helper()
	want.ID, want.Wanted, want.Questions = k.asked.ID, k.asked.Wanted, k.asked.Questions
	want.Response, want.Able = true, true
	if len(want.Answers) == 0 {
		want.Answers = nil
	}
	if k.step.Kind != api.Answer || k.step.To != 0 || !reflect.DeepEqual(mustUnpack(k.t, k.step.Bytes), want) {
		k.t.Fatalf("got %s, want the answer: %+v", shown(k.step), want)
	}
	idle(k.t, k.r)
}
