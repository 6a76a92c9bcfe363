package trawl_test

import (
	"bytes"
	"math/rand"
	"reflect"
	"slices"
	"strings"
	"sync"
	"testing"

	"trawl/api"
	"trawl/trawl"
)

// world makes up what servers say: few names, so that they meet often.
type world struct{ *rand.Rand }

func (w world) name() string {
	var labels []string
	for range w.Intn(4) {
		labels = append(labels, []string{"a", "B", "b", "A", "a", "b", "a", "b", "n\x01a"}[w.Intn(9)])
	}
	return name(labels...)
}

func (w world) record(near string) api.Record {
	n := w.name()
	if w.Intn(2) == 0 {
		n = near
	}
	r := api.Record{Name: n, Type: []uint16{1, 1, 2, 2, 5, 16}[w.Intn(6)], Class: 1, TTL: w.Uint32(), Data: w.name()}
	if r.Type == api.TypeA {
		r.Data = strings.Repeat(string([]byte{byte(w.Intn(3))}), 3+w.Intn(5)/4) + "\x01"
	}
	if w.Intn(20) == 0 {
		r.Class = uint16(w.Intn(4))
	}
	return r
}

func (w world) records(near string, most int) []api.Record {
	var l []api.Record
	for range w.Intn(most + 1) {
		r := w.record(near)
		l = append(l, r)
		if w.Intn(2) == 0 {
			near = r.Data
		}
		if r.Type != api.TypeNS && r.Type != api.TypeCNAME {
			near = w.name()
		}
	}
	return l
}

// says is what a server may say to a question: most often it fits.
func (w world) says(sent api.Step) (from uint32, b []byte) {
	m, _ := trawl.Unpack(sent.Bytes)
	n := m.Questions[0].Name
	m.Response, m.Own = true, w.Intn(4) == 0
	if w.Intn(3) == 0 {
		m.Answers = w.records(n, 2)
	}
	above := n
	if len(n) > 1 && w.Intn(2) == 0 {
		above = n[1+n[0]:]
	}
	m.Authority = w.records(above, 4)
	m.Extra = w.records(n, 4)
	for _, r := range m.Authority {
		if r.Type == api.TypeNS && w.Intn(2) == 0 {
			m.Extra = append(m.Extra, address(r.Data, byte(w.Intn(5))))
		}
	}
	if w.Intn(8) == 0 {
		m.Code = w.Intn(4)
	}
	from = sent.To
	switch w.Intn(25) {
	case 0:
		from++
	case 1:
		m.ID++
	case 2:
		m.Response = false
	case 3:
		m.Questions[0].Name = strings.ToUpper(n)
	case 4:
		m.Questions[0].Name = w.name()
	}
	b, _ = trawl.Pack(m)
	return from, b
}

func (w world) config() api.Config {
	return api.Config{Budget: 1 + w.Intn(60), Depth: w.Intn(7), Chain: w.Intn(11), Tries: 1 + w.Intn(8), Roots: []uint32{7, 8, 9, 7}[:1+w.Intn(4)]}
}

// event is one call of a walk.
type event struct {
	what string
	from uint32
	b    []byte
}

func (w world) event(last api.Step) event {
	if last.Kind != api.Send || w.Intn(100) == 0 {
		m := api.Message{ID: uint16(w.Intn(9)), Wanted: w.Intn(2) == 0, Questions: []api.Question{question(w.name(), []uint16{1, 1, 2, 5, 16}[w.Intn(5)])}}
		b, _ := trawl.Pack(m)
		return event{what: "Ask", b: b}
	}
	if w.Intn(8) == 0 {
		return event{what: "Late"}
	}
	from, b := w.says(last)
	return event{"Heard", from, b}
}

func call(r *trawl.Resolver, v event, b []byte) (api.Step, api.Errno) {
	switch v.what {
	case "Ask":
		return r.Ask(b)
	case "Late":
		return r.Late()
	}
	return r.Heard(v.from, b)
}

// walk calls two resolvers alike, the one by arguments with filled room behind them; what comes out of that one, and what was handed to it, is overwritten. look sees each call and each step of the other.
func walk(t *testing.T, w world, c api.Config, calls int, look func(v event, s api.Step, e api.Errno)) {
	t.Helper()
	plain, rough := mustNew(t, c), mustNew(t, c)
	var last api.Step
	for range calls {
		v := w.event(last)
		want, wantError := call(plain, v, slices.Clone(v.b))
		b := spare(v.b, '!')
		before := slices.Clone(b[:cap(b)])
		got, gotError := call(rough, v, b)
		if gotError != wantError || !reflect.DeepEqual(got, want) {
			t.Fatalf("%s: got %s, error %d, and %s, error %d", v.what, shown(got), gotError, shown(want), wantError)
		}
		if !bytes.Equal(b[:cap(b)], before) {
			t.Fatalf("%s has changed its argument", v.what)
		}
		scribble(b, 0xff)
		scribble(got.Bytes, 0xff)
		look(v, want, wantError)
		if want.Kind != api.Nothing {
			last = want
		}
	}
}

// P1 and P2: all that comes out hangs on what was done alone, the arguments stay, and nothing is shared.
func TestP2Walks(t *testing.T) {
	w := world{rand.New(rand.NewSource(6))}
	for range 400 {
		walk(t, w, w.config(), 300, func(event, api.Step, api.Errno) {})
	}
}

// What holds in every walk: the IDs go on, the budget is kept, and each answer belongs to what was asked and leads from one name to the next.
func TestP11Walks(t *testing.T) {
	w := world{rand.New(rand.NewSource(7))}
	seen := map[string]int{}
	for range 600 {
		c := w.config()
		var asked api.Message
		sent, all := 0, 0
		walk(t, w, c, 300, func(v event, s api.Step, e api.Errno) {
			if v.what == "Ask" && e == api.OK {
				asked, sent = mustUnpack(t, v.b), 0
			}
			switch s.Kind {
			case api.Send:
				sent, all = sent+1, all+1
				if m := mustUnpack(t, s.Bytes); m.ID != uint16(all) || sent > c.Budget {
					t.Fatalf("question %d of %d, %d since it was asked: %s", all, c.Budget, sent, shown(s))
				}
			case api.Answer:
				checkAnswer(t, c, asked, s, seen)
			}
		})
	}
	for _, what := range []string{"found", "nothing", "no name", "failed", "by another name"} {
		if seen[what] < 50 {
			t.Errorf("%s: only %d times", what, seen[what])
		}
	}
}

func checkAnswer(t *testing.T, c api.Config, asked api.Message, s api.Step, seen map[string]int) {
	t.Helper()
	m := mustUnpack(t, s.Bytes)
	want := api.Message{ID: asked.ID, Response: true, Wanted: asked.Wanted, Able: true, Code: m.Code, Questions: asked.Questions, Answers: m.Answers}
	q := asked.Questions[0]
	n, kept, found := q.Name, 0, 0
	for _, r := range m.Answers {
		isFound := r.Type == q.Type
		if r.Class != 1 || !strings.EqualFold(r.Name, n) || !isFound && (r.Type != 5 || found > 0) {
			t.Fatalf("%+v: the record %+v is not of the name %q", m, r, n)
		}
		if isFound {
			found++
		} else {
			kept, n = kept+1, r.Data
		}
	}
	if !reflect.DeepEqual(m, want) || kept > c.Chain || m.Code == api.Failed && kept+found > 0 || m.Code == api.NoName && found > 0 {
		t.Fatalf("asked was %+v, the answer is %+v", asked, m)
	}
	switch {
	case m.Code == api.Failed:
		seen["failed"]++
	case m.Code == api.NoName:
		seen["no name"]++
	case m.Code != api.NoError:
		t.Fatalf("the answer is %+v", m)
	case found > 0:
		seen["found"]++
	default:
		seen["nothing"]++
	}
	if kept > 0 {
		seen["by another name"]++
	}
}

// Whatever is heard, so many late ones as the budget has questions, and one, are the end.
func TestP1Ends(t *testing.T) {
	w := world{rand.New(rand.NewSource(8))}
	for range 2000 {
		c := w.config()
		r := mustNew(t, c)
		s := mustAsk(t, r, mustPack(t, asked(w.name())))
		for range w.Intn(20) {
			if s.Kind != api.Send {
				break
			}
			from, b := w.says(s)
			if next, _ := r.Heard(from, b); next.Kind != api.Nothing {
				s = next
			}
		}
		for range c.Budget {
			if s.Kind == api.Send {
				s, _ = r.Late()
			}
		}
		if s.Kind != api.Answer {
			t.Fatalf("budget %d: at last: %s", c.Budget, shown(s))
		}
		idle(t, r)
	}
}

// Any byte of what fits is changed, in each list of records: none of the calls that follow panics.
func TestP1HeardAnyByte(t *testing.T) {
	n := name("x", "a")
	m := fitting(n)
	m.Answers = list(record(n, 16, "t"))
	m.Authority = list(serverOf(name("a"), name("n", "a")), serverOf(name("a"), name("m", "b")))
	m.Extra = list(address(name("n", "a"), 1), address(name("m", "b"), 2))
	eachByteChanged(string(mustPack(t, m)), func(b []byte) {
		k := talkOf(t, n, nil)
		s, e := k.r.Heard(7, b)
		if e != api.OK || s.Kind == api.Send && s.To == 0 && len(s.Bytes) == 0 {
			t.Fatalf("%x: got %s, error %d", b, shown(s), e)
		}
		if s.Kind != api.Answer {
			k.late()
		}
	})
}

// Refusals change nothing, in the midst of a search either.
func TestP1AskInTheMidst(t *testing.T) {
	k := talkOf(t, name("x", "a"), nil)
	k.goesTo(7)
	refuse := func() {
		for _, b := range [][]byte{nil, mustPack(t, asked(name("b"))), make([]byte, 600)} {
			s, e := k.r.Ask(b)
			busy(t, "Ask", s, e)
		}
	}
	refuse()
	k.refers(name("a"), []string{name("n", "b")})
	refuse()
	k.sends(7, name("n", "b"), 1)
	k.own(address(name("n", "b"), 5))
	refuse()
	k.goesTo(5)
	k.own(standing(name("x", "a"), name("c")))
	refuse()
	k.sends(7, name("c"), 1)
	k.own()
	k.answers(0, standing(name("x", "a"), name("c")))
}

// Of many that are late at a time each one gets a question of its own, until there is an end.
func TestP2LateBySeveralGoroutines(t *testing.T) {
	for range 500 {
		k := talkOf(t, name("a"), func(c *api.Config) { c.Roots = []uint32{7, 8} })
		k.goesTo(7)
		var steps [12]api.Step
		var errors [12]api.Errno
		start := make(chan struct{})
		var group sync.WaitGroup
		for i := range steps {
			group.Go(func() {
				<-start
				steps[i], errors[i] = k.r.Late()
			})
		}
		close(start)
		group.Wait()
		slices.SortFunc(steps[:], func(a, b api.Step) int { return bytes.Compare(a.Bytes, b.Bytes) })
		slices.Sort(errors[:])
		// no bytes: those that came behind the end; then the IDs 2 to 8; then the answer
		for i, s := range steps {
			switch {
			case i < 4:
				busy(t, "Late", s, errors[len(errors)-1-i])
			case i < 11:
				k.step = s
				k.sends([]uint32{7, 8}[(i-3)%2], name("a"), 1)
			default:
				k.step = s
				k.answers(api.Failed)
			}
		}
	}
}
