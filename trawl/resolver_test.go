package trawl_test

import (
	"bytes"
	"math"
	"math/rand"
	"reflect"
	"slices"
	"sync"
	"testing"

	"trawl/api"
	"trawl/trawl"
)

// checkAsk is P1 and P2 for Ask, at a resolver that is asked nothing: an answer of 12 bytes and more, or of none; or a question.
func checkAsk(t *testing.T, b []byte) {
	t.Helper()
	r := mustNew(t, middling())
	s := mustAsk(t, r, b)
	switch {
	case s.Kind == api.Send && s.To == 7:
		q := mustUnpack(t, b).Questions
		if got, want := mustUnpack(t, s.Bytes), (api.Message{ID: 1, Questions: q}); !reflect.DeepEqual(got, want) {
			t.Fatalf("Ask(%x): sent is %+v, want %+v", b, got, want)
		}
		s, e := r.Ask(b)
		busy(t, "Ask", s, e)
	case s.Kind != api.Answer || s.To != 0:
		t.Fatalf("Ask(%x) gave %+v", b, s)
	case len(b) < 12:
		if len(s.Bytes) != 0 {
			t.Fatalf("Ask(%x) gave %+v", b, s)
		}
	default:
		if m := mustUnpack(t, s.Bytes); !m.Response || !bytes.Equal(s.Bytes[:2], b[:2]) || m.Code != api.BadForm && m.Code != api.NotDone {
			t.Fatalf("Ask(%x) gave %+v", b, m)
		}
	}
}

func TestP1AskAnyByte(t *testing.T) {
	for _, s := range []string{wanting + name("a", "b") + tail, everythingBytes} {
		eachByteChanged(s, func(b []byte) { checkAsk(t, b) })
		for size := range len(s) {
			checkAsk(t, []byte(s[:size]))
		}
	}
}

func TestP1AskAnyBytes(t *testing.T) {
	random := rand.New(rand.NewSource(3))
	for range 50000 {
		b := make([]byte, random.Intn(40))
		for i := range b {
			b[i] = byte(random.Intn(3))
		}
		checkAsk(t, b)
	}
}

func TestP1HeardAnyBytes(t *testing.T) {
	random := rand.New(rand.NewSource(4))
	r := mustNew(t, middling())
	for _, asked := range []bool{false, true} {
		want := api.ErrBusy
		if asked {
			mustAsk(t, r, []byte(wanting+name("a")+tail))
			want = api.OK
		}
		for range 20000 {
			b := make([]byte, random.Intn(600))
			random.Read(b)
			if s, e := r.Heard(random.Uint32(), b); e != want || !reflect.DeepEqual(s, api.Step{}) {
				t.Fatalf("asked %t: Heard(%x) gave %+v, error %d", asked, b, s, e)
			}
		}
	}
}

func TestP1NewAnything(t *testing.T) {
	random := rand.New(rand.NewSource(5))
	some := []int{math.MinInt, -1, 0, 1, 6, 7, 8, 9, 10, 11, 200, 201, math.MaxInt}
	number := func() int { return some[random.Intn(len(some))] }
	made := 0
	for range 100000 {
		c := api.Config{Budget: number(), Depth: number(), Chain: number(), Tries: number(), Roots: make([]uint32, random.Intn(11))}
		good := c.Budget >= 1 && c.Budget <= 200 && c.Depth >= 0 && c.Depth <= 6 && c.Chain >= 0 && c.Chain <= 10 && c.Tries >= 1 && c.Tries <= 8 && len(c.Roots) >= 1 && len(c.Roots) <= 8
		r, e := trawl.New(c)
		if good && (r == nil || e != api.OK) || !good && (r != nil || e != api.ErrConfig) {
			t.Fatalf("New(%+v): a resolver: %t, error %d", c, r != nil, e)
		}
		if good {
			made++
		}
	}
	if made == 0 {
		t.Error("no configuration was a good one")
	}
}

// A refusal changes nothing: the questions that are answered at once, and those that come while another one is answered, take no ID.
func TestP1RefusalsChangeNothing(t *testing.T) {
	r := mustNew(t, middling())
	idle(t, r)
	for range 70000 {
		mustAsk(t, r, []byte("\x12\x34\x00\x00\x00\x00\x00\x00\x00\x00\x00\x00"))
	}
	idle(t, r)
	isFirst(t, "after all that", mustAsk(t, r, []byte(wanting+name("a")+tail)), 7, name("a"), 1)
}

func TestP2NewKeepsNothing(t *testing.T) {
	for _, count := range []int{3, 9} {
		c := middling()
		c.Roots = spare([]uint32{7, 8, 9, 10, 11, 12, 13, 14, 15}[:count], 99)
		before := slices.Clone(c.Roots[:cap(c.Roots)])
		r, e := trawl.New(c)
		if !slices.Equal(c.Roots[:cap(c.Roots)], before) {
			t.Errorf("New has changed its argument: %d", c.Roots[:cap(c.Roots)])
		}
		if e != api.OK {
			continue
		}
		scribble(c.Roots, 1000)
		isFirst(t, "after the roots are overwritten", mustAsk(t, r, []byte(wanting+name("a")+tail)), 7, name("a"), 1)
	}
}

// Each call gets the same bytes twice: once when nothing is asked, and once, if they are a question, while it is answered.
func TestP2CallsLeaveTheirArguments(t *testing.T) {
	good := wanting + name("a") + tail
	for _, s := range []string{good, good[:5], good[:18], good + "x", wanting + name("a") + "\x00\x01\x00\x02", everythingBytes} {
		r := mustNew(t, middling())
		b := spare([]byte(s), '!')
		before := slices.Clone(b[:cap(b)])
		r.Heard(7, b)
		r.Ask(b)
		r.Ask(b)
		r.Heard(7, b)
		if !bytes.Equal(b[:cap(b)], before) {
			t.Errorf("the argument is changed: %x", b[:cap(b)])
		}
	}
}

func TestP2StepsAreNewMemory(t *testing.T) {
	for _, s := range []string{"x", wanting, wanting + name("a") + tail, wanting + name("a") + "\x00\x01\x00\x02"} {
		b := []byte(s)
		first, second := mustAsk(t, mustNew(t, middling()), b), mustAsk(t, mustNew(t, middling()), b)
		kept := string(second.Bytes)
		scribble(first.Bytes, '!')
		if string(b) != s {
			t.Errorf("what came out shares memory with the argument: %x", b)
		}
		scribble(b, '!')
		if string(second.Bytes) != kept {
			t.Errorf("what came out is changed: %x, was %x", second.Bytes, kept)
		}
		if third := mustAsk(t, mustNew(t, middling()), []byte(s)); string(third.Bytes) != kept {
			t.Errorf("what comes out later is changed: %x, was %x", third.Bytes, kept)
		}
	}
}

// The answers of one resolver share nothing either.
func TestP2AnswersApart(t *testing.T) {
	r := mustNew(t, middling())
	b := []byte(wanting + name("a") + "\x00\x01\x00\x02")
	first, second := mustAsk(t, r, b), mustAsk(t, r, b)
	kept := string(second.Bytes)
	scribble(first.Bytes, '!')
	if third := mustAsk(t, r, b); string(second.Bytes) != kept || string(third.Bytes) != kept {
		t.Errorf("got %x and %x, want %x", second.Bytes, third.Bytes, kept)
	}
}

// Each resolver counts for itself.
func TestP2ResolversApart(t *testing.T) {
	one, other := mustNew(t, middling()), mustNew(t, middling())
	good := []byte(wanting + name("a") + tail)
	isFirst(t, "one resolver", mustAsk(t, one, good), 7, name("a"), 1)
	idle(t, other)
	isFirst(t, "the other resolver", mustAsk(t, other, good), 7, name("a"), 1)
}

// Of several that ask at a time one is the first, and the others come while its question is answered.
func TestP2AskedBySeveralGoroutines(t *testing.T) {
	c := middling()
	c.Tries = 8 // so many that whoever is late meanwhile does not end the search
	// it takes long to read, so that those who ask meet there
	many := asked(name("a"))
	many.Extra = slices.Repeat([]api.Record{{Name: "\x00"}}, 40)
	b := mustPack(t, many)
	for range 2000 {
		r := mustNew(t, c)
		steps := make([]api.Step, 6)
		errors := make([]api.Errno, len(steps))
		start := make(chan struct{})
		var group sync.WaitGroup
		for i := range steps {
			group.Go(func() {
				<-start
				r.Heard(7, nil)
				r.Late()
				steps[i], errors[i] = r.Ask(b)
			})
		}
		close(start)
		group.Wait()
		begun := 0
		for i, s := range steps {
			if errors[i] == api.OK {
				begun++
				isFirst(t, "the first to ask", s, 7, name("a"), 1)
				continue
			}
			busy(t, "Ask", s, errors[i])
		}
		if begun != 1 {
			t.Fatalf("%d of %d questions are answered", begun, len(steps))
		}
	}
}
