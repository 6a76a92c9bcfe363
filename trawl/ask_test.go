package trawl_test

import (
	"reflect"
	"strings"
	"testing"

	"trawl/api"
	"trawl/trawl"
)

func mustAsk(t *testing.T, r *trawl.Resolver, b []byte) api.Step {
	t.Helper()
	s, e := r.Ask(b)
	if e != api.OK {
		t.Fatalf("Ask(%.80x): error %d", b, e)
	}
	return s
}

// atOnce looks whether a question is answered at once, by those bytes, and no question is being answered then.
func atOnce(t *testing.T, what string, r *trawl.Resolver, asked, want string) {
	t.Helper()
	s := mustAsk(t, r, []byte(asked))
	if s.Kind != api.Answer || s.To != 0 || string(s.Bytes) != want {
		t.Errorf("%s: Ask(%.80x) gave %+v, want the answer %x", what, asked, s, want)
	}
	idle(t, r)
}

// isFirst looks whether a step sends the first question of a resolver: the ID is 1.
func isFirst(t *testing.T, what string, s api.Step, to uint32, name string, kind uint16) {
	t.Helper()
	want := "\x00\x01\x00\x00\x00\x01\x00\x00\x00\x00\x00\x00" + name + string([]byte{byte(kind >> 8), byte(kind)}) + "\x00\x01"
	if s.Kind != api.Send || s.To != to || string(s.Bytes) != want {
		t.Errorf("%s: got %+v, want to be sent to %d: %x", what, s, to, want)
	}
}

func TestP6FewBytes(t *testing.T) {
	r := mustNew(t, middling())
	for size := range 12 {
		atOnce(t, "few bytes", r, everythingBytes[:size], "")
		atOnce(t, "few bytes", r, strings.Repeat("\x00", size), "")
	}
	atOnce(t, "no bytes", r, "", "")
}

const (
	badForm = "\x80\x01\x00\x00\x00\x00\x00\x00\x00\x00" // behind the ID
	notDone = "\x80\x04\x00\x00\x00\x00\x00\x00\x00\x00"
	notThis = "\x80\x04\x00\x01\x00\x00\x00\x00\x00\x00" // behind it the question
	wanting = "\x12\x34\x01\x00\x00\x01\x00\x00\x00\x00\x00\x00"
)

func TestP6NoMessage(t *testing.T) {
	r := mustNew(t, middling())
	for what, b := range map[string]string{
		"a question that is missing":    wanting,
		"a question that is cut off":    wanting + name("a") + tail[:3],
		"a byte behind the question":    wanting + name("a") + tail + "\x00",
		"a name that is none":           wanting + label(64) + "\x00" + tail,
		"a pointer to itself":           wanting + "\xc0\x0c" + tail,
		"all bits set":                  "\x12\x34" + strings.Repeat("\xff", 10),
		"513 bytes":                     wanting + strings.Repeat("\x00", 501),
		"many bytes":                    wanting + strings.Repeat(name("a"), 1<<16),
		"a CNAME record without a name": "\x12\x34\x01\x00\x00\x01\x00\x01\x00\x00\x00\x00" + name("a") + tail + name("a") + "\x00\x05\x00\x01\x00\x00\x00\x00\x00\x00",
	} {
		atOnce(t, what, r, b, "\x12\x34"+badForm)
	}
	isFirst(t, "after all that", mustAsk(t, r, []byte(wanting+name("a")+tail)), 7, name("a"), 1)
}

// longQuestion asks for the address of the root, and has a record with that much data behind it: 28 bytes of 512 are taken by all else.
func longQuestion(size int) string {
	return "\x12\x34\x01\x00\x00\x01\x00\x00\x00\x00\x00\x01\x00" + tail + "\x00\x00\x10\x00\x01\x00\x00\x00\x00" + string([]byte{byte(size >> 8), byte(size)}) + strings.Repeat("x", size)
}

func TestP6MostBytes(t *testing.T) {
	b := []byte(longQuestion(484))
	if len(b) != 512 {
		t.Fatalf("%d bytes", len(b))
	}
	isFirst(t, "512 bytes", mustAsk(t, mustNew(t, middling()), b), 7, "\x00", 1)
	atOnce(t, "513 bytes", mustNew(t, middling()), longQuestion(485), "\x12\x34"+badForm)
}

func TestP6Response(t *testing.T) {
	r := mustNew(t, middling())
	good := wanting + name("a") + tail
	for what, b := range map[string]string{
		"a response":                       good[:2] + "\x81" + good[3:],
		"a response with all flags":        good[:2] + "\x87\xf0" + good[4:],
		"a response with an Op":            good[:2] + "\x90" + good[3:],
		"a response without a question":    "\x12\x34\x80\x00" + strings.Repeat("\x00", 8),
		"a response with two questions":    "\x12\x34\x80\x00\x00\x02" + good[6:] + name("a") + tail,
		"a response of another class":      good[:2] + "\x80" + good[3:len(good)-1] + "\x03",
		"a response with everything in it": "\x12\x34" + everythingBytes[2:],
	} {
		atOnce(t, what, r, b, "\x12\x34"+badForm)
	}
	isFirst(t, "after all that", mustAsk(t, r, []byte(good)), 7, name("a"), 1)
}

func TestP6NotDone(t *testing.T) {
	r := mustNew(t, middling())
	q := name("Ab", "c") + "\x00\x1c\x00"
	good := wanting + q + "\x01"
	for op := 1; op <= 15; op++ {
		b := []byte(good)
		b[2] |= byte(op << 3)
		atOnce(t, "an Op", r, string(b), "\x12\x34"+notThis+q+"\x01")
	}
	for class := range 1 << 16 {
		if class != 1 {
			other := string([]byte{byte(class >> 8), byte(class)})
			checkAtOnce(t, r, wanting+q[:len(q)-1]+other, "\x12\x34"+notThis+q[:len(q)-1]+other)
		}
	}
	atOnce(t, "an Op and a class", r, "\x12\x34\x7f\xff"+good[4:len(good)-1]+"\x02", "\x12\x34"+notThis+q+"\x02")
	atOnce(t, "no question", r, "\x12\x34\x01\x00"+strings.Repeat("\x00", 8), "\x12\x34"+notDone)
	atOnce(t, "no question, a record", r, "\x12\x34\x00\x00\x00\x00\x00\x01\x00\x00\x00\x00"+name("a")+tail+"\x00\x00\x00\x00\x00\x00", "\x12\x34"+notDone)
	atOnce(t, "an Op and no question", r, "\x12\x34\x08\x00"+strings.Repeat("\x00", 8), "\x12\x34"+notDone)
	two := "\x12\x34\x01\x00\x00\x02" + good[6:]
	atOnce(t, "two questions", r, two+q+"\x01", "\x12\x34"+notDone)
	atOnce(t, "two questions, one of another class", r, two+q+"\x03", "\x12\x34"+notDone)
	atOnce(t, "100 questions", r, "\x12\x34\x01\x00\x00\x64"+strings.Repeat("\x00", 6)+strings.Repeat("\x00"+tail, 100), "\x12\x34"+notDone)
	atOnce(t, "the longest name", r, wanting+nameOf255()+"\x00\x01\x00\x02", "\x12\x34"+notThis+nameOf255()+"\x00\x01\x00\x02")
	atOnce(t, "a name that is a pointer", r, wanting+"\xc0\x04\x00\x01\x00\x02", "\x12\x34"+notThis+"\x00\x00\x01\x00\x02")
	isFirst(t, "after all that", mustAsk(t, r, []byte(good)), 7, name("Ab", "c"), 28)
}

// checkAtOnce is atOnce, for very many.
func checkAtOnce(t *testing.T, r *trawl.Resolver, asked, want string) {
	t.Helper()
	s, e := r.Ask([]byte(asked))
	if e != api.OK || s.Kind != api.Answer || s.To != 0 || string(s.Bytes) != want {
		t.Fatalf("Ask(%x) gave %+v, error %d, want the answer %x", asked, s, e, want)
	}
}

// Any ID is given back, by every kind of refusal.
func TestP6IDs(t *testing.T) {
	r := mustNew(t, middling())
	for _, id := range []string{"\x00\x00", "\x00\x01", "\x01\x00", "\x00\xff", "\xff\x00", "\xff\xff"} {
		atOnce(t, "no message", r, id+wanting[2:], id+badForm)
		atOnce(t, "a response", r, id+"\x80\x00"+strings.Repeat("\x00", 8), id+badForm)
		atOnce(t, "no question", r, id+"\x00\x00"+strings.Repeat("\x00", 8), id+notDone)
		atOnce(t, "another class", r, id+wanting[2:]+name("a")+"\x00\x01\x00\x02", id+notThis+name("a")+"\x00\x01\x00\x02")
	}
}

func TestP6Begins(t *testing.T) {
	for _, n := range []string{name("a"), "\x00", name("wWw", "A", "zZ"), name("\x00\xff"), label(63) + "\x00", nameOf255()} {
		for _, kind := range []uint16{0, 1, 2, 5, 28, 255, 256, 65535} {
			m := api.Message{ID: 99, Questions: []api.Question{{Name: n, Type: kind, Class: api.ClassIN}}}
			isFirst(t, "a question", mustAsk(t, mustNew(t, middling()), mustPack(t, m)), 7, n, kind)
		}
	}
}

// What else a message has does not matter: the question alone is sent.
func TestP6BeginsWhateverElseThereIs(t *testing.T) {
	r := []api.Record{{Name: name("a"), Type: api.TypeA, Class: 3, TTL: 5, Data: "1234"}}
	q := asked(name("a")).Questions
	for _, m := range []api.Message{
		{Questions: q}, {ID: 65535, Questions: q}, {Own: true, Questions: q}, {Cut: true, Questions: q}, {Wanted: true, Questions: q}, {Able: true, Questions: q},
		{Code: 1, Questions: q}, {Code: 15, Questions: q}, {Questions: q, Answers: r}, {Questions: q, Authority: r}, {Questions: q, Extra: r},
		{ID: 7, Own: true, Cut: true, Wanted: true, Able: true, Code: 3, Questions: q, Answers: r, Authority: r, Extra: append(r, r...)},
	} {
		isFirst(t, "a question", mustAsk(t, mustNew(t, middling()), mustPack(t, m)), 7, name("a"), 1)
	}
	idleBits := wanting[:3] + "\x70" + wanting[4:]
	isFirst(t, "bits that do not matter", mustAsk(t, mustNew(t, middling()), []byte(idleBits+name("a")+tail)), 7, name("a"), 1)
	isFirst(t, "a name that is a pointer", mustAsk(t, mustNew(t, middling()), []byte("\x01x\x00"+wanting[3:]+"\xc0\x00"+tail)), 7, name("x"), 1)
}

func TestP6Busy(t *testing.T) {
	r := mustNew(t, middling())
	good := wanting + name("a") + tail
	mustAsk(t, r, []byte(good))
	for _, b := range []string{good, wanting + name("b") + tail, "", "x", wanting, "\x12\x34\x80\x00" + strings.Repeat("\x00", 8), strings.Repeat("\x00", 513)} {
		s, e := r.Ask([]byte(b))
		busy(t, "Ask", s, e)
	}
}

// While a question is answered there is something to wait for.
func TestP7NotBusy(t *testing.T) {
	r := mustNew(t, middling())
	mustAsk(t, r, []byte(wanting+name("a")+tail))
	for _, b := range []string{"", "x", everythingBytes} {
		if s, e := r.Heard(7, []byte(b)); e != api.OK || !reflect.DeepEqual(s, api.Step{}) {
			t.Errorf("Heard(%x) gave %+v, error %d, instead of Nothing", b, s, e)
		}
	}
	if _, e := r.Late(); e != api.OK {
		t.Errorf("Late gave error %d", e)
	}
}

// The example of the document.
func TestP7FirstQuestion(t *testing.T) {
	c := middling()
	c.Roots = []uint32{7}
	s := mustAsk(t, mustNew(t, c), mustPack(t, asked(name("a"))))
	want := "\x00\x01\x00\x00\x00\x01\x00\x00\x00\x00\x00\x00\x01\x61\x00\x00\x01\x00\x01"
	if !reflect.DeepEqual(s, api.Step{Kind: api.Send, To: 7, Bytes: []byte(want)}) {
		t.Errorf("got %+v", s)
	}
}

// The first question goes to the first root, however small the configuration is.
func TestP8FirstServer(t *testing.T) {
	for _, roots := range [][]uint32{{7}, {0}, {1<<32 - 1}, {9, 8, 7}, {3, 3}, {5, 0, 0, 0, 0, 0, 0, 1}} {
		for _, c := range []api.Config{{Budget: 1, Tries: 1, Roots: roots}, {Budget: 200, Depth: 6, Chain: 10, Tries: 8, Roots: roots}} {
			isFirst(t, "the first server", mustAsk(t, mustNew(t, c), mustPack(t, asked(name("a")))), roots[0], name("a"), 1)
		}
	}
}
