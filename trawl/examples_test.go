package trawl_test

import (
	"reflect"
	"testing"

	"trawl/api"
)

// The examples of the document, byte by byte. (Those of single messages are held by the tests of P3 and P7.)
func TestExamples(t *testing.T) {
	r := mustNew(t, api.Config{Budget: 1, Tries: 1, Roots: []uint32{7}})
	question := "\x01\x61\x00\x00\x01\x00\x01"
	found := "\x01\x61\x00\x00\x01\x00\x01\x00\x00\x00\x00\x00\x04\x01\x02\x03\x04"
	heard := "\x00\x01\x84\x00\x00\x01\x00\x01\x00\x00\x00\x00" + question + found
	for _, x := range []struct {
		what string
		call func() (api.Step, api.Errno)
		want api.Step
	}{
		{"asked", func() (api.Step, api.Errno) {
			return r.Ask([]byte("\x00\x63\x00\x00\x00\x01\x00\x00\x00\x00\x00\x00" + question))
		}, api.Step{Kind: api.Send, To: 7, Bytes: []byte("\x00\x01\x00\x00\x00\x01\x00\x00\x00\x00\x00\x00" + question)}},
		{"heard from 8", func() (api.Step, api.Errno) { return r.Heard(8, []byte(heard)) }, api.Step{}},
		{"heard from 7", func() (api.Step, api.Errno) { return r.Heard(7, []byte(heard)) },
			api.Step{Kind: api.Answer, Bytes: []byte("\x00\x63\x80\x80\x00\x01\x00\x01\x00\x00\x00\x00" + question + found)}},
	} {
		if s, e := x.call(); e != api.OK || !reflect.DeepEqual(s, x.want) {
			t.Errorf("%s: got %+v, error %d, want %+v", x.what, s, e, x.want)
		}
	}
}
