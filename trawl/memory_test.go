package trawl_test

import (
	"bytes"
	"reflect"
	"slices"
	"sync"
	"testing"

	"trawl/api"
	"trawl/trawl"
)

// spare gives the list with room behind it, that is filled, too.
func spare[T any](list []T, fill T) []T {
	whole := slices.Clone(list)
	for range 40 {
		whole = append(whole, fill)
	}
	return whole[:len(list)]
}

func withSpareRoom(m api.Message) api.Message {
	fill := api.Record{Name: "fill", Type: 9, Data: "fill"}
	m.Questions = spare(m.Questions, api.Question{Name: "fill"})
	m.Answers = spare(m.Answers, fill)
	m.Authority = spare(m.Authority, fill)
	m.Extra = spare(m.Extra, fill)
	return m
}

// whole shows a message with the spare room of its lists.
func whole(m api.Message) api.Message {
	m.Questions = m.Questions[:cap(m.Questions)]
	m.Answers = m.Answers[:cap(m.Answers)]
	m.Authority = m.Authority[:cap(m.Authority)]
	m.Extra = m.Extra[:cap(m.Extra)]
	return m
}

// deepCopy is a copy that shares nothing with its original.
func deepCopy(m api.Message) api.Message {
	m.Questions = slices.Clone(m.Questions)
	m.Answers = slices.Clone(m.Answers)
	m.Authority = slices.Clone(m.Authority)
	m.Extra = slices.Clone(m.Extra)
	return m
}

func TestP2PackLeavesItsArgument(t *testing.T) {
	bad := everything()
	bad.Extra = append(bad.Extra, api.Record{})
	for _, m := range []api.Message{everything(), bad} {
		m = withSpareRoom(m)
		before := deepCopy(whole(m))
		trawl.Pack(m)
		if !reflect.DeepEqual(whole(m), before) {
			t.Errorf("Pack has changed its argument: %+v", whole(m))
		}
	}
}

func TestP2UnpackLeavesItsArgument(t *testing.T) {
	for _, s := range []string{everythingBytes, everythingBytes[:40], answer(5, 4, "\x01c\xc0\x0e")} {
		b := spare([]byte(s), '!')
		before := slices.Clone(b[:cap(b)])
		trawl.Unpack(b)
		if !bytes.Equal(b[:cap(b)], before) {
			t.Errorf("Unpack has changed its argument: %x", b[:cap(b)])
		}
	}
}

// scribble writes into all of a list, its spare room too.
func scribble[T any](list []T, x T) {
	list = list[:cap(list)]
	for i := range list {
		list[i] = x
	}
}

func TestP2PackGivesNewMemory(t *testing.T) {
	m := everything()
	first, second := mustPack(t, m), mustPack(t, m)
	scribble(first, '!')
	if string(second) != everythingBytes {
		t.Errorf("what came out before is changed: %x", second)
	}
	if third := mustPack(t, m); string(third) != everythingBytes {
		t.Errorf("what comes out later is changed: %x", third)
	}
	if !reflect.DeepEqual(m, everything()) {
		t.Errorf("the argument is changed: %+v", m)
	}
	kept := mustPack(t, m)
	scribble(m.Questions, api.Question{})
	scribble(m.Answers, api.Record{})
	if string(kept) != everythingBytes {
		t.Errorf("what came out shares memory with the argument: %x", kept)
	}
}

func TestP2UnpackGivesNewMemory(t *testing.T) {
	b := []byte(everythingBytes)
	first, second := mustUnpack(t, b), mustUnpack(t, b)
	scribble(first.Questions, api.Question{})
	scribble(first.Answers, api.Record{})
	scribble(first.Authority, api.Record{})
	scribble(first.Extra, api.Record{})
	if !reflect.DeepEqual(second, everything()) || !reflect.DeepEqual(mustUnpack(t, b), everything()) {
		t.Errorf("another message is changed: %+v", second)
	}
	scribble(b, '!')
	if !reflect.DeepEqual(second, everything()) {
		t.Errorf("what came out shares memory with the argument: %+v", second)
	}
}

// The lists of one message share nothing, their spare room neither.
func TestP2ListsApart(t *testing.T) {
	m := mustUnpack(t, []byte(everythingBytes))
	for i, list := range []*[]api.Record{&m.Answers, &m.Authority, &m.Extra} {
		now := deepCopy(m)
		saved := slices.Clone((*list)[:cap(*list)])
		scribble(*list, api.Record{Name: "written"})
		for j, other := range [][2][]api.Record{{m.Answers, now.Answers}, {m.Authority, now.Authority}, {m.Extra, now.Extra}} {
			if i != j && !reflect.DeepEqual(other[0], other[1]) {
				t.Errorf("list %d is changed by what is written into list %d", j, i)
			}
		}
		copy((*list)[:cap(*list)], saved)
	}
}

func TestP2SameAnswerFromSeveralGoroutines(t *testing.T) {
	b := []byte(everythingBytes)
	m := everything()
	var group sync.WaitGroup
	for range 8 {
		group.Go(func() {
			for range 500 {
				if x, e := trawl.Pack(m); e != api.OK || string(x) != everythingBytes {
					t.Errorf("Pack = %x, error %d", x, e)
				}
				if x, e := trawl.Unpack(b); e != api.OK || !reflect.DeepEqual(x, m) {
					t.Errorf("Unpack = %+v, error %d", x, e)
				}
			}
		})
	}
	group.Wait()
}
