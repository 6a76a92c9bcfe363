package trawl_test

import (
	"math"
	"reflect"
	"testing"

	"trawl/api"
	"trawl/trawl"
)

// middling is a configuration that is far from every bound.
func middling() api.Config {
	return api.Config{Budget: 20, Depth: 3, Chain: 5, Tries: 4, Roots: []uint32{7, 8, 9}}
}

func mustNew(t *testing.T, c api.Config) *trawl.Resolver {
	t.Helper()
	r, e := trawl.New(c)
	if r == nil || e != api.OK {
		t.Fatalf("New(%+v): a resolver: %t, error %d", c, r != nil, e)
	}
	return r
}

// numbers are those of a configuration, each with its bounds.
var numbers = []struct {
	what        string
	of          func(c *api.Config) *int
	least, most int
}{
	{"Budget", func(c *api.Config) *int { return &c.Budget }, 1, 200},
	{"Depth", func(c *api.Config) *int { return &c.Depth }, 0, 6},
	{"Chain", func(c *api.Config) *int { return &c.Chain }, 0, 10},
	{"Tries", func(c *api.Config) *int { return &c.Tries }, 1, 8},
}

func TestP5Numbers(t *testing.T) {
	for _, n := range numbers {
		for x := n.least; x <= n.most; x++ {
			c := middling()
			*n.of(&c) = x
			mustNew(t, c)
		}
	}
}

func noConfig(t *testing.T, what string, c api.Config) {
	t.Helper()
	if r, e := trawl.New(c); r != nil || e != api.ErrConfig {
		t.Errorf("%s: New gave a resolver: %t, error %d", what, r != nil, e)
	}
}

func TestP5WrongNumbers(t *testing.T) {
	for _, n := range numbers {
		for _, x := range []int{n.least - 1, n.most + 1, -1, 201, 256 + n.least, 1<<16 + n.least, 1<<32 + n.least, math.MaxInt, math.MinInt} {
			c := middling()
			*n.of(&c) = x
			noConfig(t, n.what, c)
		}
	}
	noConfig(t, "nothing set", api.Config{})
	noConfig(t, "no number set", api.Config{Roots: []uint32{1}})
}

func TestP5Roots(t *testing.T) {
	c := middling()
	for count := 1; count <= 8; count++ {
		c.Roots = make([]uint32, count)
		mustNew(t, c)
	}
	c.Roots = []uint32{math.MaxUint32, 0, 5, 5}
	mustNew(t, c)
	for _, count := range []int{9, 10, 256, 257, 1 << 20} {
		c.Roots = make([]uint32, count)
		noConfig(t, "too many roots", c)
	}
	c.Roots = nil
	noConfig(t, "no list of roots", c)
	c.Roots = []uint32{}
	noConfig(t, "an empty list of roots", c)
	c.Roots = make([]uint32, 0, 8)
	noConfig(t, "an empty list of roots with room", c)
}

func TestP5AskedNothing(t *testing.T) {
	for _, c := range []api.Config{middling(), {Budget: 1, Tries: 1, Roots: []uint32{0}}} {
		idle(t, mustNew(t, c))
	}
}

// idle looks whether no question is being answered: there is nothing to wait for (P7).
func idle(t *testing.T, r *trawl.Resolver) {
	t.Helper()
	fit := mustPack(t, api.Message{ID: 1, Response: true, Questions: asked(name("a")).Questions})
	for _, b := range [][]byte{nil, {}, make([]byte, 12), make([]byte, 513), fit} {
		for _, from := range []uint32{0, 7, math.MaxUint32} {
			s, e := r.Heard(from, b)
			busy(t, "Heard", s, e)
		}
	}
	s, e := r.Late()
	busy(t, "Late", s, e)
}

func busy(t *testing.T, what string, s api.Step, e api.Errno) {
	t.Helper()
	if e != api.ErrBusy || !reflect.DeepEqual(s, api.Step{}) {
		t.Errorf("%s gave %+v, error %d, instead of ErrBusy", what, s, e)
	}
}
