package trawl_test

import (
	"testing"

	"trawl/api"
)

// Here the servers of a are not told with their addresses: they have to be looked up.

func namesOnly(t *testing.T, set func(c *api.Config), servers ...string) *talk {
	t.Helper()
	k := talkOf(t, name("x", "a"), set)
	k.goesTo(7)
	k.refers(name("a"), servers)
	return k
}

func TestP10LooksServersUp(t *testing.T) {
	n := name("N", "b")
	k := namesOnly(t, func(c *api.Config) { c.Tries, c.Depth = 3, 1 }, n, name("m", "b"))
	k.sends(7, n, 1)
	k.late()
	k.sends(7, n, 1)
	k.refers(name("b"), []string{name("k", "b")}, address(name("k", "b"), 20))
	k.sends(20, n, 1)
	k.own(address(name("n", "B"), 30), record(n, 1, "123"), address(n, 31), address(n, 30))
	// all tries of the zone are left
	k.goesTo(30, 31, 30)
	k.late()
	k.answers(api.Failed)
}

// The servers' addresses are asked for, whatever was asked; the answer tells nothing of them.
func TestP10TypeA(t *testing.T) {
	k := talkWith(t, config(nil))
	x := name("x", "a")
	k.ask(x, 16)
	k.goesTo(7)
	k.refers(name("a"), []string{name("n", "b")})
	k.sends(7, name("n", "b"), 1)
	k.own(record(name("n", "b"), 16, "text"), address(name("n", "b"), 30))
	k.goesTo(30)
	k.own(record(x, 16, "text"))
	k.answers(0, record(x, 16, "text"))
}

// A name that has no address is followed by the next one.
func TestP10None(t *testing.T) {
	n, m := name("n", "b"), name("m", "b")
	for what, move := range map[string]func(k *talk){
		"no name":                  func(k *talk) { k.hears(api.Message{Code: 3}) },
		"nothing":                  func(k *talk) { k.own() },
		"another type":             func(k *talk) { k.own(record(n, 28, "1234")) },
		"data of other sizes":      func(k *talk) { k.own(record(n, 1, ""), record(n, 1, "123"), record(n, 1, "12345")) },
		"stands for another one":   func(k *talk) { k.own(standing(n, name("z")), address(name("z"), 30)) },
		"stands for the next one":  func(k *talk) { k.own(standing(n, m), address(m, 30)) },
		"stands for itself":        func(k *talk) { k.own(standing(n, n)) },
		"stands for what is asked": func(k *talk) { k.own(standing(n, name("x", "a"))) },
		"late":                     func(k *talk) { k.late(); k.sends(7, n, 1); k.late() },
		"lame":                     func(k *talk) { k.lame(); k.sends(7, n, 1); k.lame() },
	} {
		t.Run(what, func(t *testing.T) {
			for _, chain := range []int{0, 10} {
				k := namesOnly(t, func(c *api.Config) { c.Tries, c.Chain = 2, chain }, n, m)
				k.sends(7, n, 1)
				move(k)
				k.sends(7, m, 1)
				k.own(address(m, 40))
				k.goesTo(40)
				k.own(address(name("x", "a"), 1))
				k.answers(0, address(name("x", "a"), 1))
				k = namesOnly(t, func(c *api.Config) { c.Tries, c.Chain = 2, chain }, n)
				k.sends(7, n, 1)
				move(k)
				k.answers(api.Failed)
			}
		})
	}
}

// Names that are the same are looked up once; those with addresses that are none, too.
func TestP10EachNameOnce(t *testing.T) {
	n, m, o := name("n", "b"), name("m", "b"), name("o", "b")
	k := talkOf(t, name("x", "a"), nil)
	k.goesTo(7)
	k.refers(name("a"), []string{n, name("N", "B"), m, n, name("M", "b"), o}, record(n, 1, "123"), record(m, 28, "1234"), ofClass(3, address(n, 50)), address(name("p", "b"), 51))
	for _, server := range []string{n, m, o} {
		k.sends(7, server, 1)
		k.own()
	}
	k.answers(api.Failed)
}

// If one server's address is told, no other one's is looked up.
func TestP10OneIsEnough(t *testing.T) {
	k := talkOf(t, name("x", "a"), func(c *api.Config) { c.Tries = 3 })
	k.goesTo(7)
	k.refers(name("a"), []string{name("n", "b"), name("m", "b")}, address(name("m", "b"), 30))
	k.goesTo(30, 30, 30)
	k.late()
	k.answers(api.Failed)
	k = namesOnly(t, func(c *api.Config) { c.Tries = 1 }, name("n", "b"), name("m", "b"))
	k.sends(7, name("n", "b"), 1)
	k.own(address(name("n", "b"), 30))
	k.goesTo(30)
	k.late()
	k.answers(api.Failed)
}

// Each server's name leads to a zone whose servers' names lead to the next: as deep as it is allowed.
func TestP10Depth(t *testing.T) {
	servers := []string{name("s", "b"), name("s", "c"), name("s", "d"), name("s", "e"), name("s", "f"), name("s", "g"), name("s", "h")}
	for depth := 0; depth <= 6; depth++ {
		k := namesOnly(t, func(c *api.Config) { c.Depth = depth }, servers[0])
		for d := range depth {
			k.sends(7, servers[d], 1)
			k.refers(servers[d][2:], servers[d+1:d+2])
		}
		k.answers(api.Failed)
	}
}

// From the deepest one on, each address leads back to the chase above.
func TestP10AndBack(t *testing.T) {
	servers := []string{name("s", "b"), name("s", "c"), name("s", "d"), name("s", "e"), name("s", "f"), name("s", "g")}
	for depth := 1; depth <= 6; depth++ {
		k := namesOnly(t, func(c *api.Config) { c.Depth = depth }, servers[0])
		for d := range depth - 1 {
			k.sends(7, servers[d], 1)
			k.refers(servers[d][2:], servers[d+1:d+2])
		}
		to := uint32(7)
		for d := depth - 1; d >= 0; d-- {
			k.sends(to, servers[d], 1)
			k.own(address(servers[d], byte(60+d)))
			to = uint32(60 + d)
		}
		k.goesTo(to)
		k.own(address(name("x", "a"), 1))
		k.answers(0, address(name("x", "a"), 1))
	}
}

// What is too deep is none: the chase above goes on with its next name.
func TestP10TooDeep(t *testing.T) {
	b, c := name("n", "b"), name("n", "c")
	k := namesOnly(t, func(c *api.Config) { c.Depth = 1 }, b, c)
	k.sends(7, b, 1)
	k.refers(name("b"), []string{name("n", "d"), name("m", "d"), name("k", "d")})
	k.sends(7, c, 1)
	k.refers(name("c"), []string{name("n", "d")})
	k.answers(api.Failed)
	// names with addresses are not looked up, however deep
	k = namesOnly(t, func(c *api.Config) { c.Depth = 1 }, b)
	k.sends(7, b, 1)
	k.refers(name("b"), []string{name("n", "d")}, address(name("n", "d"), 30))
	k.sends(30, b, 1)
	k.own(address(b, 31))
	k.goesTo(31)
}

func TestP10DepthZero(t *testing.T) {
	k := namesOnly(t, func(c *api.Config) { c.Depth = 0 }, name("n", "b"))
	k.answers(api.Failed)
	k.ask(name("x", "a"), 1)
	k.goesTo(7)
	k.refers(name("a"), []string{name("n", "b")}, address(name("n", "b"), 30))
	k.goesTo(30)
}

// A chase for the name that another one stands for is at depth 0 again.
func TestP10DepthBehindTheOtherName(t *testing.T) {
	k := namesOnly(t, func(c *api.Config) { c.Depth = 1 }, name("n", "b"))
	k.sends(7, name("n", "b"), 1)
	k.own(address(name("n", "b"), 30))
	k.goesTo(30)
	k.own(standing(name("x", "a"), name("y", "c")))
	k.sends(7, name("y", "c"), 1)
	k.refers(name("c"), []string{name("n", "d")})
	k.sends(7, name("n", "d"), 1)
	k.own(address(name("n", "d"), 31))
	k.sends(31, name("y", "c"), 1)
	k.own(address(name("y", "c"), 1))
	k.answers(0, standing(name("x", "a"), name("y", "c")), address(name("y", "c"), 1))
}

// A zone whose server lies in itself, without an address: each chase for it is one deeper, until there is an end.
func TestP10InItself(t *testing.T) {
	n := name("n", "a")
	k := namesOnly(t, nil, n)
	for range 6 {
		k.sends(7, n, 1)
		k.refers(name("a"), []string{n})
	}
	k.answers(api.Failed)
	// with two names, at each depth each of them is looked up, as long as the budget lasts
	k = namesOnly(t, func(c *api.Config) { c.Depth = 2 }, n, name("m", "a"))
	for _, server := range []string{"n", "n", "m", "m", "n", "m"} {
		k.sends(7, name(server, "a"), 1)
		k.refers(name("a"), []string{n, name("m", "a")})
	}
	k.answers(api.Failed)
}

// What looks a server's name up leaves out what is outside of its own zone, not of the other chase's one.
func TestP10OwnZone(t *testing.T) {
	b := name("n", "b")
	k := inA(t, 1)
	k.refers(name("x", "a"), []string{b})
	k.sends(7, b, 1)
	k.refers(name("b"), []string{name("m", "c")}, address(name("m", "c"), 30))
	k.sends(30, b, 1)
	k.own(address(name("x", "a"), 33), address(b, 31))
	k.goesTo(31)
	// and the chase above is in its zone again
	k.own(address(name("b"), 1))
	k.answers(0)
}

// The server that was asked last is the one that fits, in which chase ever.
func TestP10Fits(t *testing.T) {
	b, x := name("n", "b"), name("x", "a")
	k := namesOnly(t, nil, b)
	k.sends(7, b, 1)
	m := fitting(x)
	m.ID = 2
	unfit(t, "the question of the chase above", k.r, 7, mustPack(t, m))
	k.own(address(b, 30))
	k.goesTo(30)
	m = fitting(b)
	m.ID = 3
	unfit(t, "the question of the chase below", k.r, 30, mustPack(t, m))
	m = fitting(x)
	m.ID = 3
	unfit(t, "the server of the chase below", k.r, 7, mustPack(t, m))
}
