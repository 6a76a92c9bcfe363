package trawl_test

import (
	"slices"
	"testing"

	"trawl/api"
)

// One server after the other is asked, round and round, and after so many tries there is an end.
func TestP8Tries(t *testing.T) {
	for tries := 1; tries <= 8; tries++ {
		for count := 1; count <= 8; count++ {
			roots := []uint32{11, 12, 13, 14, 15, 16, 17, 18}[:count]
			for _, move := range []func(k *talk){(*talk).late, (*talk).lame} {
				k := talkOf(t, name("a"), func(c *api.Config) { c.Tries, c.Roots = tries, slices.Clone(roots) })
				for i := range tries {
					k.goesTo(roots[i%count])
					move(k)
				}
				k.answers(api.Failed)
			}
		}
	}
}

// Being late and being lame count alike.
func TestP8LateAndLame(t *testing.T) {
	k := talkOf(t, name("a"), func(c *api.Config) { c.Tries, c.Roots = 4, []uint32{7, 8, 9} })
	k.goesTo(7)
	k.lame()
	k.goesTo(8)
	k.late()
	k.goesTo(9)
	k.lame()
	k.goesTo(7)
	k.lame()
	k.answers(api.Failed)
}

// A server that is named twice is asked twice.
func TestP8ServersTwice(t *testing.T) {
	k := talkOf(t, name("a"), func(c *api.Config) { c.Tries, c.Roots = 5, []uint32{7, 7, 0} })
	k.goesTo(7, 7, 0, 7, 7)
	k.late()
	k.answers(api.Failed)
}

// Each zone has its own servers and its own tries, from its first server on.
func TestP8EachZone(t *testing.T) {
	n := name("x", "b", "a")
	k := talkOf(t, n, func(c *api.Config) { c.Tries, c.Roots = 3, []uint32{7, 8} })
	k.goesTo(7, 8, 7)
	k.refers(name("a"), []string{name("n", "a"), name("m", "a")}, address(name("n", "a"), 21), address(name("m", "a"), 22))
	k.goesTo(21, 22, 21)
	k.refers(name("b", "a"), []string{name("n", "b", "a")}, address(name("n", "b", "a"), 31))
	k.goesTo(31, 31, 31)
	k.late()
	k.answers(api.Failed)
}

// An answer to the last try counts.
func TestP8LastTry(t *testing.T) {
	k := talkOf(t, name("a"), func(c *api.Config) { c.Tries, c.Budget = 2, 2 })
	k.goesTo(7, 7)
	k.own(address(name("a"), 1))
	k.answers(0, address(name("a"), 1))
}

// Each chase begins with the first root and all tries.
func TestP8EachChase(t *testing.T) {
	k := talkOf(t, name("a"), func(c *api.Config) { c.Tries, c.Roots = 2, []uint32{7, 8, 9} })
	k.goesTo(7, 8)
	k.own(standing(name("a"), name("b")))
	k.sends(7, name("b"), 1)
	k.late()
	k.sends(8, name("b"), 1)
	k.late()
	k.answers(api.Failed)
	k.ask(name("c"), 1)
	k.goesTo(7, 8)
	k.late()
	k.answers(api.Failed)
}

func TestP8Budget(t *testing.T) {
	for budget := 1; budget <= 8; budget++ {
		k := talkWith(t, config(func(c *api.Config) { c.Budget, c.Roots = budget, []uint32{7, 8, 9} }))
		// each question has its own budget
		for range 2 {
			k.ask(name("a"), 1)
			for i := range budget {
				k.goesTo([]uint32{7, 8, 9}[i%3])
				k.late()
			}
			k.answers(api.Failed)
		}
	}
}

// The budget is one for all zones and all chases, also those for servers' names.
func TestP8BudgetOfAll(t *testing.T) {
	n, s := name("x", "a"), name("n", "b")
	for budget := 1; budget <= 6; budget++ {
		k := talkOf(t, n, func(c *api.Config) { c.Budget = budget })
		moves := []func(){
			func() { k.goesTo(7); k.late() },
			func() { k.goesTo(7); k.refers(name("a"), []string{s, name("m", "b")}) },
			func() { k.sends(7, s, 1); k.late() },
			func() { k.sends(7, s, 1); k.own(address(s, 5)) },
			func() { k.goesTo(5); k.own(standing(n, name("c"))) },
			func() { k.sends(7, name("c"), 1); k.late() },
		}
		for _, move := range moves[:budget] {
			move()
		}
		k.answers(api.Failed)
	}
}

// With the last question of the budget all can still be found.
func TestP8BudgetIsEnough(t *testing.T) {
	k := talkOf(t, name("a"), func(c *api.Config) { c.Budget = 1 })
	k.goesTo(7)
	k.own(address(name("a"), 1))
	k.answers(0, address(name("a"), 1))
	k = talkOf(t, name("x", "a"), func(c *api.Config) { c.Budget = 2 })
	k.goesTo(7)
	k.refers(name("a"), []string{name("n", "a")}, address(name("n", "a"), 5))
	k.goesTo(5)
	k.hears(api.Message{Code: api.NoName})
	k.answers(api.NoName)
}

// 200 questions, and no more: 8 in each of 25 zones.
func TestP8MostQuestions(t *testing.T) {
	labels := []string{"z", "y", "x", "w", "v", "u", "t", "s", "r", "q", "p", "o", "n", "m", "l", "k", "j", "i", "h", "g", "f", "e", "d", "c", "b", "a"}
	k := talkOf(t, name(labels...), nil)
	for depth := 1; ; depth++ {
		for try := 1; try <= 8; try++ {
			if k.step.Kind != api.Send {
				k.answers(api.Failed)
				if k.sent != 200 {
					t.Errorf("%d questions are sent", k.sent)
				}
				return
			}
			k.goesTo(uint32(6 + depth))
			if try < 8 {
				k.late()
			}
		}
		zone := name(labels[len(labels)-depth:]...)
		k.refers(zone, []string{zone}, address(zone, byte(7+depth)))
	}
}

// An end that comes with the last try of a deeper chase does not need the budget.
func TestP8BudgetAndTries(t *testing.T) {
	k := talkOf(t, name("x", "a"), func(c *api.Config) { c.Budget, c.Tries = 3, 2 })
	k.goesTo(7)
	k.refers(name("a"), []string{name("n", "b")})
	k.sends(7, name("n", "b"), 1)
	k.late()
	k.sends(7, name("n", "b"), 1)
	k.late()
	k.answers(api.Failed)
}
