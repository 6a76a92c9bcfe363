package search

import (
	"slices"

	"trawl/api"
)

const addressSize = 4

// fits tells whether a message is a server's word on the question that was sent last.
func (s *State) fits(from uint32, m api.Message) bool {
	if !m.Response || m.ID != s.lastID || len(m.Questions) != 1 {
		return false
	}
	c := s.chase
	got, want := m.Questions[0], c.question()
	return from == c.server(c.tries-1) && same(got.Name, want.Name) && got.Type == want.Type && got.Class == want.Class
}

// look sees what a message that fits says. If it is lame, the question's being sent stays what is done next.
func (s *State) look(m api.Message) {
	c := s.chase
	answers, authority := c.credible(m.Answers), c.credible(m.Authority)
	found := of(answers, c.name, c.kind)
	others := of(answers, c.name, api.TypeCNAME)
	zone, isBelow := c.zoneBelow(authority)
	switch {
	case m.Code != api.NoError && m.Code != api.NoName:
		return
	case len(found) > 0:
		s.end(api.NoError, found)
	case len(others) > 0:
		s.standsFor(others[0])
	case m.Code == api.NoName:
		s.end(api.NoName, nil)
	case isBelow:
		c.enter(zone, authority, c.credible(m.Extra))
		s.next = s.seek
	case m.Own:
		s.end(api.NoError, nil)
	}
}

// credible are the records on which a zone's servers may be believed.
func (c *chase) credible(list []api.Record) []api.Record {
	return only(list, func(r api.Record) bool { return r.Class == api.ClassIN && liesIn(r.Name, c.zone) })
}

func of(list []api.Record, name string, kind uint16) []api.Record {
	return only(list, func(r api.Record) bool { return r.Type == kind && same(r.Name, name) })
}

func only(list []api.Record, isGood func(r api.Record) bool) []api.Record {
	var good []api.Record
	for _, r := range list {
		if isGood(r) {
			good = append(good, r)
		}
	}
	return good
}

// zoneBelow is the zone, nearer to the chase's name, to which it is sent on.
func (c *chase) zoneBelow(authority []api.Record) (zone string, ok bool) {
	for _, r := range authority {
		if r.Type == api.TypeNS && !same(r.Name, c.zone) && liesIn(c.name, r.Name) {
			return r.Name, true
		}
	}
	return "", false
}

// enter goes on in a zone, with what the records say of its servers.
func (c *chase) enter(zone string, authority, extra []api.Record) {
	c.zone, c.names, c.servers, c.tries = zone, nil, nil, 0
	for _, r := range of(authority, zone, api.TypeNS) {
		isKnown := slices.ContainsFunc(c.names, func(name string) bool { return same(name, r.Data) })
		if !isKnown {
			c.names = append(c.names, r.Data)
			c.servers = append(c.servers, addresses(of(extra, r.Data, api.TypeA))...)
		}
	}
}

// addresses are those that A records tell.
func addresses(list []api.Record) []uint32 {
	var all []uint32
	for _, r := range list {
		if d := r.Data; len(d) == addressSize {
			all = append(all, uint32(d[0])<<24|uint32(d[1])<<16|uint32(d[2])<<8|uint32(d[3]))
		}
	}
	return all
}
