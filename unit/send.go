package unit

import (
	"slices"

	"backwash/api"
	"backwash/bag"
	"backwash/chain"
	"backwash/route"
)

// sender is a worker that sends letters: they are counted among what is its own.
type sender struct {
	api.Unit
	workers int
	letters []api.Letter
}

// sendAll of what has changed at a point, along each edge from it: what is taken back goes ahead, as records that are there less than never.
func (s *sender) sendAll(g api.Graph, p api.Point, taken, given []api.Item) {
	t, ok := Gives(g, p.Node, p.Time)
	if !ok {
		return
	}
	changes := slices.Concat(bag.Minus(nil, taken), given)
	for i, e := range g.Edges {
		if e.From != p.Node {
			continue
		}
		for _, x := range changes {
			s.send(e, api.Msg{Edge: i, Time: t, Rec: x.Rec, N: x.N, Colour: s.Colour})
		}
	}
	if len(s.letters) > 0 {
		s.Red[p.Node] = chain.Put(s.Red[p.Node], p.Time)
	}
}

// send a message along an edge.
func (s *sender) send(e api.Edge, m api.Msg) {
	to := s.ID
	if e.Exchange {
		to = route.Worker(m.Rec.K, s.workers)
	}
	s.letters = append(s.letters, api.Letter{To: to, Msg: m})
	s.Sent[s.Colour]++
	if m.N < 0 {
		s.Backs++
	}
}
