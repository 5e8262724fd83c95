package flow

import (
	"sort"

	"quietus/api"
)

// The functions of this file are given nets, schedules and demands without errors.

// place is a link in a tick.
type place struct{ link, tick int }

// taken returns the bytes that a schedule sends, by link and tick.
func taken(used []api.Send) map[place]int {
	bytes := map[place]int{}
	for _, s := range used {
		bytes[place{s.Link, s.Tick}] = s.Bytes
	}
	return bytes
}

// plan is a net, what others have taken of it, and a demand.
type plan struct {
	n     api.Net
	taken map[place]int
	d     api.Demand
}

// point returns the number of the point of a house at a tick.
func (p plan) point(house, tick int) int { return (tick-p.d.Ready)*p.n.Houses + house }

// start returns the point at which the bytes of the demand are ready.
func (p plan) start() int { return p.point(p.d.From, p.d.Ready) }

// end returns the point at which they are due.
func (p plan) end() int { return p.point(p.d.To, p.d.Due) }

// left returns what is left of a link in a tick.
func (p plan) left(link, tick int) int {
	return p.n.Links[link].Cap[tick%api.DayTicks] - p.taken[place{link, tick}]
}

// free is a price without a difference between links.
func free(int) int { return 0 }

// thrifty is the price of a byte on a link, and a little more. So of equally cheap schedules that one is preferred which sends fewer bytes, and no send is made that could be left out. A way visits each point once at most, and all that is added on it is less than one penny.
func thrifty(price int) int { return price*(api.MaxHouses*(api.MaxSpan+1)+1) + 1 }

// lay adds an arc for each link and for each house, in which bytes wait, tick by tick.
func (p plan) lay(price func(int) int, add func(from, to, room, price int)) {
	for tick := p.d.Ready; tick < p.d.Due; tick++ {
		for k, on := range p.n.Links {
			add(p.point(on.From, tick), p.point(on.To, tick+1), p.left(k, tick), price(on.Price[tick%api.DayTicks]))
		}
		for house := range p.n.Houses {
			add(p.point(house, tick), p.point(house, tick+1), api.MaxBytes, 0)
		}
	}
}

// graph returns the graph in which the bytes of the demand travel from point to point.
func (p plan) graph(price func(int) int) *graph {
	g := newGraph(p.point(0, p.d.Due+1))
	p.lay(price, g.add)
	return g
}

// sends returns the schedule of what was carried in a graph.
func (p plan) sends(g *graph) []api.Send {
	var l []api.Send
	k := 0
	for tick := p.d.Ready; tick < p.d.Due; tick++ {
		for link := range p.n.Links {
			if bytes := g.carried(k + link); bytes > 0 {
				l = append(l, api.Send{Link: link, Tick: tick, Bytes: bytes})
			}
		}
		k += len(p.n.Links) + p.n.Houses
	}
	return l
}

// inTime returns how many bytes of the demand can be in time.
func inTime(p plan) int {
	return p.graph(free).carry(p.start(), p.end(), p.d.Bytes)
}

// cheapest returns a cheapest schedule that serves the demand, and whether there is one.
func cheapest(p plan) ([]api.Send, bool) {
	g := p.graph(thrifty)
	if g.carry(p.start(), p.end(), p.d.Bytes) < p.d.Bytes {
		return nil, false
	}
	return p.sends(g), true
}

// earliest returns the first tick at which all bytes of the demand can be in time, or a tick after Due if there is none.
func earliest(p plan) int {
	bytes, ready := p.d.Bytes, p.d.Ready
	return ready + sort.Search(p.d.Due-ready+1, func(span int) bool {
		p.d.Due = ready + span
		return inTime(p) == bytes
	})
}
