package flow

import (
	"iter"
	"math"
	"slices"
)

// nowhere is the distance of a point to which no way leads, and its level.
const nowhere = math.MaxInt

// arc leads from a point to another one. It has room for some bytes more, each of which has a price.
type arc struct{ from, to, room, price int }

// graph is points, and arcs between them. The arcs 2k and 2k+1 lead there and back: over the second one those bytes can be taken back that were carried over the first one.
type graph struct {
	arcs  []arc
	out   [][]int // the arcs from each point
	far   []int   // the price of the cheapest way to each point
	level []int   // how many arcs there are at least on a cheapest way to it
}

// newGraph returns a graph without arcs.
func newGraph(points int) *graph {
	return &graph{out: make([][]int, points), far: make([]int, points), level: make([]int, points)}
}

// add adds an arc, and the one back.
func (g *graph) add(from, to, room, price int) {
	k := len(g.arcs)
	g.arcs = append(g.arcs, arc{from, to, room, price}, arc{to, from, 0, -price})
	g.out[from] = append(g.out[from], k)
	g.out[to] = append(g.out[to], k+1)
}

// carried returns how many bytes are carried over the arc that was added as the k-th one.
func (g *graph) carried(k int) int { return g.arcs[2*k+1].room }

// carry brings up to so many bytes from a point to another one, as cheaply as possible, and returns how many.
func (g *graph) carry(from, to, bytes int) int {
	rest := bytes
	for rest > 0 && g.measure(from, to) {
		for rest > 0 && g.reach(from, to) {
			rest -= g.push(from, to, rest)
		}
	}
	return bytes - rest
}

// measure finds the price of the cheapest way from a point to each other one. It reports whether there is a way to a certain one.
func (g *graph) measure(from, to int) bool {
	clearTo(g.far, from)
	// Nearly all arcs of a way lead in one direction, and many ways are found in one passage.
	for shorter := true; shorter; {
		shorter = false
		for _, a := range g.arcs {
			shorter = g.shorten(a) || shorter
		}
		for _, a := range slices.Backward(g.arcs) {
			shorter = g.shorten(a) || shorter
		}
	}
	return g.far[to] != nowhere
}

// shorten reports whether a way over an arc is the cheapest one so far.
func (g *graph) shorten(a arc) bool {
	if a.room == 0 || g.far[a.from] == nowhere || g.far[a.from]+a.price >= g.far[a.to] {
		return false
	}
	g.far[a.to] = g.far[a.from] + a.price
	return true
}

// neighbours yields the arcs on cheapest ways from a point that have room, and where they lead.
func (g *graph) neighbours(point int) iter.Seq2[int, int] {
	return func(yield func(int, int) bool) {
		for _, k := range g.out[point] {
			a := g.arcs[k]
			if a.room > 0 && g.far[point]+a.price == g.far[a.to] && !yield(k, a.to) {
				return
			}
		}
	}
}

// reach finds the levels of all points, and reports whether a cheapest way with room leads from one point to another one.
func (g *graph) reach(from, to int) bool {
	clearTo(g.level, from)
	for next := []int{from}; len(next) > 0; next = next[1:] {
		for _, point := range g.neighbours(next[0]) {
			if g.level[point] == nowhere {
				g.level[point] = g.level[next[0]] + 1
				next = append(next, point)
			}
		}
	}
	return g.level[to] != nowhere
}

// push carries up to so many bytes from a point to another one, from each level to the next one, and returns how many.
func (g *graph) push(from, to, bytes int) int {
	if from == to {
		return bytes
	}
	rest := bytes
	for k, point := range g.neighbours(from) {
		if g.level[point] != g.level[from]+1 {
			continue
		}
		some := g.push(point, to, min(rest, g.arcs[k].room))
		g.arcs[k].room -= some
		g.arcs[k^1].room += some
		if rest -= some; rest == 0 {
			return bytes
		}
	}
	// No more bytes can be carried on from here.
	g.level[from] = nowhere
	return bytes - rest
}

// clearTo sets all distances to nowhere, but that of one point to 0.
func clearTo(distances []int, from int) {
	for k := range distances {
		distances[k] = nowhere
	}
	distances[from] = 0
}
