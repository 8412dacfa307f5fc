package flow_test

import (
	"math"
	"slices"
	"testing"

	"chargenet/api"
	"chargenet/flow"
)

const most = 1 << 40 // the greatest capacity

// source is a sequence of numbers that are the same in every run.
type source uint64

func (s *source) next(n int) int {
	*s = *s*6364136223846793005 + 1442695040888963407
	return int(uint64(*s) >> 33 % uint64(n))
}

// network returns a network of arcs, each of which is given as from, to, capacity.
func network(nodes int, arcs ...[3]int) api.Net {
	n := api.Net{Nodes: nodes}
	for _, a := range arcs {
		n.Arcs = append(n.Arcs, api.Arc{From: a[0], To: a[1], Cap: a[2]})
	}
	return n
}

// random returns a network whose capacities are some of those given.
func (s *source) random(nodes, arcs int, caps ...int) api.Net {
	n := api.Net{Nodes: nodes}
	for range arcs {
		from := s.next(nodes)
		to := (from + 1 + s.next(nodes-1)) % nodes
		n.Arcs = append(n.Arcs, api.Arc{From: from, To: to, Cap: caps[s.next(len(caps))]})
	}
	return n
}

// terminals returns two different nodes.
func (s *source) terminals(nodes int) (int, int) {
	from := s.next(nodes)
	return from, (from + 1 + s.next(nodes-1)) % nodes
}

func clone(n api.Net) api.Net {
	n.Arcs = slices.Clone(n.Arcs)
	return n
}

// valueOf is the value of a flow by its definition, and whether l is a flow.
func valueOf(n api.Net, from, to int, l []int) (int, bool) {
	if len(l) != len(n.Arcs) {
		return 0, false
	}
	for i, a := range n.Arcs {
		if l[i] < 0 || l[i] > a.Cap {
			return 0, false
		}
	}
	value := 0
	for u := range n.Nodes {
		leaving, entering := 0, 0
		for i, a := range n.Arcs {
			if a.From == u {
				leaving += l[i]
			}
			if a.To == u {
				entering += l[i]
			}
		}
		if u == from {
			value = leaving - entering
		} else if u != to && leaving != entering {
			return 0, false
		}
	}
	return value, true
}

// reachable are the nodes that can be reached in the residual graph of a flow, found by looking at all arcs until nothing changes.
func reachable(n api.Net, from int, l []int) []bool {
	reached := make([]bool, n.Nodes)
	reached[from] = true
	for again := true; again; {
		again = false
		for i, a := range n.Arcs {
			if reached[a.From] && !reached[a.To] && l[i] < a.Cap {
				reached[a.To], again = true, true
			}
			if reached[a.To] && !reached[a.From] && l[i] > 0 {
				reached[a.From], again = true, true
			}
		}
	}
	return reached
}

// capacityOf is the capacity of a cut.
func capacityOf(n api.Net, in []bool) int {
	sum := 0
	for _, a := range n.Arcs {
		if in[a.From] && !in[a.To] {
			sum += a.Cap
		}
	}
	return sum
}

// cuts calls f with each cut of a small network.
func cuts(n api.Net, from, to int, f func(in []bool)) {
	for set := range 1 << n.Nodes {
		in := make([]bool, n.Nodes)
		for u := range in {
			in[u] = set>>u&1 == 1
		}
		if in[from] && !in[to] {
			f(in)
		}
	}
}

// leastCut is the least capacity of a cut, and the nodes that all cuts of this capacity have in common.
func leastCut(n api.Net, from, to int) (int, []bool) {
	least := math.MaxInt
	var common []bool
	cuts(n, from, to, func(in []bool) {
		switch c := capacityOf(n, in); {
		case c < least:
			least, common = c, in
		case c == least:
			for u := range in {
				in[u] = in[u] && common[u]
			}
			common = in
		}
	})
	return least, common
}

// vectors calls f with each vector whose elements are from -1 to the capacities and 1 more.
func vectors(n api.Net, f func(l []int)) {
	l := slices.Repeat([]int{-1}, len(n.Arcs))
	for {
		f(l)
		i := 0
		for i < len(l) && l[i] > n.Arcs[i].Cap {
			l[i] = -1
			i++
		}
		if i == len(l) {
			return
		}
		l[i]++
	}
}

// value returns the value of a maximum flow, after it has compared what Max, Cut and Check return with their definitions. As no flow has a greater value than the capacity of any cut, a flow and a cut prove each other.
func value(t *testing.T, n api.Net, from, to int) int {
	t.Helper()
	value, l, e := flow.Max(n, from, to)
	if e != api.OK {
		t.Fatalf("Max(%v, %d, %d): error %d", n, from, to, e)
	}
	if own, ok := valueOf(n, from, to, l); !ok || own != value {
		t.Fatalf("Max(%v, %d, %d): %d, %v, which has the value %d, %t", n, from, to, value, l, own, ok)
	}
	reached := reachable(n, from, l)
	if reached[to] {
		t.Fatalf("Max(%v, %d, %d): %v is not a maximum flow", n, from, to, l)
	}
	cut, e := flow.Cut(n, from, to)
	if e != api.OK || !slices.Equal(cut, reached) || capacityOf(n, cut) != value {
		t.Fatalf("Cut(%v, %d, %d): %v, %d, not %v", n, from, to, cut, e, reached)
	}
	if checked, ok := flow.Check(n, from, to, l); !ok || checked != value {
		t.Fatalf("Check(%v, %d, %d, %v): %d, %t", n, from, to, l, checked, ok)
	}
	return value
}

func isValue(t *testing.T, n api.Net, from, to, want int) {
	t.Helper()
	if got := value(t, n, from, to); got != want {
		t.Fatalf("Max(%v, %d, %d): %d, not %d", n, from, to, got, want)
	}
}

func isMax(t *testing.T, n api.Net, from, to, want int, flows ...int) {
	t.Helper()
	isValue(t, n, from, to, want)
	if _, l, _ := flow.Max(n, from, to); !slices.Equal(l, flows) {
		t.Fatalf("Max(%v, %d, %d): %v, not %v", n, from, to, l, flows)
	}
}

func isCut(t *testing.T, n api.Net, from, to int, want ...bool) {
	t.Helper()
	if got, e := flow.Cut(n, from, to); e != api.OK || !slices.Equal(got, want) {
		t.Fatalf("Cut(%v, %d, %d): %v, %d, not %v", n, from, to, got, e, want)
	}
}

func isChecked(t *testing.T, n api.Net, from, to int, l []int, want int, wantOK bool) {
	t.Helper()
	if got, ok := flow.Check(n, from, to, l); got != want || ok != wantOK {
		t.Fatalf("Check(%v, %d, %d, %v): %d, %t, not %d, %t", n, from, to, l, got, ok, want, wantOK)
	}
}

// isError requires that Max, Cut and Check reject their arguments.
func isError(t *testing.T, n api.Net, from, to int, want api.Errno) {
	t.Helper()
	if value, l, e := flow.Max(n, from, to); value != 0 || len(l) != 0 || e != want {
		t.Errorf("Max(%d nodes, %d arcs, %d, %d): %d, %v, %d, not %d", n.Nodes, len(n.Arcs), from, to, value, l, e, want)
	}
	if cut, e := flow.Cut(n, from, to); len(cut) != 0 || e != want {
		t.Errorf("Cut(%d nodes, %d arcs, %d, %d): %v, %d, not %d", n.Nodes, len(n.Arcs), from, to, cut, e, want)
	}
	if value, ok := flow.Check(n, from, to, make([]int, len(n.Arcs))); value != 0 || ok {
		t.Errorf("Check(%d nodes, %d arcs, %d, %d): %d, %t", n.Nodes, len(n.Arcs), from, to, value, ok)
	}
}

// example is the network of the first example of the chapter, line that of the second one.
func example() api.Net {
	return network(4, [3]int{0, 1, 3}, [3]int{0, 2, 2}, [3]int{1, 2, 5}, [3]int{1, 3, 2}, [3]int{2, 3, 3})
}

func line() api.Net {
	return network(3, [3]int{0, 1, 4}, [3]int{1, 2, 1})
}

// repeated is a network of two nodes with many arcs between them.
func repeated(arcs, capacity int) api.Net {
	return api.Net{Nodes: 2, Arcs: slices.Repeat([]api.Arc{{From: 0, To: 1, Cap: capacity}}, arcs)}
}

// faulty is a network with the error of Valid.
type faulty struct {
	n api.Net
	e api.Errno
}

// faults returns networks that are not valid for one reason or for several.
func faults() []faulty {
	good, self, bad := [3]int{0, 1, 1}, [3]int{1, 1, 1}, [3]int{0, 9, 1}
	over := api.Net{Nodes: 2, Arcs: make([]api.Arc, api.MaxEdges+1)}
	l := []faulty{
		{network(1), api.ErrRange}, {network(0), api.ErrRange}, {network(-1), api.ErrRange}, {network(math.MinInt), api.ErrRange}, {network(1, self), api.ErrRange},
		{network(257), api.ErrLimit}, {network(1000), api.ErrLimit}, {network(math.MaxInt), api.ErrLimit}, {network(257, bad), api.ErrLimit}, {network(257, self), api.ErrLimit},
		{repeated(2049, 1), api.ErrLimit}, {repeated(5000, 1), api.ErrLimit}, {over, api.ErrLimit},
		{api.Net{Nodes: 1, Arcs: over.Arcs}, api.ErrRange}, {api.Net{Nodes: 257, Arcs: over.Arcs}, api.ErrLimit},
		{network(2, self), api.ErrInvalid}, {network(2, [3]int{0, 0, 0}), api.ErrInvalid}, {network(3, good, [3]int{2, 2, 5}), api.ErrInvalid},
		// an arc from a node to itself that is not there, or with a capacity that is not in range
		{network(2, [3]int{2, 2, 1}), api.ErrRange}, {network(2, [3]int{-1, -1, -1}), api.ErrRange}, {network(2, [3]int{1, 1, -1}), api.ErrInvalid}, {network(2, [3]int{1, 1, most + 1}), api.ErrInvalid},
		// of two arcs that are not valid the first one counts
		{network(2, good, self, bad), api.ErrInvalid}, {network(2, bad, self), api.ErrRange}, {network(2, [3]int{0, 1, -1}, self), api.ErrRange}, {network(2, self, [3]int{0, 1, -1}), api.ErrInvalid},
		{api.Net{Nodes: 2, Arcs: append(repeated(2047, 1).Arcs, api.Arc{From: 1, To: 1})}, api.ErrInvalid}, {api.Net{Nodes: 2, Arcs: append(repeated(2047, 1).Arcs, api.Arc{From: 1, To: 2})}, api.ErrRange},
	}
	for _, u := range []int{math.MinInt, -5, -1, 5, 6, 255, 256, math.MaxInt} {
		l = append(l, faulty{network(5, [3]int{0, u, 1}), api.ErrRange}, faulty{network(5, [3]int{u, 0, 1}), api.ErrRange}, faulty{network(5, good, [3]int{u, 4, 0}), api.ErrRange})
	}
	for _, c := range []int{math.MinInt, -most, -2, -1, most + 1, 1 << 41, math.MaxInt} {
		l = append(l, faulty{network(2, [3]int{0, 1, c}), api.ErrRange}, faulty{network(2, good, [3]int{1, 0, c}), api.ErrRange})
	}
	return l
}

// P9.1

func TestValid(t *testing.T) {
	for _, n := range []api.Net{
		network(2), network(256), {Nodes: 2, Arcs: []api.Arc{}}, example(), line(), repeated(2048, 1), repeated(1, 0), repeated(1, 1), repeated(1, most), repeated(2048, most),
		network(256, [3]int{255, 0, 1}, [3]int{0, 255, 1}), network(2, [3]int{0, 1, 1}, [3]int{1, 0, 1}, [3]int{0, 1, 1}), {Nodes: 256, Arcs: repeated(2048, most).Arcs},
	} {
		if e := flow.Valid(n); e != api.OK {
			t.Errorf("Valid(%v): %d", n, e)
		}
	}
	for _, f := range faults() {
		if e := flow.Valid(f.n); e != f.e {
			t.Errorf("Valid(%d nodes, %d arcs): %d, not %d", f.n.Nodes, len(f.n.Arcs), e, f.e)
		}
	}
}

// P9.2 to P9.4: errors

func TestInvalidNetworks(t *testing.T) {
	for _, f := range faults() {
		isError(t, f.n, 0, 1, f.e)
		isError(t, f.n, 0, 0, f.e)
		isError(t, f.n, -1, math.MaxInt, f.e)
	}
}

func TestTerminals(t *testing.T) {
	for _, n := range []api.Net{example(), network(4), {Nodes: 4, Arcs: repeated(5, 1).Arcs}} {
		ends := []int{math.MinInt, -4, -1, 0, 1, 2, 3, 4, 5, math.MaxInt}
		for _, from := range ends {
			for _, to := range ends {
				if from >= 0 && from < 4 && to >= 0 && to < 4 && from != to {
					value(t, n, from, to)
				} else {
					isError(t, n, from, to, api.ErrRange)
				}
			}
		}
	}
}

// P9.2, P9.3: examples

func TestMaxExamples(t *testing.T) {
	isMax(t, example(), 0, 3, 5, 3, 2, 1, 2, 3)
	isCut(t, example(), 0, 3, true, false, false, false)
	isMax(t, line(), 0, 2, 1, 1, 1)
	isCut(t, line(), 0, 2, true, true, false)
	for nodes := 2; nodes <= 256; nodes++ {
		isMax(t, network(nodes), nodes-1, 0, 0)
		want := make([]bool, nodes)
		want[nodes-1] = true
		isCut(t, network(nodes), nodes-1, 0, want...)
	}
}

func TestUnreachable(t *testing.T) {
	isMax(t, line(), 2, 0, 0, 0, 0)
	isCut(t, line(), 2, 0, false, false, true)
	isMax(t, network(4, [3]int{0, 1, 5}, [3]int{3, 2, 5}), 0, 2, 0, 0, 0)
	isCut(t, network(4, [3]int{0, 1, 5}, [3]int{3, 2, 5}), 0, 2, true, true, false, false)
	isMax(t, network(3, [3]int{0, 1, 5}, [3]int{1, 2, 0}), 0, 2, 0, 0, 0)
	isCut(t, network(3, [3]int{0, 1, 0}, [3]int{1, 2, 7}), 0, 2, true, false, false)
}

func TestSameNodes(t *testing.T) {
	isMax(t, network(2, [3]int{0, 1, 5}, [3]int{0, 1, 0}, [3]int{0, 1, 7}), 0, 1, 12, 5, 0, 7)
	isValue(t, network(2, [3]int{0, 1, 5}, [3]int{1, 0, 3}, [3]int{0, 1, 7}), 0, 1, 12)
	isValue(t, network(2, [3]int{0, 1, 5}, [3]int{1, 0, 3}, [3]int{0, 1, 7}), 1, 0, 3)
	isValue(t, network(3, [3]int{0, 1, 4}, [3]int{0, 1, 5}, [3]int{1, 2, 3}, [3]int{1, 2, 2}, [3]int{1, 2, 2}), 0, 2, 7)
	isValue(t, repeated(2048, most), 0, 1, 2048*most)
	isValue(t, repeated(2048, most), 1, 0, 0)
}

func TestEndsWithOtherArcs(t *testing.T) {
	isValue(t, network(4, [3]int{1, 0, 9}, [3]int{3, 2, 9}, [3]int{0, 1, 2}, [3]int{1, 2, 2}, [3]int{2, 3, 2}), 0, 3, 2)
	isValue(t, network(4, [3]int{1, 0, 9}, [3]int{3, 0, 4}, [3]int{0, 2, 3}, [3]int{2, 3, 8}, [3]int{2, 0, 5}, [3]int{3, 1, 6}), 0, 3, 3)
	isValue(t, network(3, [3]int{0, 2, 1}, [3]int{2, 0, 9}, [3]int{2, 1, 9}, [3]int{1, 0, 9}), 0, 2, 1)
}

func TestCircles(t *testing.T) {
	isValue(t, network(5, [3]int{0, 1, 3}, [3]int{1, 2, 9}, [3]int{2, 3, 9}, [3]int{3, 1, 9}, [3]int{3, 4, 2}), 0, 4, 2)
	isMax(t, network(5, [3]int{0, 1, 3}, [3]int{2, 3, 9}, [3]int{3, 2, 9}, [3]int{1, 4, 4}), 0, 4, 3, 3, 0, 0, 3)
	isValue(t, network(3, [3]int{0, 1, 5}, [3]int{1, 0, 5}, [3]int{1, 2, 5}, [3]int{2, 1, 5}, [3]int{2, 0, 5}), 0, 2, 5)
}

// TestTurnedBack has a shortest path that no maximum flow can use: it must be turned back at the arc from 1 to 2.
func TestTurnedBack(t *testing.T) {
	n := network(8, [3]int{0, 1, 1}, [3]int{1, 2, 1}, [3]int{2, 7, 1}, [3]int{0, 3, 1}, [3]int{3, 4, 1}, [3]int{4, 2, 1}, [3]int{1, 5, 1}, [3]int{5, 6, 1}, [3]int{6, 7, 1})
	isMax(t, n, 0, 7, 2, 1, 0, 1, 1, 1, 1, 1, 1, 1)
	for i := range n.Arcs {
		n.Arcs[i].Cap *= most
	}
	isMax(t, n, 0, 7, 2*most, most, 0, most, most, most, most, most, most, most)
	n.Arcs[1].Cap = 1
	isMax(t, n, 0, 7, 2*most, most, 0, most, most, most, most, most, most, most)
}

// TestGreatCapacities would need 2^40 steps if paths were chosen badly.
func TestGreatCapacities(t *testing.T) {
	isMax(t, network(4, [3]int{0, 1, most}, [3]int{1, 2, 1}, [3]int{0, 2, most}, [3]int{1, 3, most}, [3]int{2, 3, most}), 0, 3, 2*most, most, 0, most, most, most)
	n := api.Net{Nodes: 256}
	for u := range 255 {
		n.Arcs = append(n.Arcs, api.Arc{From: u, To: u + 1, Cap: most})
	}
	isValue(t, n, 0, 255, most)
	n.Arcs[100].Cap = most - 1
	isValue(t, n, 0, 255, most-1)
	isValue(t, n, 255, 0, 0)
}

// P9.2, P9.4: all vectors of small networks

func TestAllVectors(t *testing.T) {
	s := source(1)
	for range 600 {
		nodes := 2 + s.next(3)
		n := s.random(nodes, s.next(6), 0, 1, 1, 2)
		from, to := s.terminals(nodes)
		greatest := math.MinInt
		vectors(n, func(l []int) {
			want, ok := valueOf(n, from, to, l)
			isChecked(t, n, from, to, l, want, ok)
			if ok {
				greatest = max(greatest, want)
			}
		})
		isValue(t, n, from, to, greatest)
	}
}

// P9.3, P9.5: all cuts of small networks

func TestAllCuts(t *testing.T) {
	s := source(2)
	for i := range 4000 {
		nodes := 2 + s.next(7)
		n := s.random(nodes, s.next(4*nodes), 0, 1, 1, 2, 3, 5, 8)
		if i%4 == 0 {
			n = s.random(nodes, s.next(4*nodes), 0, 1, most-1, most)
		}
		from, to := s.terminals(nodes)
		least, common := leastCut(n, from, to)
		isValue(t, n, from, to, least)
		isCut(t, n, from, to, common...)
		cut, _ := flow.Cut(n, from, to)
		cuts(n, from, to, func(in []bool) {
			if capacityOf(n, in) != least {
				return
			}
			for u := range in {
				if cut[u] && !in[u] {
					t.Fatalf("Cut(%v, %d, %d): %v is not in %v", n, from, to, cut, in)
				}
			}
		})
	}
}

// P9.2, P9.3: networks up to the limits

func TestRandom(t *testing.T) {
	s := source(3)
	for i := range 400 {
		nodes := 2 + s.next(255)
		arcs := s.next(2049)
		if i%10 == 0 {
			nodes, arcs = 256, 2048
		}
		n := s.random(nodes, arcs, 0, 1, 2, 3, 10, 100, 1000, 12345, 1<<20, 1<<39, most-1, most)
		from, to := s.terminals(nodes)
		value(t, n, from, to)
	}
}

// layered returns a network of layers of nodes, each of which has random arcs to the next one and a few to itself and back. Node 0 is before the first layer, the last node behind the last one.
func (s *source) layered(layers, width int) api.Net {
	n := api.Net{Nodes: layers*width + 2}
	add := func(from, to, c int) {
		if from != to && len(n.Arcs) < api.MaxEdges {
			n.Arcs = append(n.Arcs, api.Arc{From: from, To: to, Cap: c})
		}
	}
	in := func(layer int) int { return 1 + layer*width + s.next(width) }
	for i := range width {
		add(0, 1+i, 1+s.next(50))
		add(n.Nodes-2-i, n.Nodes-1, 1+s.next(50))
	}
	for len(n.Arcs) < api.MaxEdges {
		layer := s.next(layers)
		add(in(layer), in(layer), s.next(20))
		if layer > 0 {
			add(in(layer-1), in(layer), s.next(30))
			add(in(layer-1), in(layer), s.next(30))
			add(in(layer), in(layer-1), s.next(30))
		}
	}
	return n
}

func TestLayered(t *testing.T) {
	s := source(4)
	for _, layers := range []int{2, 3, 5, 10, 25, 50, 127} {
		for range 6 {
			n := s.layered(layers, 254/layers)
			value(t, n, 0, n.Nodes-1)
			value(t, n, n.Nodes-1, 0)
		}
	}
}

// P9.4

func TestCheckExamples(t *testing.T) {
	isChecked(t, line(), 0, 2, []int{1, 1}, 1, true)
	isChecked(t, line(), 0, 2, []int{2, 1}, 0, false)
	isChecked(t, line(), 2, 0, []int{1, 1}, -1, true)
	isChecked(t, line(), 0, 2, []int{0, 0}, 0, true)
	isChecked(t, line(), 0, 1, []int{3, 0}, 3, true)
	isChecked(t, line(), 0, 1, []int{4, 1}, 0, false)
	isChecked(t, line(), 1, 2, []int{0, 1}, 1, true)
	isChecked(t, line(), 1, 0, []int{4, 0}, -4, true)
	isChecked(t, example(), 0, 3, []int{3, 2, 1, 2, 3}, 5, true)
	isChecked(t, example(), 3, 0, []int{3, 2, 1, 2, 3}, -5, true)
	isChecked(t, repeated(2048, most), 0, 1, slices.Repeat([]int{most}, 2048), 2048*most, true)
	isChecked(t, repeated(2048, most), 1, 0, slices.Repeat([]int{most}, 2048), -2048*most, true)
	isChecked(t, network(2), 0, 1, nil, 0, true)
	isChecked(t, network(2), 0, 1, []int{}, 0, true)
}

// TestCheckCircles has flows that run in circles, also through the source and the sink.
func TestCheckCircles(t *testing.T) {
	n := network(4, [3]int{0, 1, 2}, [3]int{1, 2, 2}, [3]int{2, 0, 2}, [3]int{2, 3, 2}, [3]int{3, 1, 2})
	isChecked(t, n, 0, 3, []int{2, 2, 2, 0, 0}, 0, true)
	isChecked(t, n, 0, 3, []int{0, 1, 0, 1, 1}, 0, true)
	isChecked(t, n, 0, 3, []int{2, 2, 1, 1, 0}, 1, true)
	isChecked(t, n, 0, 3, []int{0, 1, 1, 0, 1}, -1, true)
	isChecked(t, n, 0, 3, []int{2, 2, 1, 0, 0}, 0, false)
}

func TestCheckLengths(t *testing.T) {
	l := []int{3, 2, 1, 2, 3}
	for n := range l {
		isChecked(t, example(), 0, 3, l[:n], 0, false)
		isChecked(t, example(), 0, 3, make([]int, n), 0, false)
	}
	isChecked(t, example(), 0, 3, append(slices.Clone(l), 0), 0, false)
	isChecked(t, example(), 0, 3, append(slices.Clone(l), 1, 1), 0, false)
	isChecked(t, example(), 0, 3, nil, 0, false)
	isChecked(t, example(), 0, 3, make([]int, 10), 0, false)
	isChecked(t, network(2), 0, 1, []int{0}, 0, false)
}

func TestCheckElements(t *testing.T) {
	l := []int{3, 2, 1, 2, 3}
	for i := range l {
		for _, n := range []int{math.MinInt, -1 << 40, -1, l[i] - 1, l[i] + 1, 6, most, most + 1, math.MaxInt} {
			other := slices.Clone(l)
			other[i] = n
			isChecked(t, example(), 0, 3, other, 0, false)
		}
	}
	// What enters is what leaves, but there are elements out of range.
	isChecked(t, line(), 0, 2, []int{-1, -1}, 0, false)
	isChecked(t, line(), 0, 2, []int{2, 2}, 0, false)
	isChecked(t, line(), 0, 2, []int{5, 5}, 0, false)
	isChecked(t, line(), 0, 2, []int{math.MinInt, math.MinInt}, 0, false)
	isChecked(t, line(), 0, 2, []int{math.MaxInt, math.MaxInt}, 0, false)
	isChecked(t, network(2, [3]int{0, 1, 1}, [3]int{1, 0, 1}), 0, 1, []int{-1, -1}, 0, false)
	isChecked(t, network(4, [3]int{0, 1, 1}, [3]int{0, 1, 1}, [3]int{1, 2, 1}, [3]int{1, 2, 1}), 0, 2, []int{math.MinInt, math.MinInt, 0, 0}, 0, false)
	isChecked(t, network(3, [3]int{0, 1, 3}, [3]int{0, 1, 3}, [3]int{1, 2, 3}), 0, 2, []int{3, -1, 2}, 0, false)
}

func TestCheckRandom(t *testing.T) {
	s := source(5)
	for range 200 {
		nodes := 2 + s.next(60)
		n := s.random(nodes, 1+s.next(400), 0, 1, 2, 50, 1<<20, most)
		from, to := s.terminals(nodes)
		_, l, _ := flow.Max(n, from, to)
		for range 20 {
			other := slices.Clone(l)
			other[s.next(len(l))] += s.next(5) - 2
			want, ok := valueOf(n, from, to, other)
			isChecked(t, n, from, to, other, want, ok)
		}
		// The ends of a flow may be exchanged, but no other two nodes.
		isChecked(t, n, to, from, l, -value(t, n, from, to), true)
		a, b := s.terminals(nodes)
		want, ok := valueOf(n, a, b, l)
		isChecked(t, n, a, b, l, want, ok)
	}
}

// P9.5

func reversed(n api.Net) api.Net {
	n = clone(n)
	for i, a := range n.Arcs {
		n.Arcs[i].From, n.Arcs[i].To = a.To, a.From
	}
	return n
}

func (s *source) shuffled(n api.Net) api.Net {
	n = clone(n)
	for i := range n.Arcs {
		j := s.next(i + 1)
		n.Arcs[i], n.Arcs[j] = n.Arcs[j], n.Arcs[i]
	}
	return n
}

// compared calls f with networks of all sizes, two nodes of each, and the value of a maximum flow between them.
func compared(t *testing.T, seed source, f func(s *source, n api.Net, from, to, before int)) {
	s := seed
	for i := range 400 {
		nodes := 2 + s.next(3+i/5)
		n := s.random(nodes, 1+s.next(5*nodes), 0, 1, 2, 3, 10, 1<<20, most-7, most)
		from, to := s.terminals(nodes)
		f(&s, n, from, to, value(t, n, from, to))
	}
}

func TestReversed(t *testing.T) {
	compared(t, 6, func(s *source, n api.Net, from, to, before int) {
		isValue(t, reversed(n), to, from, before)
	})
}

func TestOrders(t *testing.T) {
	compared(t, 7, func(s *source, n api.Net, from, to, before int) {
		cut, _ := flow.Cut(n, from, to)
		other := clone(n)
		slices.Reverse(other.Arcs)
		isValue(t, other, from, to, before)
		isCut(t, other, from, to, cut...)
		for range 3 {
			other = s.shuffled(n)
			isValue(t, other, from, to, before)
			isCut(t, other, from, to, cut...)
		}
	})
}

func TestRaised(t *testing.T) {
	compared(t, 8, func(s *source, n api.Net, from, to, before int) {
		for _, by := range []int{1, 2, 7, 1000, most} {
			i := s.next(len(n.Arcs))
			other := clone(n)
			by = min(by, most-n.Arcs[i].Cap)
			other.Arcs[i].Cap += by
			if after := value(t, other, from, to); after < before || after > before+by {
				t.Fatalf("arc %d of %v is raised by %d: from %d to %d", i, n, by, before, after)
			}
		}
	})
}

// TestRaisedEach raises each arc of small networks: the value grows if and only if the arc leaves every least cut.
func TestRaisedEach(t *testing.T) {
	s := source(9)
	for range 150 {
		nodes := 2 + s.next(5)
		n := s.random(nodes, 1+s.next(3*nodes), 0, 1, 2, 3)
		from, to := s.terminals(nodes)
		before := value(t, n, from, to)
		for i := range n.Arcs {
			for _, by := range []int{1, 4} {
				other := clone(n)
				other.Arcs[i].Cap += by
				least, _ := leastCut(other, from, to)
				isValue(t, other, from, to, least)
				if least < before || least > before+by {
					t.Fatalf("arc %d of %v is raised by %d: from %d to %d", i, n, by, before, least)
				}
			}
		}
	}
}

// R5, R6: arguments stay as they are, results are new memory, and a call is the same at each time.

func TestMemory(t *testing.T) {
	s := source(10)
	for range 50 {
		n := s.random(20, 100, 0, 1, 5, 9, most)
		n.Arcs = append(n.Arcs, slices.Repeat([]api.Arc{{From: 7, To: 8, Cap: 9}}, 50)...)[:100]
		before := slices.Clone(n.Arcs[:150])
		value, l, _ := flow.Max(n, 3, 17)
		cut, _ := flow.Cut(n, 3, 17)
		again, m, _ := flow.Max(n, 3, 17)
		cutAgain, _ := flow.Cut(n, 3, 17)
		if value != again || !slices.Equal(l, m) || !slices.Equal(cut, cutAgain) {
			t.Fatalf("Max or Cut of %v differ from call to call", n)
		}
		with := append(slices.Clone(l), slices.Repeat([]int{77}, 50)...)
		flow.Check(n, 3, 17, with[:100])
		flow.Valid(n)
		if !slices.Equal(with[:100], l) || slices.ContainsFunc(with[100:], func(i int) bool { return i != 77 }) || !slices.Equal(n.Arcs[:150], before) {
			t.Fatal("an argument was changed")
		}
		clear(l[:cap(l)])
		clear(cut[:cap(cut)])
		if !slices.Equal(m, with[:100]) || !slices.Equal(n.Arcs[:150], before) {
			t.Fatal("a result shares memory")
		}
		if cutThird, _ := flow.Cut(n, 3, 17); !slices.Equal(cutThird, cutAgain) {
			t.Fatal("two cuts share memory")
		}
	}
}
