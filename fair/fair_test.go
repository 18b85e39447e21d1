package fair_test

import (
	"math"
	"slices"
	"testing"

	"headway/api"
	"headway/fair"
	"headway/samples"
)

// run is Run by the chapter's words, time by time, with the tags of all packets kept.
func run(weights []int, l []api.Packet) []int {
	var out, start, finish []int
	last, free := 0, 0
	for now := 0; len(out) < len(l); now++ {
		if now < free {
			continue
		}
		for len(start) < len(l) && l[len(start)].At <= now {
			p, before := l[len(start)], 0
			for j := range start {
				if l[j].Flow == p.Flow {
					before = finish[j]
				}
			}
			start = append(start, max(before, last))
			finish = append(finish, max(before, last)+840*p.Size/weights[p.Flow])
		}
		best := -1
		for i := range start {
			if !slices.Contains(out, i) && (best < 0 || start[i] < start[best]) {
				best = i
			}
		}
		if best >= 0 {
			out, last, free = append(out, best), start[best], now+l[best].Size
		}
	}
	return out
}

// even returns 8 weights of w.
func even(w int) []int { return samples.Same(8, w) }

// with returns 8 weights of 1, those of the flows from 0 on replaced.
func with(weights ...int) []int { return append(weights, even(1)[len(weights):]...) }

// weightsWith returns 8 weights of 1, the one at i replaced by w.
func weightsWith(i, w int) []int {
	out := even(1)
	out[i] = w
	return out
}

// ofFlows returns l with its packets given to flows in turn.
func ofFlows(l []api.Packet, flows ...int) []api.Packet {
	out := slices.Clone(l)
	for i := range out {
		out[i].Flow = flows[i%len(flows)]
	}
	return out
}

// patterns returns flows that the packets of a queue may be of, in turn.
func patterns() [][]int {
	return [][]int{{0}, {0, 1}, {1, 0}, {0, 0, 1, 1}, {0, 1, 1, 0}, {0, 0, 0, 1}, {0, 0, 1, 2}, {7, 3, 5}, {0, 1, 2, 3}}
}

// weightings returns weights: all alike, and several kinds of uneven ones.
func weightings() [][]int {
	return [][]int{even(1), even(8), {1, 2, 3, 4, 5, 6, 7, 8}, {8, 7, 6, 5, 4, 3, 2, 1}, with(3, 1), with(1, 8, 2)}
}

// weightCase: weights, and the error that they deserve.
type weightCase struct {
	name    string
	weights []int
	want    api.Errno
}

func weightCases() []weightCase {
	return []weightCase{
		{"the least", even(1), api.OK},
		{"the greatest", even(8), api.OK},
		{"all that there are", []int{1, 2, 3, 4, 5, 6, 7, 8}, api.OK},
		{"8 with spare room", samples.Same(12, 3)[:8], api.OK},
		{"nil", nil, api.ErrLen},
		{"empty", []int{}, api.ErrLen},
		{"empty with spare room", even(1)[:0], api.ErrLen},
		{"one", []int{1}, api.ErrLen},
		{"7", samples.Same(7, 1), api.ErrLen},
		{"9", samples.Same(9, 1), api.ErrLen},
		{"very many", samples.Same(5000, 1), api.ErrLen},
		{"7 ahead of their bounds", samples.Same(7, 0), api.ErrLen},
		{"9 ahead of their bounds", samples.Same(9, 9), api.ErrLen},
		{"zeros", even(0), api.ErrArg},
		{"a zero first", weightsWith(0, 0), api.ErrArg},
		{"a zero amid", weightsWith(4, 0), api.ErrArg},
		{"a zero last", weightsWith(7, 0), api.ErrArg},
		{"a negative one", weightsWith(3, -1), api.ErrArg},
		{"too great by one, first", weightsWith(0, 9), api.ErrArg},
		{"too great by one, last", weightsWith(7, 9), api.ErrArg},
		{"the least of all", weightsWith(2, math.MinInt), api.ErrArg},
		{"the greatest of all", weightsWith(2, math.MaxInt), api.ErrArg},
	}
}

// TestErrors: the weights' errors come ahead of the queue's, though no packet is of the flow whose weight is wrong.
func TestErrors(t *testing.T) { // P41, P42
	for _, w := range weightCases() {
		for _, q := range samples.QueueCases() {
			want, size := w.want, 0
			if want == api.OK {
				want = q.Want
			}
			if want == api.OK {
				size = len(q.L)
			}
			if e := fair.Check(w.weights, q.L); e != want {
				t.Errorf("check: weights %s, queue %s: %d, not %d", w.name, q.Name, e, want)
			}
			if got, e := fair.Run(w.weights, q.L); e != want || len(got) != size {
				t.Errorf("run: weights %s, queue %s: %v %d, not %d", w.name, q.Name, got, e, want)
			}
		}
	}
}

func TestRun(t *testing.T) { // P42
	for _, x := range []struct {
		name    string
		weights []int
		l       []api.Packet
		want    []int
	}{
		{"no packets", even(1), nil, nil},
		{"one packet", even(1), []api.Packet{{At: 200, Size: 1000, Flow: 7}}, []int{0}},
		{"the document's", even(1), []api.Packet{{Size: 9}, {At: 1, Size: 9}, {At: 2, Size: 1, Flow: 1}}, []int{0, 2, 1}},
		{"the document's, the new flow's packet the greater", even(1), []api.Packet{{Size: 9}, {At: 1, Size: 1}, {At: 2, Size: 900, Flow: 1}}, []int{0, 2, 1}},
		{"a flow keeps its order", even(1), []api.Packet{{Size: 9}, {Size: 1}, {Size: 5}}, []int{0, 1, 2}},
		{"of one tag, the smallest index", even(1), []api.Packet{{Size: 9, Flow: 5}, {Size: 1, Flow: 2}, {Size: 4}}, []int{0, 1, 2}},
		{"flows in turn", even(1), []api.Packet{{Size: 2}, {Size: 2}, {Size: 2}, {Size: 2, Flow: 1}, {Size: 2, Flow: 1}, {Size: 2, Flow: 1}}, []int{0, 3, 1, 4, 2, 5}},
		{"small packets ahead of great ones", even(1), []api.Packet{{Size: 3}, {Size: 3}, {Size: 1, Flow: 1}, {Size: 1, Flow: 1}, {Size: 1, Flow: 1}, {Size: 1, Flow: 1}}, []int{0, 2, 3, 4, 1, 5}},
		{"a flow of twice the weight", with(1, 2), []api.Packet{{Size: 2}, {Size: 2}, {Size: 2, Flow: 1}, {Size: 2, Flow: 1}, {Size: 2, Flow: 1}}, []int{0, 2, 3, 1, 4}},
		{"the weight of the flow, not of the packet", with(2, 1), []api.Packet{{Size: 2, Flow: 1}, {Size: 2, Flow: 1}, {Size: 2}, {Size: 2}, {Size: 2}}, []int{0, 2, 3, 1, 4}},
		{"as much for as much weight", []int{1, 1, 1, 1, 1, 1, 7, 8}, []api.Packet{{Size: 8, Flow: 7}, {Size: 1, Flow: 7}, {Size: 7, Flow: 6}, {Size: 1, Flow: 6}}, []int{0, 2, 1, 3}},
		{"a little less for as much weight", []int{1, 1, 1, 1, 1, 1, 7, 8}, []api.Packet{{Size: 8, Flow: 7}, {Size: 1, Flow: 7}, {Size: 6, Flow: 6}, {Size: 1, Flow: 6}}, []int{0, 2, 3, 1}},
		{"weights that do not divide a size", []int{3, 7, 1, 1, 1, 1, 1, 1}, []api.Packet{{Size: 1, Flow: 1}, {Size: 2, Flow: 1}, {Size: 9, Flow: 1}, {Size: 1}, {Size: 9}}, []int{0, 3, 1, 4, 2}},
		{"not before it comes", even(1), []api.Packet{{Size: 3}, {Size: 3}, {At: 4, Size: 1, Flow: 1}}, []int{0, 1, 2}},
		{"just as the one before it is done", even(1), []api.Packet{{Size: 3}, {Size: 3}, {At: 3, Size: 1, Flow: 1}}, []int{0, 2, 1}},
		{"a packet is not broken off", even(1), []api.Packet{{Size: 9}, {Size: 9}, {At: 10, Size: 1, Flow: 1}, {At: 11, Size: 1}}, []int{0, 1, 2, 3}},
		{"a new flow starts with the tag that was served last", even(1), []api.Packet{{Size: 1}, {Size: 1, Flow: 1}, {Size: 1}, {Size: 1, Flow: 1}, {At: 3, Size: 1, Flow: 2}}, []int{0, 1, 2, 3, 4}},
		{"a new flow starts with no more than that tag", even(1), []api.Packet{{Size: 1}, {Size: 4}, {Size: 1}, {At: 2, Size: 1, Flow: 2}, {At: 2, Size: 1, Flow: 2}, {At: 2, Size: 1, Flow: 2}, {At: 2, Size: 1, Flow: 2}, {At: 2, Size: 1, Flow: 2}}, []int{0, 1, 3, 4, 5, 6, 2, 7}},
		{"a flow that was away does not make up for it", even(1), []api.Packet{{Size: 1, Flow: 1}, {Size: 3}, {Size: 3}, {Size: 3}, {Size: 3}, {At: 8, Size: 3, Flow: 1}, {At: 8, Size: 3, Flow: 1}}, []int{0, 1, 2, 3, 5, 4, 6}},
		{"a rest does not forget the finish tags", even(1), []api.Packet{{Size: 9}, {At: 50, Size: 1}, {At: 50, Size: 1, Flow: 1}}, []int{0, 2, 1}},
		{"nor the tag that was served last", even(1), []api.Packet{{Size: 1}, {Size: 2}, {At: 50, Size: 1, Flow: 1}, {At: 50, Size: 1, Flow: 1}, {At: 50, Size: 1, Flow: 1}, {At: 50, Size: 1}}, []int{0, 1, 2, 3, 4, 5}},
		{"after a rest, only what has come", even(1), []api.Packet{{Size: 1}, {At: 5, Size: 1}, {At: 6, Size: 1, Flow: 1}, {At: 7, Size: 1}, {At: 7, Size: 1, Flow: 2}}, []int{0, 1, 2, 4, 3}},
		{"the first comes late", even(1), []api.Packet{{At: 5, Size: 1}, {At: 5, Size: 1}, {At: 6, Size: 1, Flow: 1}}, []int{0, 2, 1}},
		{"60 of the greatest", even(1), samples.SamePackets(60, api.Packet{Size: 1000}), samples.Slope(60, 0, 1)},
		{"60 of the greatest, at the last time", even(8), samples.SamePackets(60, api.Packet{At: 200, Size: 1000, Flow: 7}), samples.Slope(60, 0, 1)},
	} {
		if got, e := fair.Run(x.weights, x.l); e != api.OK || !slices.Equal(got, x.want) {
			t.Errorf("%s: %v %d, not %v", x.name, got, e, x.want)
		}
	}
}

func TestAll(t *testing.T) { // P42
	for _, queue := range samples.SmallQueues() {
		for _, flows := range patterns() {
			l := ofFlows(queue, flows...)
			for _, weights := range weightings() {
				want := run(weights, l)
				if got, e := fair.Run(weights, l); e != api.OK || !slices.Equal(got, want) {
					t.Fatalf("%v by %v: %v %d, not %v", l, weights, got, e, want)
				}
			}
		}
	}
}

// long returns queues of 60 packets, of several numbers of flows.
func long() [][]api.Packet {
	var out [][]api.Packet
	for _, queue := range samples.LongQueues() {
		for _, flows := range append(patterns(), []int{0, 1, 2, 3, 4, 5, 6, 7}) {
			out = append(out, ofFlows(queue, flows...))
		}
	}
	return out
}

func TestLong(t *testing.T) { // P42
	for _, l := range long() {
		for _, weights := range weightings() {
			want := run(weights, l)
			if got, e := fair.Run(weights, l); e != api.OK || !slices.Equal(got, want) {
				t.Fatalf("%v by %v: %v %d, not %v", l, weights, got, e, want)
			}
		}
	}
}

// TestEachPairOfWeights: small packets of two flows, so that a tag that is not told exactly puts them in another order.
func TestEachPairOfWeights(t *testing.T) { // P42
	for one := 1; one <= 8; one++ {
		for two := 1; two <= 8; two++ {
			weights := with(one, two)
			for _, size := range []int{1, 2, 3} {
				var l []api.Packet
				for i := range 60 {
					l = append(l, api.Packet{Size: size, Flow: i / 30})
				}
				want := run(weights, l)
				if got, e := fair.Run(weights, l); e != api.OK || !slices.Equal(got, want) {
					t.Fatalf("size %d by %v: %v %d, not %v", size, weights, got, e, want)
				}
			}
		}
	}
}

// TestServedOnceAndInOrder: each packet is served once, when it has come, behind those of its flow, and the server rests only when nothing waits.
func TestServedOnceAndInOrder(t *testing.T) { // P42
	for _, l := range long() {
		for _, weights := range weightings() {
			got, _ := fair.Run(weights, l)
			served, now := make([]bool, len(l)), 0
			for _, i := range got {
				now = max(now, l[slices.Index(served, false)].At)
				if served[i] || l[i].At > now {
					t.Fatalf("%v by %v: %v: %d at %d", l, weights, got, i, now)
				}
				for j := range i {
					if l[j].Flow == l[i].Flow && !served[j] {
						t.Fatalf("%v by %v: %v: %d ahead of %d", l, weights, got, i, j)
					}
				}
				served[i] = true
				now += l[i].Size
			}
			if slices.Contains(served, false) {
				t.Fatalf("%v by %v: %v", l, weights, got)
			}
		}
	}
}

// TestFairUpToOnePacket: while packets of two flows wait, each gets as much for its weight as the other, but for a packet of each.
func TestFairUpToOnePacket(t *testing.T) { // P42
	uneven := 0
	for _, l := range long() {
		if l[len(l)-1].At > 0 {
			continue
		}
		for _, weights := range weightings() {
			got, _ := fair.Run(weights, l)
			last, most := lasts(l, got)
			for from := range got {
				var sums [8]int
				for to := from; to < len(got); to++ {
					p := l[got[to]]
					sums[p.Flow] += p.Size
					for f := range sums {
						if last[f] <= to || last[p.Flow] <= to {
							continue
						}
						apart := sums[f]*weights[p.Flow] - sums[p.Flow]*weights[f]
						if apart != 0 {
							uneven++
						}
						if max(apart, -apart) > most[f]*weights[p.Flow]+most[p.Flow]*weights[f] {
							t.Fatalf("%v by %v: %v: from %d to %d, flows %d and %d", l, weights, got, from, to, f, p.Flow)
						}
					}
				}
			}
		}
	}
	if uneven == 0 {
		t.Error("no two flows ever wait together")
	}
}

// lasts returns for each flow of l where its last packet stands in order (-1 if it has none), and the size of its greatest one.
func lasts(l []api.Packet, order []int) (last, most [8]int) {
	for f := range last {
		last[f] = -1
	}
	for at, i := range order {
		last[l[i].Flow], most[l[i].Flow] = at, max(most[l[i].Flow], l[i].Size)
	}
	return last, most
}

// TestWeightsAreRelative: twice the weight for all is no other order.
func TestWeightsAreRelative(t *testing.T) { // P42
	weights, twice := []int{1, 2, 3, 4, 1, 2, 3, 4}, []int{2, 4, 6, 8, 2, 4, 6, 8}
	for _, l := range long() {
		one, _ := fair.Run(weights, l)
		two, e := fair.Run(twice, l)
		if e != api.OK || !slices.Equal(one, two) {
			t.Fatalf("%v: %v, and %v %d", l, one, two, e)
		}
	}
}

func TestNothingPanics(t *testing.T) { // P1
	for _, weights := range append(samples.Strange(), even(1), weightsWith(0, math.MinInt)) {
		for _, at := range samples.Numbers() {
			for _, size := range samples.Numbers() {
				for _, flow := range samples.Numbers() {
					p := api.Packet{At: at, Size: size, Flow: flow}
					l := []api.Packet{p, p}
					want := fair.Check(weights, l)
					if got, e := fair.Run(weights, l); e != want || e == api.OK && len(got) != 2 || e != api.OK && len(got) != 0 {
						t.Fatalf("%v by %v: %v %d, not %d", l, weights, got, e, want)
					}
				}
			}
		}
	}
}

func TestArgumentsStay(t *testing.T) { // P2
	weights := append(with(2, 3), 77, 78)
	room := []api.Packet{{Size: 9}, {At: 1, Size: 9}, {At: 2, Size: 1, Flow: 1}, {At: 1, Size: 9}, {Flow: -7}}
	before := slices.Clone(room)
	got, e := fair.Run(weights[:8], room[:3])
	if e != api.OK || !slices.Equal(got, []int{0, 2, 1}) {
		t.Errorf("the spare room counts: %v %d", got, e)
	}
	fault := samples.Shares([][]int{weights}, func() ([]int, api.Errno) { return fair.Run(weights[:8], room[:3]) })
	if fault != "" {
		t.Error(fault)
	}
	if e := fair.Check(weights[:8], room[:3]); e != api.OK {
		t.Errorf("the spare room counts: %d", e)
	}
	if !slices.Equal(room, before) || !slices.Equal(weights, append(with(2, 3), 77, 78)) {
		t.Errorf("an argument has changed: %v %v", room, weights)
	}
}
