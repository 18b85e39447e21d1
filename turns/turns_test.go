package turns_test

import (
	"cmp"
	"math"
	"slices"
	"testing"

	"headway/api"
	"headway/samples"
	"headway/turns"
)

// flow returns a flow of that quantum and those sizes.
func flow(quantum int, sizes ...int) api.Flow { return api.Flow{Quantum: quantum, Sizes: sizes} }

// sameFlows returns f, n times.
func sameFlows(n int, f api.Flow) []api.Flow { return slices.Repeat([]api.Flow{f}, n) }

// sizesWith returns 60 sizes of 1, the one at i replaced by size.
func sizesWith(i, size int) []int {
	out := samples.Same(60, 1)
	out[i] = size
	return out
}

// small returns all the flows of up to 3 packets of 1, 3 or 4 bytes, and of a quantum of 1, 2, 3 or 5.
func small() []api.Flow {
	var out []api.Flow
	for _, sizes := range samples.Lists([]int{1, 3, 4}, 3) {
		for _, quantum := range []int{1, 2, 3, 5} {
			out = append(out, flow(quantum, sizes...))
		}
	}
	return out
}

// lists returns lists of flows: all that have one or two small ones, and some with more and longer ones.
func lists() [][]api.Flow {
	out := [][]api.Flow{nil, {}}
	for _, f := range small() {
		out = append(out, []api.Flow{f})
		for _, g := range small() {
			out = append(out, []api.Flow{f, g})
		}
	}
	return append(out, long()...)
}

// long returns lists of 8 flows, of several forms.
func long() [][]api.Flow {
	var out [][]api.Flow
	for _, size := range []func(i, n int) int{
		func(i, n int) int { return 1 + (i*7+n)%9 },
		func(i, n int) int { return 1000 - i*n },
		func(i, n int) int { return 1 + (n*n*37+i)%1000 },
	} {
		for _, quantum := range []int{1, 6, 500, 1000} {
			var l []api.Flow
			for i := range 8 {
				sizes := samples.Values(60-i*8, func(n int) int { return size(i, n) })
				l = append(l, api.Flow{Quantum: max(1, quantum-i), Sizes: sizes})
			}
			out = append(out, l)
		}
	}
	return out
}

// walk is the chapter's words, turn by turn, told for each packet as it is sent; it ends after so many rounds, or when no packets are left.
func walk(l []api.Flow, rounds int, send func(s api.Sent)) {
	next, counter := make([]int, len(l)), make([]int, len(l))
	left := 0
	for _, f := range l {
		left += len(f.Sizes)
	}
	for done := 0; done < rounds && left > 0; done++ {
		for i, f := range l {
			if next[i] == len(f.Sizes) {
				continue
			}
			counter[i] += f.Quantum
			for next[i] < len(f.Sizes) && f.Sizes[next[i]] <= counter[i] {
				send(api.Sent{Flow: i, Index: next[i]})
				counter[i] -= f.Sizes[next[i]]
				next[i]++
				left--
			}
		}
	}
}

// run is Run by the chapter's words.
func run(l []api.Flow) []api.Sent {
	var out []api.Sent
	walk(l, math.MaxInt, func(s api.Sent) { out = append(out, s) })
	return out
}

// after is After by the chapter's words.
func after(l []api.Flow, rounds int) []int {
	out := make([]int, len(l))
	walk(l, rounds, func(s api.Sent) { out[s.Flow] += l[s.Flow].Sizes[s.Index] })
	return out
}

// flowCase: a list of flows, and the error that it deserves.
type flowCase struct {
	name string
	l    []api.Flow
	want api.Errno
}

func flowCases() []flowCase {
	good := flow(2, 3, 1)
	return []flowCase{
		{"nil", nil, api.OK},
		{"empty", []api.Flow{}, api.OK},
		{"empty with spare room", make([]api.Flow, 0, 9), api.OK},
		{"ordinary", []api.Flow{good}, api.OK},
		{"no sizes", []api.Flow{flow(1)}, api.OK},
		{"no sizes with spare room", []api.Flow{flow(1, make([]int, 0, 70)...)}, api.OK},
		{"all at the least", []api.Flow{flow(1, 1)}, api.OK},
		{"all at the most", []api.Flow{flow(1000, 1000)}, api.OK},
		{"60 sizes", []api.Flow{flow(1, samples.Same(60, 1000)...)}, api.OK},
		{"8 flows", sameFlows(8, good), api.OK},
		{"8 flows of 60 sizes", sameFlows(8, flow(1000, samples.Same(60, 1000)...)), api.OK},
		{"9 flows", sameFlows(9, good), api.ErrLarge},
		{"9 flows ahead of their quanta", make([]api.Flow, 9), api.ErrLarge},
		{"9 flows ahead of their sizes", sameFlows(9, flow(2, 0)), api.ErrLarge},
		{"very many flows", make([]api.Flow, 5000), api.ErrLarge},
		{"a flow of zeros", []api.Flow{{}}, api.ErrArg},
		{"no quantum", []api.Flow{flow(0, 3)}, api.ErrArg},
		{"a negative quantum", []api.Flow{flow(-1, 3)}, api.ErrArg},
		{"a quantum too great by one", []api.Flow{flow(1001, 3)}, api.ErrArg},
		{"the least quantum of all", []api.Flow{flow(math.MinInt, 3)}, api.ErrArg},
		{"the greatest quantum of all", []api.Flow{flow(math.MaxInt, 3)}, api.ErrArg},
		{"a wrong quantum, though nothing waits", []api.Flow{flow(1001)}, api.ErrArg},
		{"61 sizes", []api.Flow{flow(2, samples.Same(61, 1)...)}, api.ErrLarge},
		{"very many sizes", []api.Flow{flow(2, make([]int, 5000)...)}, api.ErrLarge},
		{"a size of 0", []api.Flow{flow(2, 0)}, api.ErrArg},
		{"a negative size", []api.Flow{flow(2, -1)}, api.ErrArg},
		{"a size too great by one", []api.Flow{flow(2, 1001)}, api.ErrArg},
		{"the least size of all", []api.Flow{flow(2, math.MinInt)}, api.ErrArg},
		{"the greatest size of all", []api.Flow{flow(2, math.MaxInt)}, api.ErrArg},
		{"a wrong size in the first of 60", []api.Flow{flow(2, sizesWith(0, 1001)...)}, api.ErrArg},
		{"a wrong size in the last of 60", []api.Flow{flow(2, sizesWith(59, 0)...)}, api.ErrArg},
		{"a quantum ahead of 61 sizes", []api.Flow{flow(0, samples.Same(61, 1)...)}, api.ErrArg},
		{"61 sizes ahead of their bounds", []api.Flow{flow(2, samples.Same(61, 0)...)}, api.ErrLarge},
		{"a flow's sizes ahead of the next one's number", []api.Flow{flow(2, 0), flow(2, samples.Same(61, 1)...)}, api.ErrArg},
		{"a flow's number of sizes ahead of the next one's quantum", []api.Flow{flow(2, samples.Same(61, 1)...), flow(0)}, api.ErrLarge},
		{"a wrong flow behind right ones", append(sameFlows(7, good), flow(0)), api.ErrArg},
		{"a long flow behind right ones", append(sameFlows(7, good), flow(1, samples.Same(61, 1)...)), api.ErrLarge},
		{"a wrong size behind right flows", append(sameFlows(7, good), flow(1, 1001)), api.ErrArg},
	}
}

func TestCheck(t *testing.T) { // P38
	for _, x := range flowCases() {
		if e := turns.Check(x.l); e != x.want {
			t.Errorf("%s: %d, not %d", x.name, e, x.want)
		}
	}
}

func TestRun(t *testing.T) { // P39
	sent := func(pairs ...int) []api.Sent {
		var out []api.Sent
		for i := 0; i < len(pairs); i += 2 {
			out = append(out, api.Sent{Flow: pairs[i], Index: pairs[i+1]})
		}
		return out
	}
	for _, x := range []struct {
		name string
		l    []api.Flow
		want []api.Sent
	}{
		{"no flows", nil, nil},
		{"no packets", []api.Flow{flow(1), flow(2)}, nil},
		{"the document's, behind a flow that sends in the first turn", []api.Flow{flow(2, 3), flow(2, 2)}, sent(1, 0, 0, 0)},
		{"the document's, ahead of one that sends in the second turn", []api.Flow{flow(2, 3), flow(2, 4)}, sent(0, 0, 1, 0)},
		{"the document's, ahead of one that sends in the third turn", []api.Flow{flow(2, 5), flow(2, 3)}, sent(1, 0, 0, 0)},
		{"one flow", []api.Flow{flow(2, 3, 1, 9)}, sent(0, 0, 0, 1, 0, 2)},
		{"a packet each in turn", []api.Flow{flow(1, 1, 1), flow(1, 1, 1)}, sent(0, 0, 1, 0, 0, 1, 1, 1)},
		{"just the counter is enough", []api.Flow{flow(3, 3, 3), flow(3, 3)}, sent(0, 0, 1, 0, 0, 1)},
		{"several in one turn", []api.Flow{flow(4, 1, 2, 1, 1), flow(1, 1)}, sent(0, 0, 0, 1, 0, 2, 1, 0, 0, 3)},
		{"what is left of the counter is kept", []api.Flow{flow(3, 2, 4), flow(1, 1, 1)}, sent(0, 0, 1, 0, 0, 1, 1, 1)},
		{"what is left of the counter is not enough", []api.Flow{flow(3, 2, 5), flow(1, 1, 1)}, sent(0, 0, 1, 0, 1, 1, 0, 1)},
		{"a small packet does not pass a great one", []api.Flow{flow(2, 5, 1), flow(2, 2, 2)}, sent(1, 0, 1, 1, 0, 0, 0, 1)},
		{"a greater quantum sends more", []api.Flow{flow(1, 1, 1, 1), flow(2, 1, 1, 1)}, sent(0, 0, 1, 0, 1, 1, 0, 1, 1, 2, 0, 2)},
		{"an empty flow amid", []api.Flow{flow(1, 1, 1), flow(9), flow(1, 1)}, sent(0, 0, 2, 0, 0, 1)},
		{"a flow that is done has no turns", []api.Flow{flow(9, 1), flow(1, 2, 2)}, sent(0, 0, 1, 0, 1, 1)},
		{"a round without a packet is not the last", []api.Flow{flow(1, 9), flow(1, 8)}, sent(1, 0, 0, 0)},
	} {
		if got, e := turns.Run(x.l); e != api.OK || !slices.Equal(got, x.want) {
			t.Errorf("%s: %v %d, not %v", x.name, got, e, x.want)
		}
	}
}

// TestRunEdges: the slowest there is, and the fastest.
func TestRunEdges(t *testing.T) { // P39
	sizes := samples.Same(60, 1000)
	slow, e := turns.Run(sameFlows(8, flow(1, sizes...)))
	if e != api.OK || len(slow) != 480 {
		t.Fatalf("%d packets, %d", len(slow), e)
	}
	fast, e := turns.Run(sameFlows(8, flow(1000, sizes...)))
	if e != api.OK || !slices.Equal(fast, slow) {
		t.Errorf("%v %d", fast, e)
	}
	for i, s := range slow {
		if want := (api.Sent{Flow: i % 8, Index: i / 8}); s != want {
			t.Fatalf("at %d: %v, not %v", i, s, want)
		}
	}
	atOnce, e := turns.Run(sameFlows(8, flow(60, samples.Same(60, 1)...)))
	if e != api.OK || len(atOnce) != 480 {
		t.Fatalf("%d packets, %d", len(atOnce), e)
	}
	for i, s := range atOnce {
		if want := (api.Sent{Flow: i / 60, Index: i % 60}); s != want {
			t.Fatalf("at %d: %v, not %v", i, s, want)
		}
	}
}

func TestAfter(t *testing.T) { // P40
	l := []api.Flow{flow(2, 3, 1), flow(5, 4, 4), flow(1), flow(3, 1, 1, 1, 1, 9)}
	for rounds, want := range [][]int{{0, 0, 0, 0}, {0, 4, 0, 3}, {4, 8, 0, 4}, {4, 8, 0, 4}, {4, 8, 0, 4}, {4, 8, 0, 13}, {4, 8, 0, 13}} {
		if got, e := turns.After(l, rounds); e != api.OK || !slices.Equal(got, want) {
			t.Errorf("after %d: %v %d, not %v", rounds, got, e, want)
		}
	}
	slow, fast := flow(1, samples.Same(60, 1000)...), flow(1000, samples.Same(60, 1000)...)
	for _, x := range []struct {
		name   string
		l      []api.Flow
		rounds int
		want   []int
	}{
		{"no flows", nil, 9, nil},
		{"no flows and no rounds", nil, 0, nil},
		{"the document's, in the first turn", []api.Flow{flow(2, 3)}, 1, []int{0}},
		{"the document's, in the second turn", []api.Flow{flow(2, 3)}, 2, []int{3}},
		{"no rounds", []api.Flow{fast, fast}, 0, []int{0, 0}},
		{"one round", []api.Flow{fast, slow}, 1, []int{1000, 0}},
		{"59 rounds", []api.Flow{fast}, 59, []int{59000}},
		{"60 rounds", []api.Flow{fast}, 60, []int{60000}},
		{"61 rounds", []api.Flow{fast}, 61, []int{60000}},
		{"just short of a packet", []api.Flow{slow}, 999, []int{0}},
		{"the most rounds", []api.Flow{slow, fast}, 1000, []int{1000, 60000}},
	} {
		if got, e := turns.After(x.l, x.rounds); e != api.OK || !slices.Equal(got, x.want) {
			t.Errorf("%s: %v %d, not %v", x.name, got, e, x.want)
		}
	}
}

func TestAll(t *testing.T) { // P39, P40
	for _, l := range lists() {
		want := run(l)
		if got, e := turns.Run(l); e != api.OK || !slices.Equal(got, want) {
			t.Fatalf("%v: %v %d, not %v", l, got, e, want)
		}
		for _, rounds := range []int{0, 1, 2, 3, 7} {
			want := after(l, rounds)
			if got, e := turns.After(l, rounds); e != api.OK || !slices.Equal(got, want) {
				t.Fatalf("%v after %d: %v %d, not %v", l, rounds, got, e, want)
			}
		}
	}
}

// TestRunByRounds: a packet goes in the first round by which the quanta are as much as it and all before it, and in a round the flows go in order.
func TestRunByRounds(t *testing.T) { // P39
	for _, l := range lists() {
		type place struct {
			round int
			api.Sent
		}
		var places []place
		for i, f := range l {
			sum := 0
			for n, size := range f.Sizes {
				sum += size
				places = append(places, place{(sum + f.Quantum - 1) / f.Quantum, api.Sent{Flow: i, Index: n}})
			}
		}
		slices.SortFunc(places, func(a, b place) int {
			return cmp.Or(a.round-b.round, a.Flow-b.Flow, a.Index-b.Index)
		})
		got, e := turns.Run(l)
		if e != api.OK || len(got) != len(places) {
			t.Fatalf("%v: %v %d, not %v", l, got, e, places)
		}
		for i, s := range got {
			if s != places[i].Sent {
				t.Fatalf("%v: %v, not %v", l, got, places)
			}
		}
	}
}

// TestFair: a flow that has packets left has sent what its quanta come to, up to one packet.
func TestFair(t *testing.T) { // P39, P40
	waited := 0
	for _, l := range long() {
		for _, rounds := range []int{0, 1, 2, 10, 59, 60, 100, 999, 1000} {
			got, e := turns.After(l, rounds)
			if e != api.OK {
				t.Fatalf("%v after %d: %d", l, rounds, e)
			}
			for i, f := range l {
				sum, n := 0, 0
				for sum < got[i] {
					sum += f.Sizes[n]
					n++
				}
				if sum != got[i] || sum > rounds*f.Quantum {
					t.Fatalf("%v after %d: %v", l, rounds, got)
				}
				if n == len(f.Sizes) {
					continue
				}
				waited++
				if rounds*f.Quantum-sum >= f.Sizes[n] {
					t.Fatalf("%v after %d: %v, though flow %d has enough for one more", l, rounds, got, i)
				}
			}
		}
	}
	if waited == 0 {
		t.Error("no flow ever has packets left")
	}
}

func TestErrors(t *testing.T) { // P38, P39, P40
	for _, x := range flowCases() {
		packets := 0
		for _, f := range x.l {
			packets += len(f.Sizes)
		}
		if x.want != api.OK {
			packets = 0
		}
		if got, e := turns.Run(x.l); e != x.want || len(got) != packets {
			t.Errorf("run: %s: %v %d, not %d", x.name, got, e, x.want)
		}
		for _, rounds := range []int{math.MinInt, -1, 0, 1, 1000, 1001, math.MaxInt} {
			want, size := x.want, len(x.l)
			if want == api.OK && (rounds < 0 || rounds > 1000) {
				want = api.ErrArg
			}
			if want != api.OK {
				size = 0
			}
			if got, e := turns.After(x.l, rounds); e != want || len(got) != size {
				t.Errorf("after: %s, %d: %v %d, not %d", x.name, rounds, got, e, want)
			}
		}
	}
}

func TestNothingPanics(t *testing.T) { // P1
	for _, quantum := range samples.Numbers() {
		for _, sizes := range samples.Strange() {
			l := []api.Flow{{Quantum: quantum, Sizes: sizes}, flow(1, 1)}
			want := turns.Check(l)
			got, e := turns.Run(l)
			if e != want || e == api.OK && len(got) != len(sizes)+1 || e != api.OK && len(got) != 0 {
				t.Errorf("run of %v: %v %d, not %d", l, got, e, want)
			}
			for _, rounds := range samples.Numbers() {
				want := want
				if want == api.OK && (rounds < 0 || rounds > 1000) {
					want = api.ErrArg
				}
				got, e := turns.After(l, rounds)
				if e != want || e == api.OK && len(got) != 2 || e != api.OK && len(got) != 0 {
					t.Errorf("after of %v, %d: %v %d, not %d", l, rounds, got, e, want)
				}
			}
		}
	}
}

func TestArgumentsStay(t *testing.T) { // P2
	sizes, others := []int{3, 1, 77, 78}, []int{4, 4, 87}
	room := []api.Flow{flow(2, sizes[:2]...), flow(5, others[:2]...), flow(-7, 1001)}
	wantRun := []api.Sent{{Flow: 1}, {}, {Index: 1}, {Flow: 1, Index: 1}}
	got, e := turns.Run(room[:2])
	if e != api.OK || !slices.Equal(got, wantRun) {
		t.Errorf("the spare room counts: %v %d", got, e)
	}
	again, _ := turns.Run(room[:2])
	got = got[:cap(got)]
	for i := range got {
		got[i] = api.Sent{Flow: -5, Index: -5}
	}
	if !slices.Equal(again, wantRun) {
		t.Errorf("results share memory: %v", again)
	}
	rooms := [][]int{sizes, others}
	fault := samples.Shares(rooms, func() ([]int, api.Errno) { return turns.After(room[:2], 1) })
	if fault != "" {
		t.Error(fault)
	}
	if e := turns.Check(room[:2]); e != api.OK {
		t.Errorf("the spare room counts: %d", e)
	}
	for i, want := range []api.Flow{flow(2, 3, 1), flow(5, 4, 4), flow(-7, 1001)} {
		if room[i].Quantum != want.Quantum || !slices.Equal(room[i].Sizes, want.Sizes) {
			t.Errorf("an argument has changed: %v", room)
		}
	}
	if !slices.Equal(sizes, []int{3, 1, 77, 78}) || !slices.Equal(others, []int{4, 4, 87}) {
		t.Errorf("an argument has changed: %v %v", sizes, others)
	}
}
