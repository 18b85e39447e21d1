package world_test

import (
	"math"
	"slices"
	"testing"

	"headway/api"
	"headway/catch"
	"headway/resume"
	"headway/samples"
	"headway/share"
	"headway/world"
)

// far returns a peer that lacks lag bytes, and has part of the piece that it is at.
func far(lag, part int) api.Peer { return api.Peer{Lag: lag, Part: part, Done: lag == 0} }

// fresh returns n peers that lack nothing.
func fresh(n int) []api.Peer { return slices.Repeat([]api.Peer{{Done: true}}, n) }

// made returns a world that is right.
func made(t *testing.T, n, rate, unit int) *world.World {
	w, e := world.New(n, rate, unit)
	if e != api.OK || w == nil {
		t.Fatalf("%d, %d, %d: %v %d", n, rate, unit, w, e)
	}
	return w
}

// either: a world, or a model of one.
type either interface {
	Append(n int) api.Errno
	Tick() int
	Crash(i int) api.Errno
	Peers() []api.Peer
}

// step is what is done to a world; it answers with the error and the number of bytes that the world does.
type step struct {
	name string
	do   func(w either) (int, api.Errno)
}

func adds(n int) step {
	return step{"append", func(w either) (int, api.Errno) { return n, w.Append(n) }}
}

func crash(i int) step {
	return step{"crash", func(w either) (int, api.Errno) { return i, w.Crash(i) }}
}

func tick() step {
	return step{"tick", func(w either) (int, api.Errno) { return w.Tick(), api.OK }}
}

// ticks returns n ticks.
func ticks(n int) []step { return slices.Repeat([]step{tick()}, n) }

// model is a world otherwise: what a peer has in whole pieces is counted, not what it lacks, and the peers stand in a row, of which those up to the one that gets a byte go to the end.
type model struct {
	rate, unit, total int
	whole, part, row  []int
}

func modelOf(n, rate, unit int) *model {
	return &model{rate: rate, unit: unit, whole: make([]int, n), part: make([]int, n), row: samples.Slope(n, 0, 1)}
}

func (m *model) Append(n int) api.Errno {
	if n < 0 {
		return api.ErrArg
	}
	if n > 1000000 || m.total+n-slices.Min(m.whole) > 1000000 {
		return api.ErrLarge
	}
	m.total += n
	return api.OK
}

func (m *model) Tick() int {
	for sent := range m.rate {
		k := slices.IndexFunc(m.row, func(i int) bool { return m.whole[i] < m.total })
		if k < 0 {
			return sent
		}
		i := m.row[k]
		m.row = slices.Concat(m.row[k+1:], m.row[:k+1])
		m.part[i]++
		if m.part[i] == min(m.unit, m.total-m.whole[i]) {
			m.whole[i] += m.part[i]
			m.part[i] = 0
		}
	}
	return m.rate
}

func (m *model) Crash(i int) api.Errno {
	if !slices.Contains(m.row, i) {
		return api.ErrArg
	}
	m.part[i] = 0
	return api.OK
}

func (m *model) Peers() []api.Peer {
	var out []api.Peer
	for i, whole := range m.whole {
		out = append(out, far(m.total-whole, m.part[i]))
	}
	return out
}

// newCase: what a world is asked for with, and whether it is out of its bounds.
type newCase struct {
	name          string
	n, rate, unit int
	bad           bool
}

func newCases() []newCase {
	return []newCase{
		{"ordinary", 2, 3, 2, false},
		{"the least", 1, 0, 1, false},
		{"the most", 8, 1000, 1000, false},
		{"a rate of 1", 8, 1, 1000, false},
		{"no peers", 0, 3, 2, true},
		{"peers less than none", -1, 3, 2, true},
		{"9 peers", 9, 3, 2, true},
		{"the least peers of all", math.MinInt, 3, 2, true},
		{"the most peers of all", math.MaxInt, 3, 2, true},
		{"a negative rate", 2, -1, 2, true},
		{"a rate too great by one", 2, 1001, 2, true},
		{"the least rate of all", 2, math.MinInt, 2, true},
		{"the greatest rate of all", 2, math.MaxInt, 2, true},
		{"no unit", 2, 3, 0, true},
		{"a negative unit", 2, 3, -1, true},
		{"a unit too great by one", 2, 3, 1001, true},
		{"the least unit of all", 2, 3, math.MinInt, true},
		{"the greatest unit of all", 2, 3, math.MaxInt, true},
		{"all wrong", 9, -1, 0, true},
	}
}

func TestNew(t *testing.T) { // P72
	for _, x := range newCases() {
		w, e := world.New(x.n, x.rate, x.unit)
		if x.bad {
			if w != nil || e != api.ErrArg {
				t.Errorf("%s: %v %d", x.name, w, e)
			}
			continue
		}
		if e != api.OK || w == nil {
			t.Errorf("%s: %v %d", x.name, w, e)
			continue
		}
		if got := w.Peers(); !slices.Equal(got, fresh(x.n)) {
			t.Errorf("%s: %v", x.name, got)
		}
		if n := w.Tick(); n != 0 {
			t.Errorf("%s: sends %d, though nobody lacks anything", x.name, n)
		}
	}
}

// TestNewTurn: at first the turn is at peer 0.
func TestNewTurn(t *testing.T) { // P72
	for n := 1; n <= 8; n++ {
		w := made(t, n, 1, 9)
		w.Append(5)
		w.Tick()
		if got := w.Peers(); got[0] != far(5, 1) || n > 1 && got[1] != far(5, 0) {
			t.Errorf("%d peers: %v", n, got)
		}
	}
}

// TestNewApart: a new world has nothing of another one.
func TestNewApart(t *testing.T) { // P72
	one, two := made(t, 2, 3, 2), made(t, 2, 3, 2)
	one.Append(4)
	one.Tick()
	if got := two.Peers(); !slices.Equal(got, fresh(2)) || two.Tick() != 0 {
		t.Errorf("%v", got)
	}
}

func TestAppend(t *testing.T) { // P73
	for _, x := range []struct {
		name          string
		n, rate, unit int
		first         []step
		add           int
		want          []api.Peer
		e             api.Errno
	}{
		{"to peers that lack nothing", 2, 3, 2, nil, 4, []api.Peer{far(4, 0), far(4, 0)}, api.OK},
		{"to one", 1, 3, 2, nil, 1, []api.Peer{far(1, 0)}, api.OK},
		{"to 8", 8, 3, 2, nil, 7, slices.Repeat([]api.Peer{far(7, 0)}, 8), api.OK},
		{"to peers that lag", 2, 3, 2, []step{adds(4), tick()}, 5, []api.Peer{far(7, 0), far(9, 1)}, api.OK},
		{"to one that lags, and one that is done", 2, 1, 1, []step{adds(1), tick()}, 5, []api.Peer{far(5, 0), far(6, 0)}, api.OK},
		{"nothing, to peers that lack nothing", 2, 3, 2, nil, 0, fresh(2), api.OK},
		{"nothing, to peers that lag", 2, 3, 2, []step{adds(4), tick()}, 0, []api.Peer{far(2, 0), far(4, 1)}, api.OK},
		{"nothing, to one that is done", 2, 1, 1, []step{adds(1), tick()}, 0, []api.Peer{far(0, 0), far(1, 0)}, api.OK},
		{"the most", 2, 3, 2, nil, 1000000, []api.Peer{far(1000000, 0), far(1000000, 0)}, api.OK},
		{"the most in two", 1, 3, 2, []step{adds(999999)}, 1, []api.Peer{far(1000000, 0)}, api.OK},
		{"nothing, to the most", 1, 3, 2, []step{adds(1000000)}, 0, []api.Peer{far(1000000, 0)}, api.OK},
		{"the most, once all have room", 2, 1, 1, []step{adds(1000000), tick(), tick()}, 1, []api.Peer{far(1000000, 0), far(1000000, 0)}, api.OK},
		{"too much by one", 2, 3, 2, nil, 1000001, fresh(2), api.ErrLarge},
		{"too much by one, to one that lags", 1, 3, 2, []step{adds(999999)}, 2, []api.Peer{far(999999, 0)}, api.ErrLarge},
		{"too much for the last peer alone", 2, 1, 1, []step{adds(1000000), tick()}, 1, []api.Peer{far(999999, 0), far(1000000, 0)}, api.ErrLarge},
		{"too much for the first peer alone", 2, 2, 2, []step{adds(1000000), tick(), crash(0), tick()}, 1, []api.Peer{far(1000000, 1), far(999998, 0)}, api.ErrLarge},
		{"part of a piece makes no room", 1, 3, 9, []step{adds(1000000), tick()}, 1, []api.Peer{far(1000000, 3)}, api.ErrLarge},
		{"the greatest of all", 2, 3, 2, nil, math.MaxInt, fresh(2), api.ErrLarge},
		{"the greatest of all, to one that lags", 1, 3, 2, []step{adds(4)}, math.MaxInt, []api.Peer{far(4, 0)}, api.ErrLarge},
		{"the greatest of all, to the most", 1, 3, 2, []step{adds(1000000)}, math.MaxInt, []api.Peer{far(1000000, 0)}, api.ErrLarge},
		{"a negative number", 2, 3, 2, nil, -1, fresh(2), api.ErrArg},
		{"a negative number, to those that lag", 2, 3, 2, []step{adds(4)}, -1, []api.Peer{far(4, 0), far(4, 0)}, api.ErrArg},
		{"a negative number, to the most", 1, 3, 2, []step{adds(1000000)}, -1, []api.Peer{far(1000000, 0)}, api.ErrArg},
		{"the least of all", 2, 3, 2, []step{adds(4)}, math.MinInt, []api.Peer{far(4, 0), far(4, 0)}, api.ErrArg},
	} {
		w := made(t, x.n, x.rate, x.unit)
		for _, s := range x.first {
			s.do(w)
		}
		if e := w.Append(x.add); e != x.e {
			t.Errorf("%s: %d, not %d", x.name, e, x.e)
		}
		if got := w.Peers(); !slices.Equal(got, x.want) {
			t.Errorf("%s: %v, not %v", x.name, got, x.want)
		}
	}
}

// tickCase: what is done to a world, what its last tick sends, and its peers after it.
type tickCase struct {
	name          string
	n, rate, unit int
	first         []step
	sent          int
	want          []api.Peer
}

func tickCases() []tickCase {
	// Peer 0 is done, and peer 1 has a part; the turn is at peer 0.
	passed := []step{adds(2), tick(), tick(), crash(1), tick(), tick()}
	// Both are done, and the turn is at peer 1.
	rest := []step{adds(2), tick(), tick(), crash(0), tick(), tick(), tick()}
	return []tickCase{
		{"nobody lacks anything", 2, 3, 2, nil, 0, fresh(2)},
		{"nothing is added", 2, 3, 2, []step{adds(0)}, 0, fresh(2)},
		{"no rate", 2, 0, 2, []step{adds(4)}, 0, []api.Peer{far(4, 0), far(4, 0)}},
		{"the document's: a byte to the peer whose turn it is", 3, 1, 5, []step{adds(4)}, 1, []api.Peer{far(4, 1), far(4, 0), far(4, 0)}},
		{"the next slot's byte to the next peer", 3, 1, 5, []step{adds(4), tick()}, 1, []api.Peer{far(4, 1), far(4, 1), far(4, 0)}},
		{"after the last peer, the first", 3, 1, 5, []step{adds(4), tick(), tick(), tick()}, 1, []api.Peer{far(4, 2), far(4, 1), far(4, 1)}},
		{"byte by byte in a slot", 3, 4, 9, []step{adds(5)}, 4, []api.Peer{far(5, 2), far(5, 1), far(5, 1)}},
		{"the turn stays in the midst of the peers", 3, 2, 9, []step{adds(5), tick()}, 2, []api.Peer{far(5, 2), far(5, 1), far(5, 1)}},
		{"a whole piece", 1, 2, 2, []step{adds(5)}, 2, []api.Peer{far(3, 0)}},
		{"a piece that lacks a byte", 1, 2, 3, []step{adds(5)}, 2, []api.Peer{far(5, 2)}},
		{"a piece that is whole in the next slot", 1, 2, 3, []step{adds(5), tick()}, 2, []api.Peer{far(2, 1)}},
		{"two pieces in a slot", 1, 4, 2, []step{adds(5)}, 4, []api.Peer{far(1, 0)}},
		{"pieces of one byte", 1, 3, 1, []step{adds(5)}, 3, []api.Peer{far(2, 0)}},
		{"the last piece is shorter", 1, 4, 3, []step{adds(4)}, 4, fresh(1)},
		{"less than a piece", 1, 2, 9, []step{adds(2)}, 2, fresh(1)},
		{"the last piece is whole", 1, 4, 2, []step{adds(4)}, 4, fresh(1)},
		{"no more than is lacking", 2, 1000, 3, []step{adds(4)}, 8, fresh(2)},
		{"all but one byte", 2, 7, 3, []step{adds(4)}, 7, []api.Peer{far(0, 0), far(1, 0)}},
		{"after all is sent", 2, 7, 3, []step{adds(4), tick(), tick()}, 0, fresh(2)},
		{"8 peers", 8, 1000, 1000, []step{adds(1000)}, 1000, slices.Repeat([]api.Peer{far(1000, 125)}, 8)},
		{"one who is done is passed over", 2, 1, 2, passed, 1, fresh(2)},
		{"one who was passed over is the next again", 2, 1, 2, append(slices.Clone(passed), adds(1)), 1, []api.Peer{far(0, 0), far(3, 1)}},
		{"the one after one who is done gets the byte", 3, 1, 2, slices.Concat([]step{adds(2)}, ticks(3), []step{crash(1), crash(2)}, ticks(3)), 1, []api.Peer{far(0, 0), far(0, 0), far(2, 1)}},
		{"the turn is past the one who has got the byte, though others were passed over", 3, 1, 9, slices.Concat([]step{adds(3)}, ticks(6), []step{crash(1), crash(2)}, ticks(4)), 1, []api.Peer{far(0, 0), far(3, 2), far(3, 2)}},
		{"several who are done are passed over", 3, 1, 2, slices.Concat([]step{adds(2)}, ticks(3), []step{crash(2)}, ticks(3)), 1, fresh(3)},
		{"the turn stays while nobody lacks anything", 2, 1, 2, append(slices.Clone(rest), tick(), adds(2)), 1, []api.Peer{far(2, 0), far(2, 1)}},
		{"more is added amid a piece that was the last", 1, 2, 5, []step{adds(3), tick(), adds(4), tick()}, 2, []api.Peer{far(2, 1)}},
		{"more is added amid a piece, which lacks a byte yet", 1, 2, 5, []step{adds(3), tick(), adds(4)}, 2, []api.Peer{far(7, 4)}},
		{"the piece begins again after a crash", 1, 2, 3, []step{adds(9), tick(), crash(0)}, 2, []api.Peer{far(9, 2)}},
	}
}

func TestTick(t *testing.T) { // P74
	for _, x := range tickCases() {
		w := made(t, x.n, x.rate, x.unit)
		for _, s := range x.first {
			s.do(w)
		}
		if sent := w.Tick(); sent != x.sent {
			t.Errorf("%s: sends %d, not %d", x.name, sent, x.sent)
		}
		if got := w.Peers(); !slices.Equal(got, x.want) {
			t.Errorf("%s: %v, not %v", x.name, got, x.want)
		}
	}
}

func TestCrash(t *testing.T) { // P75
	for _, x := range []struct {
		name          string
		n, rate, unit int
		first         []step
		i             int
		want          []api.Peer
		e             api.Errno
	}{
		{"the first", 2, 3, 9, []step{adds(5), tick()}, 0, []api.Peer{far(5, 0), far(5, 1)}, api.OK},
		{"the last", 2, 3, 9, []step{adds(5), tick()}, 1, []api.Peer{far(5, 2), far(5, 0)}, api.OK},
		{"one of 8", 8, 16, 9, []step{adds(5), tick()}, 7, append(slices.Repeat([]api.Peer{far(5, 2)}, 7), far(5, 0)), api.OK},
		{"whole pieces stay", 1, 5, 3, []step{adds(9), tick()}, 0, []api.Peer{far(6, 0)}, api.OK},
		{"between two pieces", 1, 3, 3, []step{adds(9), tick()}, 0, []api.Peer{far(6, 0)}, api.OK},
		{"ahead of the first byte", 1, 3, 3, []step{adds(9)}, 0, []api.Peer{far(9, 0)}, api.OK},
		{"one who lacks nothing", 2, 3, 3, nil, 1, fresh(2), api.OK},
		{"one who is done", 2, 3, 2, []step{adds(2), tick()}, 0, []api.Peer{far(0, 0), far(2, 1)}, api.OK},
		{"twice", 2, 3, 9, []step{adds(5), tick(), crash(0)}, 0, []api.Peer{far(5, 0), far(5, 1)}, api.OK},
		{"one too many", 2, 3, 9, []step{adds(5), tick()}, 2, []api.Peer{far(5, 2), far(5, 1)}, api.ErrArg},
		{"one too many of 8", 8, 16, 9, []step{adds(5), tick()}, 8, slices.Repeat([]api.Peer{far(5, 2)}, 8), api.ErrArg},
		{"a peer that other worlds have", 1, 3, 9, []step{adds(5), tick()}, 7, []api.Peer{far(5, 3)}, api.ErrArg},
		{"ahead of the first", 2, 3, 9, []step{adds(5), tick()}, -1, []api.Peer{far(5, 2), far(5, 1)}, api.ErrArg},
		{"the least of all", 2, 3, 9, []step{adds(5), tick()}, math.MinInt, []api.Peer{far(5, 2), far(5, 1)}, api.ErrArg},
		{"the greatest of all", 2, 3, 9, []step{adds(5), tick()}, math.MaxInt, []api.Peer{far(5, 2), far(5, 1)}, api.ErrArg},
	} {
		w := made(t, x.n, x.rate, x.unit)
		for _, s := range x.first {
			s.do(w)
		}
		if e := w.Crash(x.i); e != x.e {
			t.Errorf("%s: %d, not %d", x.name, e, x.e)
		}
		if got := w.Peers(); !slices.Equal(got, x.want) {
			t.Errorf("%s: %v, not %v", x.name, got, x.want)
		}
	}
}

// TestCrashTurn: a crash takes no turn, neither from the one that crashes nor from others.
func TestCrashTurn(t *testing.T) { // P75
	for i := range 3 {
		w := made(t, 3, 1, 9)
		w.Append(5)
		w.Tick()
		w.Crash(i)
		before := w.Peers()
		w.Tick()
		before[1].Part++
		if got := w.Peers(); !slices.Equal(got, before) {
			t.Errorf("%d crashes: %v, not %v", i, got, before)
		}
	}
}

// TestPeers: all peers are told, in their order, each for itself.
func TestPeers(t *testing.T) { // P76
	for n := 1; n <= 8; n++ {
		w := made(t, n, 1, 9)
		want := fresh(n)
		if got := w.Peers(); !slices.Equal(got, want) {
			t.Errorf("%d peers: %v, not %v", n, got, want)
		}
		w.Append(5)
		want = slices.Repeat([]api.Peer{far(5, 0)}, n)
		for i := range n {
			w.Tick()
			want[i].Part = 1
			if got := w.Peers(); !slices.Equal(got, want) {
				t.Errorf("%d peers, %d ticks: %v, not %v", n, i+1, got, want)
			}
		}
	}
}

// alike does the same to a world and to its model, and holds all that they answer against each other.
func alike(t *testing.T, n, rate, unit int, steps []step) {
	w, m := made(t, n, rate, unit), modelOf(n, rate, unit)
	for k, s := range steps {
		before := w.Peers()
		got, e := s.do(w)
		want, wantE := s.do(m)
		if got != want || e != wantE {
			t.Fatalf("%d, %d, %d: step %d: %s: %d %d, not %d %d", n, rate, unit, k, s.name, got, e, want, wantE)
		}
		after := w.Peers()
		if want := m.Peers(); !slices.Equal(after, want) {
			t.Fatalf("%d, %d, %d: step %d: %s: %v, not %v", n, rate, unit, k, s.name, after, want)
		}
		if e != api.OK && !slices.Equal(after, before) {
			t.Fatalf("%d, %d, %d: step %d: %s: error %d changes %v into %v", n, rate, unit, k, s.name, e, before, after)
		}
	}
}

// TestSmall holds small worlds against their models, whatever is done to them.
func TestSmall(t *testing.T) { // P73, P74, P75, P76
	steps := []step{adds(1), adds(4), tick(), crash(0), crash(1), crash(2)}
	for _, l := range samples.Lists(steps, 5) {
		if len(l) < 5 {
			continue
		}
		for _, n := range []int{1, 2, 3} {
			for _, rate := range []int{0, 1, 2, 3, 5} {
				for _, unit := range []int{1, 2, 3} {
					alike(t, n, rate, unit, l)
				}
			}
		}
	}
}

// TestLong holds worlds of all sizes against their models, for many steps, of which some are wrong.
func TestLong(t *testing.T) { // P73, P74, P75, P76
	for _, n := range []int{1, 2, 3, 5, 7, 8} {
		for _, rate := range []int{0, 1, 2, 3, 7, 8, 100, 999, 1000} {
			for _, unit := range []int{1, 2, 3, 10, 333, 1000} {
				alike(t, n, rate, unit, slices.Concat(mixed(n+rate+unit, 300, 20), mixed(n*rate*unit, 300, 1000002)))
			}
		}
	}
}

// mixed returns many steps, of all kinds, in an order that hangs on seed; what is added is less than most.
func mixed(seed, count, most int) []step {
	kinds := []func(k int) step{
		func(k int) step { return adds(k * 4001 % most) },
		func(k int) step { return adds([]int{-1, math.MinInt, math.MaxInt, 1000001}[k%4]) },
		func(k int) step { return crash(k % 8) },
		func(k int) step { return crash([]int{-1, 8, math.MinInt, math.MaxInt}[k%4]) },
	}
	var out []step
	for range count {
		seed = (seed*1103515245 + 12345) % (1 << 31)
		k := seed >> 8
		if i := k % 12; i < len(kinds) {
			out = append(out, kinds[i](k/12))
		} else {
			out = append(out, tick())
		}
	}
	return out
}

// TestNoByteIsLost: the link never rests while a byte is lacking that has not been sent, and sends no byte twice without a crash.
func TestNoByteIsLost(t *testing.T) { // P74
	for _, n := range []int{1, 2, 3, 8} {
		for _, rate := range []int{1, 2, 3, 50, 1000} {
			for _, unit := range []int{1, 3, 7, 1000} {
				w := made(t, n, rate, unit)
				for k := range 40 {
					w.Append(k * k % 13)
					left := lacking(w)
					if sent := w.Tick(); sent != min(rate, left) || lacking(w) != left-sent {
						t.Fatalf("%d, %d, %d: of %d, %d are sent, and %d are left", n, rate, unit, left, sent, lacking(w))
					}
				}
			}
		}
	}
}

// lacking returns how many bytes are yet to be sent.
func lacking(w *world.World) int {
	sum := 0
	for _, p := range w.Peers() {
		sum += p.Lag - p.Part
	}
	return sum
}

// TestShared: without a crash, each peer is done in the slot in which one who shares a link is, whatever the pieces are.
func TestShared(t *testing.T) { // P74
	for _, n := range []int{1, 2, 3, 8} {
		for _, rate := range []int{1, 2, 3, 5, 8, 100, 1000} {
			for _, unit := range []int{1, 2, 3, 7, 100, 1000} {
				for _, lag := range []int{1, 2, 3, 10, 100} {
					want, e := share.Done(samples.Same(n, lag), rate)
					if got := doneAt(made(t, n, rate, unit), lag); e != api.OK || !slices.Equal(got, want) {
						t.Fatalf("%d, %d, %d, %d: %v, not %v", n, rate, unit, lag, got, want)
					}
				}
			}
		}
	}
}

// doneAt returns in which slot each peer of w is done with lag bytes.
func doneAt(w *world.World, lag int) []int {
	w.Append(lag)
	out := make([]int, len(w.Peers()))
	for slot := 1; lacking(w) > 0; slot++ {
		w.Tick()
		for i, p := range w.Peers() {
			if p.Done && out[i] == 0 {
				out[i] = slot
			}
		}
	}
	return out
}

// TestResumed: a peer that crashes has as much, and is done as late, as a thing whose transfer does.
func TestResumed(t *testing.T) { // P74, P75
	for _, l := range samples.Lists([]bool{false, true}, 6) {
		for _, size := range []int{0, 1, 2, 5, 9} {
			for _, unit := range []int{1, 2, 3, 4, 10} {
				for _, rate := range []int{0, 1, 2, 3, 7} {
					want, e := resume.Run(size, unit, rate, l)
					w := made(t, 1, rate, unit)
					w.Append(size)
					got, crashes := watched(w, size, l)
					if e != api.OK || !slices.Equal(got, want) {
						t.Fatalf("%d, %d, %d, %v: %v, not %v", size, unit, rate, l, got, want)
					}
					latest, e := resume.Bound(size, unit, rate, crashes)
					if e == api.OK && latest <= len(l) && !w.Peers()[0].Done {
						t.Fatalf("%d, %d, %d, %v: is not done by %d", size, unit, rate, l, latest)
					}
				}
			}
		}
	}
}

// watched returns how much of size bytes peer 0 has after each slot, of which some end with a crash, and how many do.
func watched(w *world.World, size int, l []bool) ([]int, int) {
	var out []int
	crashes := 0
	for _, lost := range l {
		w.Tick()
		if lost {
			w.Crash(0)
			crashes++
		}
		p := w.Peers()[0]
		out = append(out, size-p.Lag+p.Part)
	}
	return out, crashes
}

// TestCaughtUp: one peer on its own is behind by as much as a follower is.
func TestCaughtUp(t *testing.T) { // P73, P74
	for _, a := range samples.Traces() {
		for _, rate := range []int{0, 1, 2, 3, 50, 1000} {
			for _, lag := range []int{0, 1, 4, 1000} {
				want, e := catch.Lag(a, rate, lag)
				w := made(t, 1, rate, 1)
				w.Append(lag)
				got := []int{w.Peers()[0].Lag}
				for _, n := range a {
					w.Append(n)
					w.Tick()
					got = append(got, w.Peers()[0].Lag)
				}
				if e != api.OK || !slices.Equal(got, want) {
					t.Fatalf("%v, %d, %d: %v %d, not %v", a, rate, lag, got, e, want)
				}
			}
		}
	}
}

func TestNothingPanics(t *testing.T) { // P1
	numbers := append(samples.Numbers(), 7, 8, 9, 999, 1000, 1001)
	for _, n := range numbers {
		for _, rate := range numbers {
			for _, unit := range numbers {
				right := n >= 1 && n <= 8 && rate >= 0 && rate <= 1000 && unit >= 1 && unit <= 1000
				w, e := world.New(n, rate, unit)
				if right != (e == api.OK) || right != (w != nil) || !right && e != api.ErrArg {
					t.Fatalf("%d, %d, %d: %v %d", n, rate, unit, w, e)
				}
				if right {
					askAll(t, w, n, numbers)
				}
			}
		}
	}
}

// askAll asks a world of n peers with all the numbers.
func askAll(t *testing.T, w *world.World, n int, numbers []int) {
	for _, i := range numbers {
		e := w.Append(i)
		if (e == api.ErrArg) != (i < 0) || i > 1000000 && e != api.ErrLarge {
			t.Fatalf("append %d: %d", i, e)
		}
		if e := w.Crash(i); (e == api.OK) != (i >= 0 && i < n) || e != api.OK && e != api.ErrArg {
			t.Fatalf("crash %d of %d: %d", i, n, e)
		}
		if sent := w.Tick(); sent < 0 || sent > 1000 || len(w.Peers()) != n {
			t.Fatalf("%d bytes, %v", sent, w.Peers())
		}
	}
}

// TestWorldOfNothing: a world that New has not made has no peers, and takes all calls.
func TestWorldOfNothing(t *testing.T) { // P1
	var w world.World
	for _, i := range samples.Numbers() {
		if e := w.Append(i); (e == api.OK) != (i >= 0) {
			t.Errorf("append %d: %d", i, e)
		}
		if e := w.Crash(i); e != api.ErrArg {
			t.Errorf("crash %d: %d", i, e)
		}
		if sent := w.Tick(); sent != 0 || len(w.Peers()) != 0 {
			t.Errorf("%d bytes, %v", sent, w.Peers())
		}
	}
}

// TestResultsAreNew: what Peers has answered is the caller's: neither does it reach the world, nor the world it.
func TestResultsAreNew(t *testing.T) { // P2
	for n := 1; n <= 8; n++ {
		w := made(t, n, 5, 3)
		w.Append(7)
		w.Tick()
		got, other := w.Peers(), w.Peers()
		want := slices.Clone(got)
		w.Append(1)
		w.Tick()
		if !slices.Equal(got, want) {
			t.Errorf("%d peers: the world reaches what it has answered", n)
		}
		now := w.Peers()
		spare := got[:cap(got)]
		for i := range spare {
			spare[i] = far(-5, -5)
		}
		if !slices.Equal(other, want) || !slices.Equal(w.Peers(), now) {
			t.Errorf("%d peers: results share memory", n)
		}
	}
}
