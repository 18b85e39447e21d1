package fifo_test

import (
	"math"
	"slices"
	"testing"

	"headway/api"
	"headway/bucket"
	"headway/fifo"
	"headway/samples"
)

// run is Run by the chapter's words, time by time: the first packet that is not done is served if it is there.
func run(l []api.Packet) []int {
	var out []int
	served := 0
	for now := 0; len(out) < len(l); now++ {
		p := l[len(out)]
		if p.At > now {
			continue
		}
		served++
		if served == p.Size {
			out, served = append(out, now+1), 0
		}
	}
	return out
}

// count is Count by the chapter's words, out of when each packet is done.
func count(l []api.Packet, done []int, t int) int {
	n := 0
	for i, p := range l {
		come, completed := p.At <= t, done[i] <= t
		if come && !completed {
			n++
		}
	}
	return n
}

func TestRun(t *testing.T) { // P34
	for _, x := range []struct {
		name string
		l    []api.Packet
		want []int
	}{
		{"no packets", nil, nil},
		{"no packets with spare room", make([]api.Packet, 0, 9), nil},
		{"the document's", []api.Packet{{Size: 3}, {At: 1, Size: 2}}, []int{3, 5}},
		{"the document's, and one after a rest", []api.Packet{{Size: 3}, {At: 1, Size: 2}, {At: 9, Size: 1}}, []int{3, 5, 10}},
		{"the least", []api.Packet{{Size: 1}}, []int{1}},
		{"the greatest", []api.Packet{{At: 200, Size: 1000, Flow: 7}}, []int{1200}},
		{"not before it comes", []api.Packet{{At: 4, Size: 2}}, []int{6}},
		{"just as the one before it is done", []api.Packet{{Size: 3}, {At: 3, Size: 2}}, []int{3, 5}},
		{"one time after the one before it is done", []api.Packet{{Size: 3}, {At: 4, Size: 2}}, []int{3, 6}},
		{"one time before the one before it is done", []api.Packet{{Size: 3}, {At: 2, Size: 2}}, []int{3, 5}},
		{"two at one time", []api.Packet{{At: 2, Size: 3}, {At: 2, Size: 1}}, []int{5, 6}},
		{"the shorter does not go ahead", []api.Packet{{Size: 9}, {Size: 1}, {At: 1, Size: 1}}, []int{9, 10, 11}},
		{"the flows share the server", []api.Packet{{Size: 2, Flow: 5}, {Size: 2, Flow: 1}}, []int{2, 4}},
		{"a rest, and waiting again", []api.Packet{{Size: 1}, {At: 5, Size: 4}, {At: 6, Size: 4}}, []int{1, 9, 13}},
		{"the last time", []api.Packet{{At: 199, Size: 5}, {At: 200, Size: 5}}, []int{204, 209}},
		{"60 of the greatest at once", samples.SamePackets(60, api.Packet{At: 200, Size: 1000}), samples.Slope(60, 1200, 1000)},
		{"60 of the least at once", samples.SamePackets(60, api.Packet{Size: 1}), samples.Slope(60, 1, 1)},
	} {
		if got, e := fifo.Run(x.l); e != api.OK || !slices.Equal(got, x.want) {
			t.Errorf("%s: %v %d, not %v", x.name, got, e, x.want)
		}
	}
}

func TestCount(t *testing.T) { // P35
	l := []api.Packet{{At: 1, Size: 3}, {At: 2, Size: 2}, {At: 2, Size: 1}, {At: 9, Size: 1}}
	// They are done at 4, 6, 7 and 10.
	for now, want := range []int{0, 1, 3, 3, 2, 2, 1, 0, 0, 1, 0, 0} {
		if n, e := fifo.Count(l, now); n != want || e != api.OK {
			t.Errorf("at %d: %d %d, not %d", now, n, e, want)
		}
	}
	many := samples.SamePackets(60, api.Packet{At: 200, Size: 1000})
	for _, x := range []struct {
		name string
		l    []api.Packet
		t    int
		want int
	}{
		{"no packets", nil, 0, 0},
		{"before all time", []api.Packet{{Size: 1}}, -1, 0},
		{"long before all time", []api.Packet{{Size: 1}}, math.MinInt, 0},
		{"long after all", []api.Packet{{Size: 1}}, math.MaxInt, 0},
		{"at time 0, as it comes", []api.Packet{{Size: 1}}, 0, 1},
		{"just done", []api.Packet{{Size: 1}}, 1, 0},
		{"before they come", many, 199, 0},
		{"all at once", many, 200, 60},
		{"before the first is done", many, 1199, 60},
		{"as the first is done", many, 1200, 59},
		{"before the last is done", many, 60199, 1},
		{"as the last is done", many, 60200, 0},
		{"past the time by which all come", []api.Packet{{At: 200, Size: 1000}}, 1199, 1},
	} {
		if n, e := fifo.Count(x.l, x.t); n != x.want || e != api.OK {
			t.Errorf("%s: %d %d, not %d", x.name, n, e, x.want)
		}
	}
}

func TestAll(t *testing.T) { // P34, P35
	for _, l := range samples.SmallQueues() {
		want := run(l)
		if got, e := fifo.Run(l); e != api.OK || !slices.Equal(got, want) {
			t.Fatalf("%v: %v %d, not %v", l, got, e, want)
		}
		for now := -1; now <= 34; now++ {
			if n, e := fifo.Count(l, now); n != count(l, want, now) || e != api.OK {
				t.Fatalf("%v at %d: %d %d, not %d", l, now, n, e, count(l, want, now))
			}
		}
	}
}

func TestLong(t *testing.T) { // P34, P35
	for _, l := range samples.LongQueues() {
		want := run(l)
		if got, e := fifo.Run(l); e != api.OK || !slices.Equal(got, want) {
			t.Fatalf("%v: %v %d, not %v", l, got, e, want)
		}
		for i, p := range l {
			for _, now := range []int{p.At - 1, p.At, p.At + 1, want[i] - 1, want[i], want[i] + 1} {
				if n, e := fifo.Count(l, now); n != count(l, want, now) || e != api.OK {
					t.Fatalf("%v at %d: %d %d, not %d", l, now, n, e, count(l, want, now))
				}
			}
		}
	}
}

// TestCountsAddUp: all that are there, time by time, are as many as the times that each packet is there.
func TestCountsAddUp(t *testing.T) { // P34, P35
	for _, l := range samples.SmallQueues() {
		done, _ := fifo.Run(l)
		times, counts := 0, 0
		for i, p := range l {
			times += done[i] - p.At
		}
		for now := range 40 {
			n, _ := fifo.Count(l, now)
			counts += n
		}
		if counts != times {
			t.Fatalf("%v, done at %v: %d in all, not %d", l, done, counts, times)
		}
	}
}

func TestErrors(t *testing.T) { // P34, P35
	for _, x := range samples.QueueCases() {
		size := 0
		if x.Want == api.OK {
			size = len(x.L)
		}
		if got, e := fifo.Run(x.L); e != x.Want || len(got) != size {
			t.Errorf("run: %s: %v %d, not %d", x.Name, got, e, x.Want)
		}
		for _, now := range []int{math.MinInt, -1, 0, 3, 200, 201, math.MaxInt} {
			if n, e := fifo.Count(x.L, now); e != x.Want || n > size {
				t.Errorf("count: %s at %d: %d %d, not %d", x.Name, now, n, e, x.Want)
			}
		}
	}
}

func TestNothingPanics(t *testing.T) { // P1
	for _, at := range samples.Numbers() {
		for _, size := range samples.Numbers() {
			for _, flow := range samples.Numbers() {
				p := api.Packet{At: at, Size: size, Flow: flow}
				l := []api.Packet{p, p}
				want := bucket.Packets(l)
				if got, e := fifo.Run(l); e != want || (e == api.OK) != (len(got) == 2) || e != api.OK && len(got) != 0 {
					t.Fatalf("run of %v: %v %d, not %d", l, got, e, want)
				}
				for _, now := range samples.Numbers() {
					if n, e := fifo.Count(l, now); e != want || e != api.OK && n != 0 {
						t.Fatalf("count of %v at %d: %d %d, not %d", l, now, n, e, want)
					}
				}
			}
		}
	}
	if got, e := fifo.Run(make([]api.Packet, 5000)); e != api.ErrLarge || len(got) != 0 {
		t.Errorf("%v %d", got, e)
	}
}

func TestArgumentsStay(t *testing.T) { // P2
	room := []api.Packet{{Size: 3}, {At: 1, Size: 2}, {At: 9, Size: 1}, {At: 2, Size: 9}, {Flow: -7}}
	before := slices.Clone(room)
	want := []int{3, 5, 10}
	got, e := fifo.Run(room[:3])
	if e != api.OK || !slices.Equal(got, want) {
		t.Errorf("the spare room counts: %v %d", got, e)
	}
	other, _ := fifo.Run(room[:3])
	got = got[:cap(got)]
	for i := range got {
		got[i] = -5
	}
	if !slices.Equal(other, want) {
		t.Errorf("results share memory: %v", other)
	}
	if n, e := fifo.Count(room[:3], 2); n != 2 || e != api.OK {
		t.Errorf("the spare room counts: %d %d", n, e)
	}
	if !slices.Equal(room, before) {
		t.Errorf("an argument has changed: %v", room)
	}
}
