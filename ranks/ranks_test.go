package ranks_test

import (
	"math"
	"slices"
	"testing"

	"headway/api"
	"headway/ranks"
	"headway/samples"
)

// task returns a task of that period, work and deadline.
func task(period, work, due int) api.Task { return api.Task{Period: period, Work: work, Due: due} }

// same returns k, n times.
func same(n int, k api.Task) []api.Task { return slices.Repeat([]api.Task{k}, n) }

// with returns 5 tasks, the one at i replaced by k.
func with(i int, k api.Task) []api.Task {
	l := same(5, task(9, 1, 5))
	l[i] = k
	return l
}

// run is Run reckoned otherwise: the tasks, the highest first, give each of their jobs the first free slots from its release on.
func run(l []api.Task, h int) []int {
	out := samples.Same(h, -1)
	for i, k := range l {
		for release := 0; release < h; release += k.Period {
			left := k.Work
			for t := release; t < h && left > 0; t++ {
				if out[t] < 0 {
					out[t] = i
					left--
				}
			}
		}
	}
	return out
}

// response is Response by the chapter's words, from the task's own work on up; -1 if there is no such number.
func response(l []api.Task, i int) int {
	r := l[i].Work
	for r <= l[i].Due {
		sum := l[i].Work
		for _, k := range l[:i] {
			jobs := r / k.Period
			if r%k.Period > 0 {
				jobs++
			}
			sum += jobs * k.Work
		}
		if sum == r {
			return r
		}
		r = sum
	}
	return -1
}

// completed returns by when each job of task i is completed in slots, of those whose deadlines are not past them; one that never is, at the greatest number.
func completed(slots []int, k api.Task, i int) []int {
	var done []int
	got := 0
	for t, s := range slots {
		if s == i {
			got++
			if got%k.Work == 0 {
				done = append(done, t+1)
			}
		}
	}
	var out []int
	for n := 0; n*k.Period+k.Due <= len(slots); n++ {
		if n < len(done) {
			out = append(out, done[n])
		} else {
			out = append(out, math.MaxInt)
		}
	}
	return out
}

// small returns all the lists of up to 3 tasks out of some of periods up to 12.
func small() [][]api.Task {
	var tasks []api.Task
	for _, period := range []int{1, 2, 3, 4, 6, 12} {
		for _, work := range []int{1, 2, 3, 5} {
			for _, due := range []int{1, 3, 4, 6, 11} {
				if work <= due && due <= period {
					tasks = append(tasks, task(period, work, due))
				}
			}
		}
	}
	return samples.Lists(tasks, 3)
}

// full returns lists of 5 tasks, of several forms, each with its tasks begun from each of them in turn.
func full() [][]api.Task {
	var out [][]api.Task
	for _, l := range [][]api.Task{
		same(5, task(5, 1, 5)), same(5, task(60, 12, 60)), same(5, task(60, 13, 60)), same(5, task(60, 60, 60)), same(5, task(1, 1, 1)),
		{task(5, 1, 2), task(7, 1, 7), task(11, 2, 9), task(13, 2, 12), task(60, 3, 50)},
		{task(4, 1, 4), task(8, 2, 8), task(16, 3, 16), task(32, 5, 32), task(60, 9, 60)},
		{task(60, 30, 60), task(3, 1, 3), task(59, 1, 59), task(7, 1, 5), task(20, 2, 20)},
		{task(10, 3, 10), task(14, 4, 14), task(15, 4, 15), task(60, 1, 60), task(60, 1, 31)},
	} {
		for i := range l {
			out = append(out, slices.Concat(l[i:], l[:i]))
		}
	}
	return out
}

// taskCase: a list of tasks, and the error that it deserves.
type taskCase struct {
	name string
	l    []api.Task
	want api.Errno
}

func taskCases() []taskCase {
	return []taskCase{
		{"nil", nil, api.OK},
		{"empty", []api.Task{}, api.OK},
		{"empty with spare room", make([]api.Task, 0, 9), api.OK},
		{"ordinary", []api.Task{task(6, 3, 5)}, api.OK},
		{"all at the least", []api.Task{task(1, 1, 1)}, api.OK},
		{"all at the most", []api.Task{task(60, 60, 60)}, api.OK},
		{"due after its work", []api.Task{task(6, 3, 3)}, api.OK},
		{"due at the next release", []api.Task{task(6, 3, 6)}, api.OK},
		{"5 tasks", same(5, task(60, 60, 60)), api.OK},
		{"6 tasks", same(6, task(6, 3, 5)), api.ErrLarge},
		{"6 tasks ahead of their bounds", make([]api.Task, 6), api.ErrLarge},
		{"very many tasks", make([]api.Task, 5000), api.ErrLarge},
		{"a task of zeros", []api.Task{{}}, api.ErrArg},
		{"no period", []api.Task{task(0, 1, 1)}, api.ErrArg},
		{"a negative period", []api.Task{task(-1, 1, 1)}, api.ErrArg},
		{"a negative period, by which all else is in order", []api.Task{task(-1, -3, -2)}, api.ErrArg},
		{"a period too great by one", []api.Task{task(61, 3, 5)}, api.ErrArg},
		{"the least period of all", []api.Task{task(math.MinInt, 3, 5)}, api.ErrArg},
		{"the greatest period of all", []api.Task{task(math.MaxInt, 3, 5)}, api.ErrArg},
		{"no work", []api.Task{task(6, 0, 5)}, api.ErrArg},
		{"no work, and due at once", []api.Task{task(6, 0, 0)}, api.ErrArg},
		{"negative work", []api.Task{task(6, -1, 5)}, api.ErrArg},
		{"the least work of all", []api.Task{task(6, math.MinInt, 5)}, api.ErrArg},
		{"the greatest work of all", []api.Task{task(6, math.MaxInt, 5)}, api.ErrArg},
		{"due ahead of its work by one", []api.Task{task(6, 3, 2)}, api.ErrArg},
		{"due after its period by one", []api.Task{task(6, 3, 7)}, api.ErrArg},
		{"due after the greatest period by one", []api.Task{task(60, 3, 61)}, api.ErrArg},
		{"more work than its period", []api.Task{task(6, 7, 7)}, api.ErrArg},
		{"the least deadline of all", []api.Task{task(6, 3, math.MinInt)}, api.ErrArg},
		{"the greatest deadline of all", []api.Task{task(6, 3, math.MaxInt)}, api.ErrArg},
		{"a wrong period in the first of 5", with(0, task(61, 1, 5)), api.ErrArg},
		{"wrong work in the last of 5", with(4, task(9, 0, 5)), api.ErrArg},
		{"a deadline too soon in the last of 5", with(4, task(9, 2, 1)), api.ErrArg},
		{"a deadline too late in the last of 5", with(4, task(9, 1, 10)), api.ErrArg},
	}
}

func TestCheck(t *testing.T) { // P47
	for _, x := range taskCases() {
		if e := ranks.Check(x.l); e != x.want {
			t.Errorf("%s: %d, not %d", x.name, e, x.want)
		}
	}
}

// TestErrors: the list's errors come ahead of the number's, and with an error, all else is zero.
func TestErrors(t *testing.T) { // P48, P49, P50
	for _, x := range taskCases() {
		size := len(x.l)
		if x.want != api.OK {
			size = 0
		}
		if is, e := ranks.Fits(x.l); e != x.want || e != api.OK && is {
			t.Errorf("fits: %s: %v %d, not %d", x.name, is, e, x.want)
		}
		if got, e := ranks.Order(x.l); e != x.want || len(got) != size {
			t.Errorf("order: %s: %v %d, not %d", x.name, got, e, x.want)
		}
		for _, n := range []int{math.MinInt, -1, 0, len(x.l) - 1, len(x.l), len(x.l) + 1, 200, 201, math.MaxInt} {
			want, slots := x.want, n
			if want == api.OK && (n < 0 || n > 200) {
				want = api.ErrArg
			}
			if want != api.OK {
				slots = 0
			}
			if got, e := ranks.Run(x.l, n); e != want || len(got) != slots {
				t.Errorf("run: %s, %d: %v %d, not %d", x.name, n, got, e, want)
			}
			want = x.want
			if want == api.OK && (n < 0 || n >= len(x.l)) {
				want = api.ErrArg
			}
			if want == api.OK && response(x.l, n) < 0 {
				want = api.ErrOver
			}
			if r, e := ranks.Response(x.l, n); e != want || (e == api.OK) != (r > 0) || r < 0 {
				t.Errorf("response: %s, %d: %d %d, not %d", x.name, n, r, e, want)
			}
		}
	}
}

func TestResponse(t *testing.T) { // P48
	for _, x := range []struct {
		name string
		l    []api.Task
		i    int
		want int
		e    api.Errno
	}{
		{"alone", []api.Task{task(6, 3, 5)}, 0, 3, api.OK},
		{"the document's", []api.Task{task(4, 1, 4), task(6, 3, 6)}, 1, 4, api.OK},
		{"one more, and the other comes again", []api.Task{task(4, 1, 4), task(9, 4, 9)}, 1, 6, api.OK},
		{"lower tasks do not count", []api.Task{task(6, 3, 6), task(4, 1, 4), task(4, 4, 4)}, 0, 3, api.OK},
		{"lower tasks do not count, amid", []api.Task{task(6, 3, 6), task(4, 1, 4), task(4, 4, 4)}, 1, 4, api.OK},
		{"just by its deadline", []api.Task{task(4, 1, 4), task(6, 3, 4)}, 1, 4, api.OK},
		{"late by one", []api.Task{task(4, 1, 4), task(6, 3, 3)}, 1, 0, api.ErrOver},
		{"late, though within its period", []api.Task{task(5, 4, 5), task(10, 1, 4)}, 1, 0, api.ErrOver},
		{"the smallest of several", []api.Task{task(2, 1, 2), task(20, 1, 20)}, 1, 2, api.OK},
		{"three of them", []api.Task{task(7, 3, 7), task(12, 3, 12), task(20, 5, 20)}, 2, 20, api.OK},
		{"three of them, due a little sooner", []api.Task{task(7, 3, 7), task(12, 3, 12), task(20, 5, 19)}, 2, 0, api.ErrOver},
		{"others leave nothing", []api.Task{task(1, 1, 1), task(60, 1, 60)}, 1, 0, api.ErrOver},
		{"below others that are late themselves", []api.Task{task(4, 4, 4), task(4, 4, 4), task(60, 1, 60)}, 2, 0, api.ErrOver},
		{"below one that is late itself", []api.Task{task(9, 5, 9), task(60, 3, 3), task(60, 1, 60)}, 2, 9, api.OK},
		{"the most", []api.Task{task(60, 60, 60)}, 0, 60, api.OK},
		{"the most below the least", []api.Task{task(60, 1, 60), task(60, 59, 60)}, 1, 60, api.OK},
		{"the most below the least, too much by one", []api.Task{task(60, 1, 60), task(60, 60, 60)}, 1, 0, api.ErrOver},
		{"the last of 5", same(5, task(60, 12, 60)), 4, 60, api.OK},
	} {
		if got, e := ranks.Response(x.l, x.i); e != x.e || got != x.want {
			t.Errorf("%s: %d %d, not %d %d", x.name, got, e, x.want, x.e)
		}
	}
}

func TestFits(t *testing.T) { // P48
	for _, x := range []struct {
		name string
		l    []api.Task
		want bool
	}{
		{"no tasks", nil, true},
		{"alone", []api.Task{task(1, 1, 1)}, true},
		{"the document's", []api.Task{task(4, 1, 4), task(6, 3, 6)}, true},
		{"the last is late", []api.Task{task(4, 1, 4), task(6, 3, 3)}, false},
		{"one amid is late", []api.Task{task(4, 1, 4), task(6, 3, 3), task(60, 1, 60)}, false},
		{"in the wrong order", []api.Task{task(9, 5, 9), task(4, 1, 3)}, false},
		{"in the right order", []api.Task{task(4, 1, 3), task(9, 5, 9)}, true},
		{"5 that fill all the time", same(5, task(5, 1, 5)), true},
		{"5 that do not fit", same(5, task(60, 13, 60)), false},
	} {
		if got, e := ranks.Fits(x.l); e != api.OK || got != x.want {
			t.Errorf("%s: %v %d, not %v", x.name, got, e, x.want)
		}
	}
}

func TestOrder(t *testing.T) { // P49
	a, b, c, d, last := task(9, 5, 9), task(4, 1, 3), task(8, 2, 3), task(3, 3, 3), task(60, 1, 60)
	for _, x := range []struct {
		name    string
		l, want []api.Task
	}{
		{"no tasks", nil, nil},
		{"one", []api.Task{a}, []api.Task{a}},
		{"in order", []api.Task{b, a}, []api.Task{b, a}},
		{"out of order", []api.Task{a, b}, []api.Task{b, a}},
		{"by the deadline, not by the period", []api.Task{task(5, 1, 5), task(9, 1, 4)}, []api.Task{task(9, 1, 4), task(5, 1, 5)}},
		{"by the deadline, not by the work", []api.Task{task(9, 1, 5), task(9, 4, 4)}, []api.Task{task(9, 4, 4), task(9, 1, 5)}},
		{"equal deadlines keep their order", []api.Task{b, c, d}, []api.Task{b, c, d}},
		{"equal deadlines keep their order, turned", []api.Task{d, c, b}, []api.Task{d, c, b}},
		{"equal deadlines amid others", []api.Task{last, d, a, b, c}, []api.Task{d, b, c, a, last}},
		{"two that are the same", []api.Task{a, b, a, b}, []api.Task{b, b, a, a}},
	} {
		if got, e := ranks.Order(x.l); e != api.OK || !slices.Equal(got, x.want) {
			t.Errorf("%s: %v %d, not %v", x.name, got, e, x.want)
		}
	}
}

func TestRun(t *testing.T) { // P50
	for _, x := range []struct {
		name string
		l    []api.Task
		h    int
		want []int
	}{
		{"no tasks and no slots", nil, 0, nil},
		{"no tasks", nil, 3, []int{-1, -1, -1}},
		{"no slots", []api.Task{task(4, 1, 4)}, 0, nil},
		{"one slot", []api.Task{task(4, 1, 4)}, 1, []int{0}},
		{"one task", []api.Task{task(3, 2, 3)}, 7, []int{0, 0, -1, 0, 0, -1, 0}},
		{"two tasks", []api.Task{task(4, 1, 4), task(6, 3, 6)}, 12, []int{0, 1, 1, 1, 0, -1, 1, 1, 0, 1, -1, -1}},
		{"a higher task preempts", []api.Task{task(3, 1, 3), task(8, 4, 8)}, 8, []int{0, 1, 1, 0, 1, 1, 0, -1}},
		{"a lower task with an earlier deadline does not", []api.Task{task(9, 5, 9), task(4, 1, 3)}, 9, []int{0, 0, 0, 0, 0, 1, 1, -1, 1}},
		{"late jobs are completed all the same", []api.Task{task(12, 9, 12), task(4, 1, 1)}, 14, []int{0, 0, 0, 0, 0, 0, 0, 0, 0, 1, 1, 1, 0, 0}},
		{"jobs that pile up", []api.Task{task(6, 4, 6), task(2, 1, 2)}, 20, []int{0, 0, 0, 0, 1, 1, 0, 0, 0, 0, 1, 1, 0, 0, 0, 0, 1, 1, 0, 0}},
		{"the first one never rests", []api.Task{task(1, 1, 1), task(4, 1, 4)}, 5, []int{0, 0, 0, 0, 0}},
		{"the most slots", []api.Task{task(60, 60, 60)}, 200, samples.Same(200, 0)},
		{"the last of 5", append(same(4, task(60, 1, 60)), task(60, 56, 60)), 61, append(append([]int{0, 1, 2, 3}, samples.Same(56, 4)...), 0)},
	} {
		if got, e := ranks.Run(x.l, x.h); e != api.OK || !slices.Equal(got, x.want) {
			t.Errorf("%s: %v %d, not %v", x.name, got, e, x.want)
		}
	}
}

// ask holds all answers about l against those that are reckoned otherwise, and Response and Fits against the schedule of the slots ahead of h: a task's first job is its slowest one.
func ask(t *testing.T, l []api.Task, h int) {
	slots := run(l, h)
	if got, e := ranks.Run(l, h); e != api.OK || !slices.Equal(got, slots) {
		t.Fatalf("run: %v: %v %d, not %v", l, got, e, slots)
	}
	fit, met := true, true
	for i, k := range l {
		want, wantE := response(l, i), api.OK
		if want < 0 {
			want, wantE, fit = 0, api.ErrOver, false
		}
		if r, e := ranks.Response(l, i); e != wantE || r != want {
			t.Fatalf("response: %v, %d: %d %d, not %d", l, i, r, e, want)
		}
		done := completed(slots, k, i)
		if first := done[0]; wantE == api.OK && first != want || wantE != api.OK && first <= k.Due {
			t.Fatalf("response: %v, %d: %d %d, but the first job is done by %d", l, i, want, wantE, first)
		}
		for n, at := range done {
			met = met && at <= n*k.Period+k.Due
		}
	}
	if is, e := ranks.Fits(l); e != api.OK || is != fit || is != met {
		t.Fatalf("fits: %v: %v %d, not %v; met: %v", l, is, e, fit, met)
	}
}

func TestAll(t *testing.T) { // P48, P50
	for _, l := range small() {
		ask(t, l, 24)
	}
	for _, l := range full() {
		ask(t, l, 200)
	}
}

// TestOrderIsBest: sorted, the tasks fit if they do in the order that they have.
func TestOrderIsBest(t *testing.T) { // P48, P49
	better := 0
	for _, l := range append(small(), full()...) {
		sorted, e := ranks.Order(l)
		if e != api.OK || len(sorted) != len(l) || !slices.IsSortedFunc(sorted, func(j, k api.Task) int { return j.Due - k.Due }) {
			t.Fatalf("%v: %v %d", l, sorted, e)
		}
		before, _ := ranks.Fits(l)
		after, _ := ranks.Fits(sorted)
		if before && !after {
			t.Fatalf("%v fit, and %v do not", l, sorted)
		}
		if after && !before {
			better++
		}
	}
	if better == 0 {
		t.Error("no order ever helps")
	}
}

func TestNothingPanics(t *testing.T) { // P1
	for _, period := range samples.Numbers() {
		for _, work := range samples.Numbers() {
			for _, due := range samples.Numbers() {
				l := []api.Task{task(period, work, due), task(9, 1, 9)}
				want := ranks.Check(l)
				if is, e := ranks.Fits(l); e != want || e != api.OK && is {
					t.Fatalf("fits: %v: %v %d, not %d", l, is, e, want)
				}
				if got, e := ranks.Order(l); e != want || e == api.OK && len(got) != 2 || e != api.OK && len(got) != 0 {
					t.Fatalf("order: %v: %v %d, not %d", l, got, e, want)
				}
				for _, n := range samples.Numbers() {
					if r, e := ranks.Response(l, n); want != api.OK && e != want || (e == api.OK) != (r > 0) || r < 0 {
						t.Fatalf("response: %v, %d: %d %d, not %d", l, n, r, e, want)
					}
					if got, e := ranks.Run(l, n); want != api.OK && e != want || e == api.OK && len(got) != n || e != api.OK && len(got) != 0 {
						t.Fatalf("run: %v, %d: %v %d, not %d", l, n, got, e, want)
					}
				}
			}
		}
	}
}

func TestArgumentsStay(t *testing.T) { // P2
	room := []api.Task{task(9, 5, 9), task(4, 1, 3), task(2, 2, 2), task(-7, -7, -7)}
	before := slices.Clone(room)
	l := room[:2]
	want := []api.Task{task(4, 1, 3), task(9, 5, 9)}
	got, e := ranks.Order(l)
	if e != api.OK || !slices.Equal(got, want) {
		t.Errorf("the spare room counts: %v %d", got, e)
	}
	again, _ := ranks.Order(l)
	got = got[:cap(got)]
	for i := range got {
		got[i] = task(-5, -5, -5)
	}
	if !slices.Equal(again, want) {
		t.Errorf("results share memory: %v", again)
	}
	if fault := samples.Shares(nil, func() ([]int, api.Errno) { return ranks.Run(l, 9) }); fault != "" {
		t.Error(fault)
	}
	if r, e := ranks.Response(l, 0); e != api.OK || r != 5 {
		t.Errorf("response: %d %d", r, e)
	}
	if _, e := ranks.Response(l, 2); e != api.ErrArg {
		t.Errorf("the spare room counts: %d", e)
	}
	if is, e := ranks.Fits(want); !is || e != api.OK {
		t.Errorf("fits: %v %d", is, e)
	}
	if e := ranks.Check(l); e != api.OK {
		t.Errorf("the spare room counts: %d", e)
	}
	if !slices.Equal(room, before) {
		t.Errorf("an argument has changed: %v", room)
	}
}
