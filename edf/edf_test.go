package edf_test

import (
	"cmp"
	"math"
	"slices"
	"testing"

	"headway/api"
	"headway/edf"
	"headway/samples"
)

// job returns a job of that release, work and deadline.
func job(at, work, due int) api.Job { return api.Job{At: at, Work: work, Due: due} }

// same returns j, n times.
func same(n int, j api.Job) []api.Job { return slices.Repeat([]api.Job{j}, n) }

// with returns 12 jobs, the one at i replaced by j.
func with(i int, j api.Job) []api.Job {
	l := same(12, job(1, 2, 9))
	l[i] = j
	return l
}

// whole is the schedule without its end: the jobs in the order of their deadlines each take the first free slots from their release on, which is the same as that no slot is given to a job while one that goes ahead of it waits.
func whole(l []api.Job) []int {
	order := samples.Slope(len(l), 0, 1)
	slices.SortStableFunc(order, func(i, k int) int { return cmp.Compare(l[i].Due, l[k].Due) })
	var out []int
	for _, i := range order {
		for t, left := 0, l[i].Work; left > 0; t++ {
			if t == len(out) {
				out = append(out, -1)
			}
			if t >= l[i].At && out[t] < 0 {
				out[t] = i
				left--
			}
		}
	}
	return out
}

// run is Run by the whole schedule.
func run(l []api.Job) []int {
	all := whole(l)
	return all[:min(200, len(all))]
}

// late is Late by the whole schedule; -1 if no job is late.
func late(l []api.Job) int {
	all := whole(l)
	for i, j := range l {
		done := 0
		for t, k := range all {
			if k == i {
				done = t + 1
			}
		}
		if done > j.Due {
			return i
		}
	}
	return -1
}

// fits is Fits by the chapter's words, for all times up to the last one.
func fits(l []api.Job, last int) bool {
	for s := 0; s <= last; s++ {
		for t := s; t <= last; t++ {
			sum := 0
			for _, j := range l {
				if j.At >= s && j.Due <= t {
					sum += j.Work
				}
			}
			if sum > t-s {
				return false
			}
		}
	}
	return true
}

// can reports whether any schedule from slot t on meets all deadlines, where left is the work that is left of each job.
func can(l []api.Job, left []int, t int) bool {
	open := false
	for i, j := range l {
		if left[i] > 0 && j.Due <= t {
			return false
		}
		open = open || left[i] > 0
	}
	if !open {
		return true
	}
	for i, j := range l {
		if left[i] == 0 || j.At > t {
			continue
		}
		left[i]--
		met := can(l, left, t+1)
		left[i]++
		if met {
			return true
		}
	}
	return can(l, left, t+1)
}

// small returns all the lists of up to 3 jobs out of some that are due by 7.
func small() [][]api.Job {
	var jobs []api.Job
	for _, at := range []int{0, 1, 3} {
		for _, work := range []int{1, 2, 4} {
			for _, due := range []int{1, 2, 4, 5, 7} {
				if due > at {
					jobs = append(jobs, job(at, work, due))
				}
			}
		}
	}
	return samples.Lists(jobs, 3)
}

// long returns lists of 12 jobs, of several forms: some that just fit, some that do not, and some that go on past the last slot.
func long() [][]api.Job {
	out := [][]api.Job{
		same(12, job(0, 16, 200)), same(12, job(0, 17, 200)), same(12, job(0, 200, 200)), same(12, job(199, 200, 200)),
	}
	for _, step := range []int{0, 1, 5, 16} {
		for _, work := range []func(i int) int{
			func(i int) int { return 1 + i%3 },
			func(i int) int { return 4 + i },
			func(i int) int { return 1 + i*i*7%30 },
		} {
			for _, due := range []func(i int) int{
				func(i int) int { return 200 - i },
				func(i int) int { return i*step + 1 + i*37%20 },
				func(i int) int { return i*step + 2*work(i) },
				func(i int) int { return i*step + work(i) },
			} {
				var l []api.Job
				for i := range 12 {
					l = append(l, job(i*step, work(i), min(due(i), 200)))
				}
				backward := slices.Clone(l)
				slices.Reverse(backward)
				out = append(out, l, backward)
			}
		}
	}
	return out
}

// jobCase: a list of jobs, and the error that it deserves.
type jobCase struct {
	name string
	l    []api.Job
	want api.Errno
}

func jobCases() []jobCase {
	return []jobCase{
		{"nil", nil, api.OK},
		{"empty", []api.Job{}, api.OK},
		{"empty with spare room", make([]api.Job, 0, 13), api.OK},
		{"ordinary", []api.Job{job(1, 3, 9)}, api.OK},
		{"all at the least", []api.Job{job(0, 1, 1)}, api.OK},
		{"all at the most", []api.Job{job(199, 200, 200)}, api.OK},
		{"more work than time", []api.Job{job(3, 9, 4)}, api.OK},
		{"12 jobs", same(12, job(0, 200, 200)), api.OK},
		{"in no order", []api.Job{job(9, 1, 10), job(0, 5, 9), job(3, 2, 200)}, api.OK},
		{"13 jobs", same(13, job(1, 3, 9)), api.ErrLarge},
		{"13 jobs ahead of their bounds", make([]api.Job, 13), api.ErrLarge},
		{"very many jobs", make([]api.Job, 5000), api.ErrLarge},
		{"a job of zeros", []api.Job{{}}, api.ErrArg},
		{"a negative release", []api.Job{job(-1, 3, 9)}, api.ErrArg},
		{"the least release of all", []api.Job{job(math.MinInt, 3, 9)}, api.ErrArg},
		{"the greatest release of all", []api.Job{job(math.MaxInt, 3, 9)}, api.ErrArg},
		{"due at its release", []api.Job{job(9, 3, 9)}, api.ErrArg},
		{"due at its release, the first time", []api.Job{job(0, 3, 0)}, api.ErrArg},
		{"due ahead of its release", []api.Job{job(9, 3, 8)}, api.ErrArg},
		{"released and due at the last time", []api.Job{job(200, 1, 200)}, api.ErrArg},
		{"due too late by one", []api.Job{job(1, 3, 201)}, api.ErrArg},
		{"released and due too late", []api.Job{job(200, 1, 201)}, api.ErrArg},
		{"the least deadline of all", []api.Job{job(1, 3, math.MinInt)}, api.ErrArg},
		{"the greatest deadline of all", []api.Job{job(1, 3, math.MaxInt)}, api.ErrArg},
		{"no work", []api.Job{job(1, 0, 9)}, api.ErrArg},
		{"negative work", []api.Job{job(1, -1, 9)}, api.ErrArg},
		{"too much work by one", []api.Job{job(1, 201, 9)}, api.ErrArg},
		{"the least work of all", []api.Job{job(1, math.MinInt, 9)}, api.ErrArg},
		{"the greatest work of all", []api.Job{job(1, math.MaxInt, 9)}, api.ErrArg},
		{"a wrong release in the first of 12", with(0, job(-1, 2, 9)), api.ErrArg},
		{"a wrong deadline in the last of 12", with(11, job(1, 2, 201)), api.ErrArg},
		{"wrong work in the last of 12", with(11, job(1, 0, 9)), api.ErrArg},
		{"due at its release in the last of 12", with(11, job(9, 2, 9)), api.ErrArg},
	}
}

func TestCheck(t *testing.T) { // P43
	for _, x := range jobCases() {
		if e := edf.Check(x.l); e != x.want {
			t.Errorf("%s: %d, not %d", x.name, e, x.want)
		}
	}
}

// TestErrors: with an error, all else is zero.
func TestErrors(t *testing.T) { // P44, P45, P46
	for _, x := range jobCases() {
		got, e := edf.Run(x.l)
		if e != x.want || (e == api.OK) != (len(got) > 0) && len(x.l) > 0 || len(x.l) == 0 && len(got) > 0 {
			t.Errorf("run: %s: %v %d, not %d", x.name, got, e, x.want)
		}
		want := x.want
		if want == api.OK && late(x.l) < 0 {
			want = api.ErrNone
		}
		if i, e := edf.Late(x.l); e != want || e != api.OK && i != 0 {
			t.Errorf("late: %s: %d %d, not %d", x.name, i, e, want)
		}
		if is, e := edf.Fits(x.l); e != x.want || e != api.OK && is {
			t.Errorf("fits: %s: %v %d, not %d", x.name, is, e, x.want)
		}
	}
}

func TestRun(t *testing.T) { // P44
	for _, x := range []struct {
		name string
		l    []api.Job
		want []int
	}{
		{"no jobs", nil, nil},
		{"one job", []api.Job{job(0, 2, 9)}, []int{0, 0}},
		{"one job, later", []api.Job{job(2, 1, 9)}, []int{-1, -1, 0}},
		{"the document's", []api.Job{job(0, 3, 9), job(1, 1, 4)}, []int{0, 1, 0, 0}},
		{"a later deadline does not preempt", []api.Job{job(0, 3, 9), job(1, 1, 10)}, []int{0, 0, 0, 1}},
		{"an equal deadline of a greater index does not preempt", []api.Job{job(0, 3, 9), job(1, 1, 9)}, []int{0, 0, 0, 1}},
		{"an equal deadline of a smaller index preempts", []api.Job{job(1, 1, 9), job(0, 3, 9)}, []int{1, 0, 1, 1}},
		{"of equal deadlines, the smallest index", []api.Job{job(0, 1, 5), job(0, 2, 4), job(0, 1, 4)}, []int{1, 1, 2, 0}},
		{"by the deadline, not by the work", []api.Job{job(0, 1, 9), job(0, 3, 8)}, []int{1, 1, 1, 0}},
		{"by the deadline, not by the slack", []api.Job{job(0, 8, 9), job(0, 1, 8)}, []int{1, 0, 0, 0, 0, 0, 0, 0, 0}},
		{"a rest amid", []api.Job{job(5, 1, 6), job(0, 2, 9)}, []int{1, 1, -1, -1, -1, 0}},
		{"a job within a job within a job", []api.Job{job(0, 3, 20), job(1, 3, 15), job(2, 2, 9)}, []int{0, 1, 2, 2, 1, 1, 0, 0}},
		{"a late job is executed to its end", []api.Job{job(0, 4, 1)}, []int{0, 0, 0, 0}},
		{"a late job keeps its place", []api.Job{job(0, 3, 1), job(0, 1, 2)}, []int{0, 0, 0, 1}},
		{"a late job waits behind an earlier deadline", []api.Job{job(0, 2, 2), job(0, 2, 3), job(0, 1, 1)}, []int{2, 0, 0, 1, 1}},
		{"the first slot alone", []api.Job{job(0, 1, 1)}, []int{0}},
		{"the last slot alone", []api.Job{job(199, 1, 200)}, append(samples.Same(199, -1), 0)},
		{"no more than the last slot", []api.Job{job(199, 200, 200)}, append(samples.Same(199, -1), 0)},
		{"all slots", []api.Job{job(0, 200, 200)}, samples.Same(200, 0)},
		{"all but one", []api.Job{job(0, 199, 200)}, samples.Same(199, 0)},
		{"the first slot is free", []api.Job{job(1, 200, 200)}, append([]int{-1}, samples.Same(199, 0)...)},
		{"the second has no slot left", []api.Job{job(0, 200, 200), job(0, 200, 200)}, samples.Same(200, 0)},
		{"one in the last slot, amid another", []api.Job{job(0, 200, 200), job(198, 1, 199)}, append(append(samples.Same(198, 0), 1), 0)},
	} {
		if got, e := edf.Run(x.l); e != api.OK || !slices.Equal(got, x.want) {
			t.Errorf("%s: %v %d, not %v", x.name, got, e, x.want)
		}
	}
}

func TestLate(t *testing.T) { // P45
	for _, x := range []struct {
		name string
		l    []api.Job
		want int
		e    api.Errno
	}{
		{"no jobs", nil, 0, api.ErrNone},
		{"just in time", []api.Job{job(2, 3, 5)}, 0, api.ErrNone},
		{"late by one", []api.Job{job(2, 4, 5)}, 0, api.OK},
		{"the second", []api.Job{job(0, 2, 2), job(0, 1, 2)}, 1, api.OK},
		{"the smallest index, though it is late last", []api.Job{job(0, 9, 9), job(0, 5, 3)}, 0, api.OK},
		{"the smallest index, though it is late by less", []api.Job{job(5, 1, 9), job(0, 3, 2), job(0, 3, 1)}, 1, api.OK},
		{"the last of 12", append(same(11, job(0, 1, 11)), job(0, 1, 11)), 11, api.OK},
		{"12 in time", append(same(11, job(0, 1, 11)), job(0, 1, 12)), 0, api.ErrNone},
		{"preempted, and in time", []api.Job{job(0, 3, 4), job(1, 1, 2)}, 0, api.ErrNone},
		{"preempted, and late", []api.Job{job(0, 3, 3), job(1, 1, 2)}, 0, api.OK},
		{"in time for the last time", []api.Job{job(0, 200, 200)}, 0, api.ErrNone},
		{"not complete in any slot", []api.Job{job(1, 200, 200)}, 0, api.OK},
		{"not begun in any slot", []api.Job{job(0, 200, 200), job(0, 1, 200)}, 1, api.OK},
		{"in the last slot", []api.Job{job(0, 199, 200), job(199, 1, 200)}, 0, api.ErrNone},
	} {
		if got, e := edf.Late(x.l); e != x.e || got != x.want {
			t.Errorf("%s: %d %d, not %d %d", x.name, got, e, x.want, x.e)
		}
	}
}

func TestFits(t *testing.T) { // P46
	for _, x := range []struct {
		name string
		l    []api.Job
		want bool
	}{
		{"no jobs", nil, true},
		{"just as much as there is time", []api.Job{job(2, 3, 5)}, true},
		{"too much by one", []api.Job{job(2, 4, 5)}, false},
		{"too much together", []api.Job{job(0, 2, 2), job(0, 1, 2)}, false},
		{"a deadline ahead of another's release", []api.Job{job(0, 1, 1), job(5, 1, 6)}, true},
		{"of two that do not lie within one another", []api.Job{job(0, 2, 4), job(2, 4, 6)}, true},
		{"of two that do not lie within one another, too much", []api.Job{job(0, 3, 4), job(2, 4, 6)}, false},
		{"too much amid others", []api.Job{job(0, 1, 20), job(5, 2, 8), job(6, 2, 8), job(9, 1, 20)}, false},
		{"as much as there is, amid others", []api.Job{job(0, 1, 20), job(5, 2, 8), job(6, 1, 8), job(9, 1, 20)}, true},
		{"a release that is not the deadline's own job's", []api.Job{job(3, 1, 9), job(4, 6, 10)}, true},
		{"a release that is not the deadline's own job's, too much", []api.Job{job(3, 2, 9), job(4, 6, 10)}, false},
		{"all the time", []api.Job{job(0, 200, 200)}, true},
		{"all the time but one", []api.Job{job(1, 200, 200)}, false},
		{"12 that fill all but 8", same(12, job(0, 16, 200)), true},
		{"12 that need 4 more", same(12, job(0, 17, 200)), false},
		{"the most", same(12, job(0, 200, 200)), false},
	} {
		if got, e := edf.Fits(x.l); e != api.OK || got != x.want {
			t.Errorf("%s: %v %d, not %v", x.name, got, e, x.want)
		}
	}
}

// ask holds all answers about l, whose jobs are due by last, against those that are reckoned otherwise.
func ask(t *testing.T, l []api.Job, last int) (fit bool) {
	want := run(l)
	if got, e := edf.Run(l); e != api.OK || !slices.Equal(got, want) {
		t.Fatalf("run: %v: %v %d, not %v", l, got, e, want)
	}
	first, wantE := late(l), api.OK
	if first < 0 {
		first, wantE = 0, api.ErrNone
	}
	if i, e := edf.Late(l); e != wantE || i != first {
		t.Fatalf("late: %v: %d %d, not %d %d", l, i, e, first, wantE)
	}
	fit = fits(l, last)
	if is, e := edf.Fits(l); e != api.OK || is != fit {
		t.Fatalf("fits: %v: %v %d, not %v", l, is, e, fit)
	}
	return fit
}

func TestLong(t *testing.T) { // P44, P45, P46
	seen := map[bool]int{}
	for _, l := range long() {
		seen[ask(t, l, 200)]++
	}
	if seen[true] < 9 || seen[false] < 9 {
		t.Errorf("too few lists of a kind: %v", seen)
	}
}

// TestMeetsWhatCanBeMet: a job is late just if the demand test fails, and just if no schedule at all has none late.
func TestMeetsWhatCanBeMet(t *testing.T) { // P44, P45, P46
	for _, l := range small() {
		fit := ask(t, l, 7)
		left := make([]int, len(l))
		for i, j := range l {
			left[i] = j.Work
		}
		_, e := edf.Late(l)
		if met := can(l, left, 0); met != fit || met != (e == api.ErrNone) {
			t.Fatalf("%v: can be met: %v, fits: %v, late: %d", l, met, fit, e)
		}
	}
}

func TestNothingPanics(t *testing.T) { // P1
	numbers := append(samples.Numbers(), 199, 200, 201)
	for _, at := range numbers {
		for _, work := range numbers {
			for _, due := range numbers {
				l := []api.Job{job(at, work, due), job(0, 1, 9)}
				want := edf.Check(l)
				if got, e := edf.Run(l); e != want || (e == api.OK) != (len(got) > 0) || len(got) > 200 {
					t.Fatalf("run: %v: %v %d, not %d", l, got, e, want)
				}
				if is, e := edf.Fits(l); e != want || e != api.OK && is {
					t.Fatalf("fits: %v: %v %d, not %d", l, is, e, want)
				}
				if i, e := edf.Late(l); e != want && (want != api.OK || e != api.ErrNone) || e != api.OK && i != 0 {
					t.Fatalf("late: %v: %d %d, not %d", l, i, e, want)
				}
			}
		}
	}
}

func TestArgumentsStay(t *testing.T) { // P2
	room := []api.Job{job(1, 3, 9), job(2, 1, 4), job(2, 9, 3), job(-7, -7, -7)}
	before := slices.Clone(room)
	l := room[:2]
	if got, e := edf.Run(l); e != api.OK || !slices.Equal(got, []int{-1, 0, 1, 0, 0}) {
		t.Errorf("the spare room counts: %v %d", got, e)
	}
	if fault := samples.Shares(nil, func() ([]int, api.Errno) { return edf.Run(l) }); fault != "" {
		t.Error(fault)
	}
	if i, e := edf.Late(l); e != api.ErrNone {
		t.Errorf("the spare room counts: %d %d", i, e)
	}
	if is, e := edf.Fits(l); !is || e != api.OK {
		t.Errorf("the spare room counts: %v %d", is, e)
	}
	if e := edf.Check(l); e != api.OK {
		t.Errorf("the spare room counts: %d", e)
	}
	if !slices.Equal(room, before) {
		t.Errorf("an argument has changed: %v", room)
	}
}
