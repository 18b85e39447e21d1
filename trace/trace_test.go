package trace_test

import (
	"slices"
	"testing"

	"headway/api"
	"headway/conv"
	"headway/curve"
	"headway/deconv"
	"headway/samples"
	"headway/trace"
)

// sum is the cumulative curve of a, each value added up anew.
func sum(a []int) []int {
	return samples.Values(len(a)+1, func(t int) int {
		all := 0
		for _, n := range a[:t] {
			all += n
		}
		return all
	})
}

// fits is Fits by the chapter's words.
func fits(f, limit []int) bool {
	for t := range f {
		for s := 0; s <= t; s++ {
			if f[t]-f[s] > limit[t-s] {
				return false
			}
		}
	}
	return true
}

// env is Env by the words of deconvolution.
func env(f []int) []int {
	return samples.Values(len(f), func(t int) int {
		most := 0
		for u := 0; t+u < len(f); u++ {
			most = max(most, f[t+u]-f[u])
		}
		return most
	})
}

func TestCheck(t *testing.T) { // P21
	for _, x := range samples.TraceCases() {
		if e := trace.Check(x.A); e != x.Want {
			t.Errorf("%s: check: %d, not %d", x.Name, e, x.Want)
		}
		f, e := trace.Sum(x.A)
		if e != x.Want || (e == api.OK) != (len(f) > 0) {
			t.Errorf("%s: sum: %v %d, not %d", x.Name, f, e, x.Want)
		}
	}
}

func TestSum(t *testing.T) { // P21
	for _, x := range []struct {
		name    string
		a, want []int
	}{
		{"the document's", []int{2, 0, 3}, []int{0, 2, 2, 5}},
		{"nil", nil, []int{0}},
		{"empty with spare room", make([]int, 0, 9), []int{0}},
		{"one slot", []int{7}, []int{0, 7}},
		{"empty slots", []int{0, 0}, []int{0, 0, 0}},
		{"falling amounts", []int{5, 3, 1}, []int{0, 5, 8, 9}},
		{"the most in all slots", samples.Same(60, 10000), samples.Slope(61, 0, 10000)},
	} {
		if got, e := trace.Sum(x.a); e != api.OK || !slices.Equal(got, x.want) {
			t.Errorf("%s: %v %d, not %v", x.name, got, e, x.want)
		}
	}
}

func TestThereAndBack(t *testing.T) { // P21, P22
	for _, a := range samples.Traces() {
		f, e := trace.Sum(a)
		if e != api.OK || !slices.Equal(f, sum(a)) || curve.Check(f) != api.OK {
			t.Fatalf("sum of %v: %v %d", a, f, e)
		}
		if got, e := trace.Slots(f); e != api.OK || !slices.Equal(got, a) {
			t.Fatalf("slots of %v: %v %d, not %v", f, got, e, a)
		}
	}
}

func TestSlots(t *testing.T) { // P22
	top := api.MaxVal
	for _, x := range []struct {
		name    string
		f, want []int
		e       api.Errno
	}{
		{"the document's", []int{0, 2, 2, 5}, []int{2, 0, 3}, api.OK},
		{"time 0 alone", []int{0}, nil, api.OK},
		{"nothing comes", []int{0, 0, 0}, []int{0, 0}, api.OK},
		{"the most in a slot", []int{0, 10000}, []int{10000}, api.OK},
		{"one more than the most in a slot", []int{0, 10001}, nil, api.ErrLarge},
		{"more than the most in two slots", []int{0, 6000, 12000}, []int{6000, 6000}, api.OK},
		{"the most in all slots", samples.Slope(61, 0, 10000), samples.Same(60, 10000), api.OK},
		{"one more than the most in the last slot", []int{0, 1, 10002}, nil, api.ErrLarge},
		{"one more than the most in a slot within", []int{0, 3, 10004, 10004}, nil, api.ErrLarge},
		{"all at once", []int{0, top}, nil, api.ErrLarge},
		{"something at time 0", []int{1}, nil, api.ErrForm},
		{"something at time 0, and later", []int{2, 4, 9}, nil, api.ErrForm},
		{"the most at time 0", []int{top, top}, nil, api.ErrForm},
		{"something at time 0 ahead of a slot with too much", []int{1, 10002}, nil, api.ErrForm},
		{"a fall ahead of something at time 0", []int{1, 0}, nil, api.ErrForm},
		{"a negative value ahead of something at time 0", []int{1, -1}, nil, api.ErrArg},
		{"a value that is too great ahead of something at time 0", []int{1, top + 1}, nil, api.ErrLarge},
		{"62 values ahead of something at time 0", samples.Slope(62, 1, 1), nil, api.ErrLarge},
		{"a fall ahead of a slot with too much", []int{0, 10001, 10000}, nil, api.ErrForm},
		{"a negative value ahead of a slot with too much", []int{0, 10001, -1}, nil, api.ErrArg},
	} {
		if got, e := trace.Slots(x.f); e != x.e || !slices.Equal(got, x.want) {
			t.Errorf("%s: %v %d, not %v %d", x.name, got, e, x.want, x.e)
		}
	}
}

func TestEnv(t *testing.T) { // P23
	for _, x := range []struct {
		name    string
		f, want []int
	}{
		{"the document's cumulative curve", []int{0, 2, 2, 5}, []int{0, 3, 3, 5}},
		{"one value", []int{7}, []int{0}},
		{"the burst at the end", []int{0, 1, 2, 9}, []int{0, 7, 8, 9}},
		{"the burst at the start", []int{0, 7, 8, 9}, []int{0, 7, 8, 9}},
		{"what is there at time 0 does not come", []int{5, 6, 8}, []int{0, 2, 3}},
		{"nothing comes", []int{4, 4, 4}, []int{0, 0, 0}},
		{"the greatest", []int{0, api.MaxVal}, []int{0, api.MaxVal}},
	} {
		if got, e := trace.Env(x.f); e != api.OK || !slices.Equal(got, x.want) {
			t.Errorf("%s: %v %d, not %v", x.name, got, e, x.want)
		}
	}
}

func TestEnvAll(t *testing.T) { // P23
	for _, f := range slices.Concat(samples.Small(), samples.Steps(), samples.Long()) {
		got, e := trace.Env(f)
		if e != api.OK || !slices.Equal(got, env(f)) {
			t.Fatalf("%v: %v %d, not %v", f, got, e, env(f))
		}
		if of, _ := deconv.Of(f, f); !slices.Equal(got, of) {
			t.Fatalf("%v: %v, though the deconvolution is %v", f, got, of)
		}
		if is, e := trace.Fits(f, got); !is || e != api.OK {
			t.Fatalf("%v does not fit its envelope %v: %d", f, got, e)
		}
	}
}

func TestEnvIsMinimal(t *testing.T) { // P23, P24
	for f, limit := range samples.Pairs() {
		most, _ := trace.Env(f)
		below, _ := curve.Le(most, limit)
		if is, e := trace.Fits(f, limit); is != below || e != api.OK {
			t.Fatalf("%v with envelope %v, %v: %t %d", f, most, limit, is, e)
		}
	}
}

func TestFits(t *testing.T) { // P24
	top := api.MaxVal
	for _, x := range []struct {
		name     string
		f, limit []int
		want     bool
	}{
		{"just within", []int{0, 2, 2, 5}, []int{0, 3, 3, 5}, true},
		{"too much in one slot", []int{0, 2, 2, 5}, []int{0, 2, 3, 5}, false},
		{"too much in two slots", []int{0, 2, 4, 4}, []int{0, 3, 3, 5}, false},
		{"too much in all slots", []int{0, 2, 2, 5}, []int{0, 3, 3, 4}, false},
		{"too much in the first slot alone", []int{0, 4, 5, 6}, []int{0, 3, 9, 9}, false},
		{"too much in the last slot alone", []int{0, 1, 2, 6}, []int{0, 3, 9, 9}, false},
		{"too much in a slot within alone", []int{0, 1, 5, 6}, []int{0, 3, 9, 9}, false},
		{"below the limit at all times, but not over all slots", []int{0, 0, 4}, []int{0, 3, 6}, false},
		{"what is there at time 0 does not come", []int{9, 9, 9}, []int{0, 0, 0}, true},
		{"what is there at time 0 does not come, and one too many does", []int{9, 9, 10}, []int{0, 0, 0}, false},
		{"one value", []int{9}, []int{0}, true},
		{"a limit that starts above 0", []int{0, 3}, []int{3, 3}, true},
		{"a limit that starts above 0 and is too low", []int{0, 4}, []int{3, 3}, false},
		{"the greatest", []int{0, top}, []int{0, top}, true},
		{"the greatest, above by one", []int{0, top}, []int{0, top - 1}, false},
		{"61 values", samples.Slope(61, 0, 5), samples.Slope(61, 0, 5), true},
		{"61 values, too many at the end", append(samples.Slope(60, 0, 5), 301), samples.Slope(61, 0, 5), false},
	} {
		if is, e := trace.Fits(x.f, x.limit); is != x.want || e != api.OK {
			t.Errorf("%s: %t %d", x.name, is, e)
		}
	}
}

func TestFitsAll(t *testing.T) { // P24
	for f, limit := range samples.Pairs() {
		if is, e := trace.Fits(f, limit); is != fits(f, limit) || e != api.OK {
			t.Fatalf("%v, %v: %t %d", f, limit, is, e)
		}
	}
}

// TestFitsIsNotCutOff: what a curve and the limit give together is the curve itself just when the curve fits a limit that starts at 0.
func TestFitsIsNotCutOff(t *testing.T) { // P24
	for f, limit := range samples.Pairs() {
		if limit[0] != 0 {
			continue
		}
		passed, _ := conv.Of(f, limit)
		if is, _ := trace.Fits(f, limit); is != slices.Equal(passed, f) {
			t.Fatalf("%v, %v: %t, though %v gets through", f, limit, is, passed)
		}
	}
}

func TestErrors(t *testing.T) { // P22, P23, P24
	for _, x := range samples.WrongCurves() {
		if got, e := trace.Slots(x.F); e != x.Want || len(got) != 0 {
			t.Errorf("slots: %s: %v %d, not %d", x.Name, got, e, x.Want)
		}
		if got, e := trace.Env(x.F); e != x.Want || len(got) != 0 {
			t.Errorf("env: %s: %v %d, not %d", x.Name, got, e, x.Want)
		}
	}
	for _, x := range samples.WrongPairs() {
		if is, e := trace.Fits(x.F, x.G); e != x.Want || is {
			t.Errorf("fits: %s: %t %d, not %d", x.Name, is, e, x.Want)
		}
	}
}

func TestNothingPanics(t *testing.T) { // P1
	for _, f := range samples.Strange() {
		check := trace.Check(f)
		if got, e := trace.Sum(f); e != check || (e == api.OK) != (len(got) == len(f)+1) || e != api.OK && len(got) != 0 {
			t.Errorf("sum of %v: %v %d", f, got, e)
		}
		first := curve.Check(f)
		if got, e := trace.Slots(f); first != api.OK && e != first || e != api.OK && len(got) != 0 || e == api.OK && trace.Check(got) != api.OK {
			t.Errorf("slots of %v: %v %d", f, got, e)
		}
		if got, e := trace.Env(f); e != first || !samples.Sound(f, got, e) {
			t.Errorf("env of %v: %v %d", f, got, e)
		}
		for _, limit := range samples.Strange() {
			_, want := curve.Le(f, limit)
			if is, e := trace.Fits(f, limit); e != want || is && e != api.OK {
				t.Errorf("%v fits %v: %t %d, not %d", f, limit, is, e, want)
			}
		}
	}
}

func TestArgumentsStay(t *testing.T) { // P2
	room := []int{0, 2, 2, 5, 77, 78}
	for _, call := range []func(f []int) ([]int, api.Errno){trace.Sum, trace.Slots, trace.Env} {
		if fault := samples.Shares([][]int{room}, func() ([]int, api.Errno) { return call(room[:4]) }); fault != "" {
			t.Error(fault)
		}
	}
	before := slices.Clone(room)
	limit := []int{0, 3, 3, 5, 87, 88, 89}
	limitBefore := slices.Clone(limit)
	trace.Check(room[:4])
	if is, e := trace.Fits(room[:4], limit[:4]); !is || e != api.OK {
		t.Errorf("the spare room counts: %t %d", is, e)
	}
	if !slices.Equal(room, before) || !slices.Equal(limit, limitBefore) {
		t.Errorf("an argument has changed: %v, %v", room, limit)
	}
}
