package deconv_test

import (
	"slices"
	"testing"

	"headway/api"
	"headway/curve"
	"headway/deconv"
	"headway/samples"
)

// wanted is the deconvolution by the chapter's words.
func wanted(f, g []int) []int {
	last := len(f) - 1
	return samples.Values(len(f), func(t int) int {
		all := []int{0}
		for u := 0; u <= last-t; u++ {
			all = append(all, f[t+u]-g[u])
		}
		return slices.Max(all)
	})
}

func TestExamples(t *testing.T) { // P11
	top := api.MaxVal
	for _, x := range []struct {
		name       string
		f, g, want []int
	}{
		{"the document's", []int{0, 4, 8}, []int{0, 1, 8}, []int{3, 7, 8}},
		{"turned", []int{0, 1, 8}, []int{0, 4, 8}, []int{0, 4, 8}},
		{"one value", []int{7}, []int{4}, []int{3}},
		{"one value, below", []int{4}, []int{7}, []int{0}},
		{"below everywhere", []int{0, 1}, []int{5, 5}, []int{0, 0}},
		{"below at first", []int{0, 1, 9}, []int{5, 5, 5}, []int{4, 4, 4}},
		{"above at the last time only", []int{0, 0, 0, 6}, []int{3, 3, 3, 3}, []int{3, 3, 3, 3}},
		{"the last of g counts at time 0 alone", []int{2, 4, 9}, []int{1, 8, 8}, []int{1, 3, 8}},
		{"by itself", []int{0, 2, 3, 9}, []int{0, 2, 3, 9}, []int{0, 6, 7, 9}},
		{"by nothing", []int{0, 2, 3}, []int{0, 0, 0}, []int{3, 3, 3}},
		{"the greatest", []int{0, top}, []int{0, 0}, []int{top, top}},
		{"the greatest, both", []int{top, top}, []int{top, top}, []int{0, 0}},
		{"the farthest below", []int{0, 0}, []int{top, top}, []int{0, 0}},
	} {
		if got, e := deconv.Of(x.f, x.g); e != api.OK || !slices.Equal(got, x.want) {
			t.Errorf("%s: %v %d, not %v", x.name, got, e, x.want)
		}
	}
}

func TestAll(t *testing.T) { // P11
	for f, g := range samples.Pairs() {
		want := wanted(f, g)
		if got, e := deconv.Of(f, g); e != api.OK || !slices.Equal(got, want) || curve.Check(got) != api.OK {
			t.Fatalf("%v, %v: %v %d, not %v", f, g, got, e, want)
		}
	}
}

func TestErrors(t *testing.T) { // P11
	for _, x := range samples.WrongPairs() {
		if got, e := deconv.Of(x.F, x.G); e != x.Want || len(got) != 0 {
			t.Errorf("%s: %v %d, not %d", x.Name, got, e, x.Want)
		}
	}
}

func TestNothingPanics(t *testing.T) { // P1
	for _, f := range samples.Strange() {
		for _, g := range samples.Strange() {
			got, e := deconv.Of(f, g)
			if !samples.Sound(f, got, e) {
				t.Errorf("%v, %v: %v %d", f, g, got, e)
			}
		}
	}
}

func TestArgumentsStay(t *testing.T) { // P2
	if fault := samples.PairShares(deconv.Of); fault != "" {
		t.Error(fault)
	}
}
