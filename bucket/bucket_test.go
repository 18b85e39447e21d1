package bucket_test

import (
	"math"
	"slices"
	"testing"

	"headway/api"
	"headway/bucket"
	"headway/samples"
)

// bucketCase: a bucket, right or wrong, and the error that it deserves.
type bucketCase struct {
	name string
	b    api.Bucket
	want api.Errno
}

func buckets() []bucketCase {
	return []bucketCase{
		{"of zeros", api.Bucket{}, api.OK},
		{"ordinary", api.Bucket{Rate: 2, Burst: 5, Fill: 2}, api.OK},
		{"empty", api.Bucket{Rate: 2, Burst: 5}, api.OK},
		{"full", api.Bucket{Rate: 2, Burst: 5, Fill: 5}, api.OK},
		{"all at the most", api.Bucket{Rate: 10000, Burst: 1000000, Fill: 1000000}, api.OK},
		{"a rate alone", api.Bucket{Rate: 10000}, api.OK},
		{"a burst below the rate", api.Bucket{Rate: 10000, Burst: 1, Fill: 1}, api.OK},
		{"a burst alone", api.Bucket{Burst: 1000000}, api.OK},
		{"a negative rate", api.Bucket{Rate: -1, Burst: 5, Fill: 2}, api.ErrArg},
		{"the least rate of all", api.Bucket{Rate: math.MinInt, Burst: 5, Fill: 2}, api.ErrArg},
		{"a rate too great by one", api.Bucket{Rate: 10001, Burst: 5, Fill: 2}, api.ErrArg},
		{"the greatest rate of all", api.Bucket{Rate: math.MaxInt, Burst: 5, Fill: 2}, api.ErrArg},
		{"a negative burst", api.Bucket{Rate: 2, Burst: -1}, api.ErrArg},
		{"a negative burst, filled", api.Bucket{Rate: 2, Burst: -1, Fill: -1}, api.ErrArg},
		{"a burst too great by one", api.Bucket{Rate: 2, Burst: 1000001, Fill: 2}, api.ErrArg},
		{"a burst too great by one, filled", api.Bucket{Rate: 2, Burst: 1000001, Fill: 1000001}, api.ErrArg},
		{"the greatest burst of all", api.Bucket{Rate: 2, Burst: math.MaxInt, Fill: 2}, api.ErrArg},
		{"a negative fill", api.Bucket{Rate: 2, Burst: 5, Fill: -1}, api.ErrArg},
		{"the least fill of all", api.Bucket{Rate: 2, Burst: 5, Fill: math.MinInt}, api.ErrArg},
		{"a fill above the burst by one", api.Bucket{Rate: 2, Burst: 5, Fill: 6}, api.ErrArg},
		{"a fill without a burst", api.Bucket{Fill: 1}, api.ErrArg},
		{"a fill above the greatest burst", api.Bucket{Burst: 1000000, Fill: 1000001}, api.ErrArg},
		{"the greatest fill of all", api.Bucket{Rate: 2, Burst: 5, Fill: math.MaxInt}, api.ErrArg},
	}
}

func TestCheck(t *testing.T) { // P28
	for _, x := range buckets() {
		if e := bucket.Check(x.b); e != x.want {
			t.Errorf("%s: %d, not %d", x.name, e, x.want)
		}
	}
}

func TestTick(t *testing.T) { // P29
	top := api.MaxVal
	for _, x := range []struct {
		name string
		b    api.Bucket
		n    int
		fill int
	}{
		{"no slot", api.Bucket{Rate: 2, Burst: 5, Fill: 2}, 0, 2},
		{"one slot", api.Bucket{Rate: 2, Burst: 5, Fill: 2}, 1, 4},
		{"no more than the burst", api.Bucket{Rate: 2, Burst: 5, Fill: 2}, 2, 5},
		{"just full", api.Bucket{Rate: 2, Burst: 6, Fill: 2}, 2, 6},
		{"long full", api.Bucket{Rate: 2, Burst: 5, Fill: 2}, 200, 5},
		{"full already", api.Bucket{Rate: 2, Burst: 5, Fill: 5}, 3, 5},
		{"no rate", api.Bucket{Burst: 5, Fill: 2}, 200, 2},
		{"no room", api.Bucket{Rate: 10000}, 200, 0},
		{"not yet full after all slots", api.Bucket{Rate: 3, Burst: 1000, Fill: 7}, 200, 607},
		{"just below the greatest burst", api.Bucket{Rate: 10000, Burst: top, Fill: 9999}, 99, 999999},
		{"up to the greatest burst", api.Bucket{Rate: 10000, Burst: top}, 100, top},
		{"all at the most", api.Bucket{Rate: 10000, Burst: top, Fill: top}, 200, top},
	} {
		want := x.b
		want.Fill = x.fill
		if got, e := bucket.Tick(x.b, x.n); got != want || e != api.OK {
			t.Errorf("%s: %v %d, not %v", x.name, got, e, want)
		}
	}
}

// TestTickAll: so many slots at once are as many slots one by one.
func TestTickAll(t *testing.T) { // P29
	for _, x := range buckets() {
		if x.want != api.OK {
			continue
		}
		want := x.b
		for n := range 201 {
			if got, e := bucket.Tick(x.b, n); got != want || e != api.OK {
				t.Fatalf("%s, %d slots: %v %d, not %v", x.name, n, got, e, want)
			}
			want.Fill += want.Rate
			if want.Fill > want.Burst {
				want.Fill = want.Burst
			}
		}
	}
}

func TestTake(t *testing.T) { // P29
	b := api.Bucket{Rate: 2, Burst: 5, Fill: 3}
	full := api.Bucket{Rate: 1, Burst: api.MaxVal, Fill: api.MaxVal}
	for _, x := range []struct {
		name string
		b    api.Bucket
		n    int
		want api.Bucket
		e    api.Errno
	}{
		{"none", b, 0, b, api.OK},
		{"one", b, 1, api.Bucket{Rate: 2, Burst: 5, Fill: 2}, api.OK},
		{"all", b, 3, api.Bucket{Rate: 2, Burst: 5}, api.OK},
		{"one more than all", b, 4, api.Bucket{}, api.ErrFull},
		{"as many as the burst, though there are fewer", b, 5, api.Bucket{}, api.ErrFull},
		{"more than the burst", b, 6, api.Bucket{}, api.ErrFull},
		{"the greatest number", b, math.MaxInt, api.Bucket{}, api.ErrFull},
		{"less than none", b, -1, api.Bucket{}, api.ErrArg},
		{"the least number", b, math.MinInt, api.Bucket{}, api.ErrArg},
		{"none of none", api.Bucket{}, 0, api.Bucket{}, api.OK},
		{"one of none", api.Bucket{}, 1, api.Bucket{}, api.ErrFull},
		{"less than none of none", api.Bucket{}, -1, api.Bucket{}, api.ErrArg},
		{"all of the most", full, api.MaxVal, api.Bucket{Rate: 1, Burst: api.MaxVal}, api.OK},
		{"one more than all of the most", full, api.MaxVal + 1, api.Bucket{}, api.ErrFull},
	} {
		if got, e := bucket.Take(x.b, x.n); got != x.want || e != x.e {
			t.Errorf("%s: %v %d, not %v %d", x.name, got, e, x.want, x.e)
		}
	}
}

func TestTickAndTakeErrors(t *testing.T) { // P29
	for _, x := range buckets() {
		for _, n := range []int{math.MinInt, -1, 0, 1, 200, 201, math.MaxInt} {
			want := x.want
			if want == api.OK && (n < 0 || n > 200) {
				want = api.ErrArg
			}
			if got, e := bucket.Tick(x.b, n); e != want || e != api.OK && got != (api.Bucket{}) {
				t.Errorf("tick: %s, %d: %v %d, not %d", x.name, n, got, e, want)
			}
			want = x.want
			if want == api.OK && n < 0 {
				want = api.ErrArg
			} else if want == api.OK && n > x.b.Fill {
				want = api.ErrFull
			}
			if got, e := bucket.Take(x.b, n); e != want || e != api.OK && got != (api.Bucket{}) {
				t.Errorf("take: %s, %d: %v %d, not %d", x.name, n, got, e, want)
			}
		}
	}
}

func TestPackets(t *testing.T) { // P30
	for _, x := range samples.QueueCases() {
		if e := bucket.Packets(x.L); e != x.Want {
			t.Errorf("%s: %d, not %d", x.Name, e, x.Want)
		}
	}
}

func TestRun(t *testing.T) { // P31
	b := api.Bucket{Rate: 2, Burst: 5, Fill: 2}
	for _, x := range []struct {
		name string
		b    api.Bucket
		l    []api.Packet
		want []bool
	}{
		{"no packets", b, nil, nil},
		{"the document's two at one time", b, []api.Packet{{Size: 2}, {Size: 2}}, []bool{true, false}},
		{"two at one time that both conform", b, []api.Packet{{At: 1, Size: 2}, {At: 1, Size: 2}}, []bool{true, true}},
		{"two at one time, the first too large", b, []api.Packet{{Size: 3}, {Size: 2}}, []bool{false, true}},
		{"at time 0 no token has come yet", b, []api.Packet{{Size: 3}}, []bool{false}},
		{"at time 1 those of one slot have", b, []api.Packet{{At: 1, Size: 4}}, []bool{true}},
		{"one too many at time 1", b, []api.Packet{{At: 1, Size: 5}}, []bool{false}},
		{"no more than the burst are kept", b, []api.Packet{{At: 200, Size: 6}, {At: 200, Size: 5}}, []bool{false, true}},
		{"what is above the burst is lost", b, []api.Packet{{At: 2, Size: 5}, {At: 3, Size: 3}}, []bool{true, false}},
		{"the slots since the last packet count, not all", b, []api.Packet{{At: 1, Size: 4}, {At: 2, Size: 3}, {At: 2, Size: 2}}, []bool{true, false, true}},
		{"the slots since a packet that did not conform count once", b, []api.Packet{{At: 1, Size: 5}, {At: 1, Size: 5}, {At: 1, Size: 4}}, []bool{false, false, true}},
		{"no rate", api.Bucket{Burst: 5, Fill: 5}, []api.Packet{{Size: 3}, {At: 9, Size: 3}, {At: 200, Size: 2}}, []bool{true, false, true}},
		{"nothing at all", api.Bucket{}, []api.Packet{{Size: 1}, {At: 200, Size: 1}}, []bool{false, false}},
		{"the flows share the bucket", b, []api.Packet{{Size: 2, Flow: 1}, {Size: 1, Flow: 2}}, []bool{true, false}},
		{"the last slot", api.Bucket{Rate: 5, Burst: 1000}, []api.Packet{{At: 199, Size: 996}, {At: 200, Size: 1000}}, []bool{false, true}},
		{"60 at one time", api.Bucket{Rate: 1, Burst: 900, Fill: 59}, samples.SamePackets(60, api.Packet{Size: 1}), append(slices.Repeat([]bool{true}, 59), false)},
		{"60 of the greatest", api.Bucket{Rate: 10000, Burst: api.MaxVal}, samples.SamePackets(60, api.Packet{At: 6, Size: 1000, Flow: 7}), slices.Repeat([]bool{true}, 60)},
	} {
		if got, e := bucket.Run(x.b, x.l); e != api.OK || !slices.Equal(got, x.want) {
			t.Errorf("%s: %v %d, not %v", x.name, got, e, x.want)
		}
	}
}

// run is Run by the chapter's words, slot by slot.
func run(b api.Bucket, l []api.Packet) []bool {
	var out []bool
	fill := b.Fill
	for now := 0; len(out) < len(l); now++ {
		for _, p := range l {
			if p.At != now {
				continue
			}
			conforms := fill >= p.Size
			if conforms {
				fill -= p.Size
			}
			out = append(out, conforms)
		}
		fill += b.Rate
		if fill > b.Burst {
			fill = b.Burst
		}
	}
	return out
}

// smallBuckets returns all the buckets of a rate up to 3 and a burst up to 5.
func smallBuckets() []api.Bucket {
	var out []api.Bucket
	for rate := range 4 {
		for burst := range 6 {
			for fill := range burst + 1 {
				out = append(out, api.Bucket{Rate: rate, Burst: burst, Fill: fill})
			}
		}
	}
	return out
}

func TestRunAll(t *testing.T) { // P31
	for _, l := range samples.SmallQueues() {
		for _, b := range smallBuckets() {
			want := run(b, l)
			if got, e := bucket.Run(b, l); e != api.OK || !slices.Equal(got, want) {
				t.Fatalf("%v, %v: %v %d, not %v", b, l, got, e, want)
			}
		}
	}
}

func TestRunLong(t *testing.T) { // P31
	for _, l := range samples.LongQueues() {
		for _, rate := range []int{0, 1, 4, 300, 10000} {
			for _, burst := range []int{0, 7, 999, 1000, 30000, api.MaxVal} {
				for _, fill := range []int{0, burst / 2, burst} {
					b := api.Bucket{Rate: rate, Burst: burst, Fill: fill}
					want := run(b, l)
					if got, e := bucket.Run(b, l); e != api.OK || !slices.Equal(got, want) {
						t.Fatalf("%v, %v: %v %d, not %v", b, l, got, e, want)
					}
				}
			}
		}
	}
}

// TestConformingFits: from any time to any other, what conforms is no more than the burst and the tokens that come in between.
func TestConformingFits(t *testing.T) { // P31
	b := api.Bucket{Rate: 4, Burst: 30, Fill: 11}
	conforming := 0
	for _, l := range samples.LongQueues() {
		got, _ := bucket.Run(b, l)
		for i, first := range l {
			sum := 0
			for j, p := range l[i:] {
				if got[i+j] {
					conforming++
					sum += p.Size
				}
				if most := b.Burst + (p.At-first.At)*b.Rate; sum > most {
					t.Fatalf("%v: %d from time %d to %d, not at most %d", l, sum, first.At, p.At, most)
				}
			}
		}
	}
	if conforming == 0 {
		t.Error("no packet conforms")
	}
}

func TestRunErrors(t *testing.T) { // P31
	for _, x := range buckets() {
		for _, y := range samples.QueueCases() {
			want := x.want
			if want == api.OK {
				want = y.Want
			}
			got, e := bucket.Run(x.b, y.L)
			if e != want || e == api.OK && len(got) != len(y.L) || e != api.OK && len(got) != 0 {
				t.Errorf("%s, %s: %v %d, not %d", x.name, y.Name, got, e, want)
			}
		}
	}
}

func TestNothingPanics(t *testing.T) { // P1
	for _, a := range samples.Numbers() {
		for _, b := range samples.Numbers() {
			for _, c := range samples.Numbers() {
				x, p := api.Bucket{Rate: a, Burst: b, Fill: c}, api.Packet{At: a, Size: b, Flow: c}
				e := bucket.Check(x)
				for _, n := range samples.Numbers() {
					if got, e2 := bucket.Tick(x, n); e != api.OK && e2 != e || e2 == api.OK && bucket.Check(got) != api.OK {
						t.Fatalf("tick of %v by %d: %v %d", x, n, got, e2)
					}
					if got, e2 := bucket.Take(x, n); e != api.OK && e2 != e || e2 == api.OK && bucket.Check(got) != api.OK {
						t.Fatalf("take of %v by %d: %v %d", x, n, got, e2)
					}
				}
				l := []api.Packet{p, p}
				if got, e2 := bucket.Run(x, l); e != api.OK && e2 != e || e2 != api.OK && len(got) != 0 {
					t.Fatalf("run of %v, %v: %v %d", x, l, got, e2)
				}
			}
		}
	}
	if got, e := bucket.Run(api.Bucket{}, make([]api.Packet, 5000)); e != api.ErrLarge || len(got) != 0 {
		t.Errorf("%v %d", got, e)
	}
}

func TestArgumentsStay(t *testing.T) { // P2
	room := []api.Packet{{Size: 2}, {Size: 1}, {At: 1, Size: 2}, {At: 5, Size: 5}, {At: 99, Size: 9}, {Flow: -7}}
	before := slices.Clone(room)
	b := api.Bucket{Rate: 2, Burst: 5, Fill: 2}
	if e := bucket.Packets(room[:4]); e != api.OK {
		t.Errorf("the spare room counts: %d", e)
	}
	want := []bool{true, false, true, true}
	got, e := bucket.Run(b, room[:4])
	if e != api.OK || !slices.Equal(got, want) {
		t.Errorf("the spare room counts: %v %d", got, e)
	}
	other, _ := bucket.Run(b, room[:4])
	got = got[:cap(got)]
	for i := range got {
		got[i] = !got[i]
	}
	if !slices.Equal(other, want) {
		t.Errorf("results share memory: %v", other)
	}
	if !slices.Equal(room, before) {
		t.Errorf("an argument has changed: %v", room)
	}
}
