package desk_test

import (
	"slices"
	"strings"
	"testing"

	"headway/desk"
)

// lineCase: a line, what is told ahead of it, and the reply to it.
type lineCase struct{ name, ahead, line, want string }

// holds asks each line behind what is told ahead of it.
func holds(t *testing.T, cases []lineCase) {
	t.Helper()
	for _, x := range cases {
		ahead := desk.Run(x.ahead)
		if got := desk.Run(x.ahead + x.line + "\n"); got != ahead+x.want+"\n" {
			t.Errorf("%s: %q: %q, not %q", x.name, x.line, got, ahead+x.want+"\n")
		}
	}
}

// many returns n numbers of a list, all the same.
func many(n int, number string) string {
	return strings.Join(slices.Repeat([]string{number}, n), ",")
}

// twoCurves returns the cases that any command of two curves has, where it is right.
func twoCurves(command string) []lineCase {
	var out []lineCase
	for _, x := range []lineCase{
		{"a value above the most", "", "0,1000001 0,1", "error 2"},
		{"a second value above the most", "", "0,1 0,999999999", "error 2"},
		{"62 values", "", many(62, "0") + " 0", "error 2"},
		{"62 values in the second", "", "0 " + many(62, "0"), "error 2"},
		{"a fall", "", "0,3,2 0,1,2", "error 3"},
		{"a fall in the second", "", "0,1,2 0,3,2", "error 3"},
		{"lengths", "", "0,1 0,1,2", "error 4"},
		{"the lengths the other way", "", "0,1,2 0,1", "error 4"},
		{"a fall ahead of a value too large", "", "3,2 1000001,0", "error 3"},
		{"a value too large ahead of a fall", "", "1000001,0 3,2", "error 2"},
		{"a fall ahead of lengths", "", "0 3,2", "error 3"},
	} {
		x.line = command + " " + x.line
		out = append(out, x)
	}
	return out
}

// oneCurve returns the cases that any command of one curve, with the rest of its arguments, has.
func oneCurve(command, rest string) []lineCase {
	var out []lineCase
	for _, x := range []lineCase{
		{"a value above the most", "", "0,1000001", "error 2"},
		{"62 values", "", many(62, "0"), "error 2"},
		{"a fall", "", "0,3,2", "error 3"},
		{"a value too large ahead of a fall", "", "0,1000001,2", "error 2"},
		{"a fall ahead of a value too large", "", "3,2,1000001", "error 3"},
	} {
		x.line = command + " " + x.line + rest
		out = append(out, x)
	}
	return out
}

// TestExamples: the document's.
func TestExamples(t *testing.T) { // P77
	holds(t, []lineCase{
		{"conv", "", "conv 0,1,5 0,2,3", "ok 0,1,3"},
		{"deconv", "", "deconv 0,4,8 0,1,8", "ok 3,7,8"},
		{"closure", "", "close 2,3,9,9", "ok 0,3,6,9"},
		{"shape", "", "bucket 3 5 2", "ok 0,7,12,17"},
		{"bound", "", "back 0,5,6 0,1,4", "ok 4"},
		{"shaper", "", "shape 0,9,9,9 0,2,9,9", "ok 0,2,4,6"},
		{"window", "", "window 5 2 4", "ok 12"},
		{"catch", "", "bound 0,3,4,5 3 4", "ok 3"},
		{"plan", "", "rate 0,3,4,5 4 3", "ok 3"},
		{"world", "world 2 1 9\nappend 4\ntick\n", "peers", "ok 4/1 4/0"},
	})
}

func TestConv(t *testing.T) { // P77: conv L L
	holds(t, twoCurves("conv"))
	holds(t, []lineCase{
		{"one value", "", "conv 0 0", "ok 0"},
		{"one value each", "", "conv 5 7", "ok 12"},
		{"the order does not matter", "", "conv 0,2,3 0,1,5", "ok 0,1,3"},
		{"61 values", "", "conv " + many(61, "0") + " " + many(61, "7"), "ok " + many(61, "7")},
		{"the most", "", "conv 0,1000000 0,1000000", "ok 0,1000000"},
		{"a sum above the most", "", "conv 1 1000000", "error 2"},
	})
}

func TestDeconv(t *testing.T) { // P77: deconv L L
	holds(t, twoCurves("deconv"))
	holds(t, []lineCase{
		{"one value", "", "deconv 7 5", "ok 2"},
		{"the order matters", "", "deconv 5 7", "ok 0"},
		{"two values", "", "deconv 0,9 0,2", "ok 7,9"},
		{"61 values", "", "deconv " + many(61, "7") + " " + many(61, "0"), "ok " + many(61, "7")},
	})
}

func TestShape(t *testing.T) { // P77: shape L L
	holds(t, twoCurves("shape"))
	holds(t, []lineCase{
		{"one value", "", "shape 7 5", "ok 7"},
		{"the first is what comes, the second its limit", "", "shape 0,2,9,9 0,9,9,9", "ok 0,2,9,9"},
		{"the limit is closed first", "", "shape 0,9,9,9 2,2,9,9", "ok 0,2,4,6"},
		{"61 values", "", "shape " + many(61, "0") + " " + many(61, "7"), "ok " + many(61, "0")},
	})
}

func TestClose(t *testing.T) { // P77: close L
	holds(t, oneCurve("close", ""))
	holds(t, []lineCase{
		{"one value", "", "close 7", "ok 0"},
		{"a curve that is closed", "", "close 0,3,6", "ok 0,3,6"},
		{"the most", "", "close 0,1000000,1000000", "ok 0,1000000,1000000"},
		{"61 values", "", "close " + many(61, "0"), "ok " + many(61, "0")},
	})
}

func TestBack(t *testing.T) { // P77: back L L
	holds(t, twoCurves("back"))
	holds(t, []lineCase{
		{"one value", "", "back 7 5", "ok 2"},
		{"the order matters", "", "back 0,1,4 0,5,6", "ok 0"},
		{"the most", "", "back 0,1000000 0,0", "ok 1000000"},
	})
}

func TestDelay(t *testing.T) { // P77: delay L L
	holds(t, twoCurves("delay"))
	holds(t, []lineCase{
		{"ordinary", "", "delay 0,5,6 0,1,5", "ok 1"},
		{"two", "", "delay 0,5,6,6 0,1,4,6", "ok 2"},
		{"the order matters", "", "delay 0,1,5 0,5,6", "ok 0"},
		{"it never leaves", "", "delay 1,1 0,0", "error 5"},
		{"lengths ahead of never", "", "delay 1,1 0,0,0", "error 4"},
	})
}

func TestBucket(t *testing.T) { // P77: bucket N N N
	holds(t, []lineCase{
		{"time, rate and burst stand in this order", "", "bucket 2 3 5", "ok 0,8,11"},
		{"up to time 0", "", "bucket 0 5 2", "ok 0"},
		{"the last time", "", "bucket 60 0 0", "ok " + many(61, "0")},
		{"the greatest rate", "", "bucket 1 10000 0", "ok 0,10000"},
		{"the greatest burst", "", "bucket 1 0 1000000", "ok 0,1000000"},
		{"a time too great", "", "bucket 61 5 2", "error 1"},
		{"a rate too great", "", "bucket 3 10001 2", "error 1"},
		{"a burst too great", "", "bucket 3 5 1000001", "error 1"},
		{"a value above the most", "", "bucket 1 1 1000000", "error 2"},
		{"the greatest number", "", "bucket 999999999 999999999 999999999", "error 1"},
	})
}

func TestWindow(t *testing.T) { // P77: window N N N
	holds(t, []lineCase{
		{"pieces, window and trip stand in this order", "", "window 2 5 4", "ok 5"},
		{"another order", "", "window 4 5 2", "ok 5"},
		{"a window of one", "", "window 3 1 7", "ok 21"},
		{"no pieces", "", "window 0 2 4", "ok 0"},
		{"the most", "", "window 200 1 200", "ok 40000"},
		{"too many pieces", "", "window 201 2 4", "error 1"},
		{"no window", "", "window 5 0 4", "error 1"},
		{"a window too great", "", "window 5 201 4", "error 1"},
		{"no trip", "", "window 5 2 0", "error 1"},
		{"a trip too long", "", "window 5 2 201", "error 1"},
		{"no pieces, but a wrong window", "", "window 0 0 4", "error 1"},
	})
}

func TestBound(t *testing.T) { // P77: bound L N N
	holds(t, oneCurve("bound", " 3 4"))
	holds(t, []lineCase{
		{"rate and lag stand in this order", "", "bound 0,3,4,5 4 3", "ok 2"},
		{"no lag", "", "bound 0,3,4,5 3 0", "ok 0"},
		{"never", "", "bound 0,3,4,5 3 5", "error 5"},
		{"no rate", "", "bound 0,0,0 0 1", "error 5"},
		{"the greatest rate", "", "bound 0,0 10000 10000", "ok 1"},
		{"the greatest lag", "", "bound 0,0 10000 1000000", "error 5"},
		{"a rate too great", "", "bound 0,3,4,5 10001 4", "error 1"},
		{"a lag too great", "", "bound 0,3,4,5 3 1000001", "error 1"},
		{"a fall ahead of a rate", "", "bound 3,2 10001 4", "error 3"},
	})
}

func TestRate(t *testing.T) { // P77: rate L N N
	holds(t, oneCurve("rate", " 4 0"))
	holds(t, []lineCase{
		{"lag and time stand in this order", "", "rate 0,3,4,5 2 3", "ok 3"},
		{"an earlier time", "", "rate 0,3,4,5 4 2", "ok 4"},
		{"another order", "", "rate 0,3,4,5 3 2", "ok 4"},
		{"no lag", "", "rate 0,3,4,5 0 0", "ok 0"},
		{"never", "", "rate 0,3,4,5 4 0", "error 5"},
		{"too much for any rate", "", "rate 0,0 10001 1", "error 5"},
		{"just so much for the greatest", "", "rate 0,0 10000 1", "ok 10000"},
		{"a time past the last", "", "rate 0,3,4,5 4 4", "error 1"},
		{"a lag too great", "", "rate 0,3,4,5 1000001 3", "error 1"},
		{"a fall ahead of a time", "", "rate 3,2 4 9", "error 3"},
	})
}

// some: a world of 2 peers, of which one has a part.
const some = "world 2 3 2\nappend 4\ntick\n"

func TestWorld(t *testing.T) { // P77: world N N N
	holds(t, []lineCase{
		{"ordinary", "", "world 2 3 2", "ok"},
		{"the least", "", "world 1 0 1", "ok"},
		{"the most", "", "world 8 1000 1000", "ok"},
		{"at first there are 2 peers", "", "peers", "ok 0/0 0/0"},
		{"at first the rate is 1", "append 3\n", "tick", "ok 1"},
		{"at first a piece is a byte", "append 3\ntick\n", "peers", "ok 2/0 3/0"},
		{"it becomes the World", "world 3 1 1\n", "peers", "ok 0/0 0/0 0/0"},
		{"peers, rate and unit stand in this order", "world 1 7 3\nappend 9\ntick\n", "peers", "ok 3/1"},
		{"nothing is left of the one before it", some + "world 2 3 2\n", "peers", "ok 0/0 0/0"},
		{"nor its turn", "world 2 1 9\nappend 1\ntick\nworld 2 1 9\nappend 4\ntick\n", "peers", "ok 4/1 4/0"},
		{"no peers", some, "world 0 3 2", "error 1"},
		{"9 peers", some, "world 9 3 2", "error 1"},
		{"a rate too great", some, "world 2 1001 2", "error 1"},
		{"no unit", some, "world 2 3 0", "error 1"},
		{"a unit too great", some, "world 2 3 1001", "error 1"},
		{"after no peers", some + "world 0 3 2\n", "peers", "ok 2/0 4/1"},
		{"after 9 peers", some + "world 9 3 2\n", "peers", "ok 2/0 4/1"},
		{"after a rate too great", some + "world 2 1001 2\n", "tick", "ok 3"},
		{"after no unit", some + "world 2 3 0\ntick\n", "peers", "ok 2/1 2/1"},
		{"after a word too few", some + "world 2 3\n", "peers", "ok 2/0 4/1"},
		{"after a word too many", some + "world 2 3 2 2\n", "peers", "ok 2/0 4/1"},
		{"after a wrong number", some + "world 2 3 02\n", "peers", "ok 2/0 4/1"},
		{"the first after an error", "world 9 3 2\nappend 1\ntick\n", "peers", "ok 0/0 1/0"},
	})
}

func TestAppend(t *testing.T) { // P77: append N
	holds(t, []lineCase{
		{"ordinary", "", "append 4", "ok"},
		{"all lack it", "append 4\n", "peers", "ok 4/0 4/0"},
		{"twice", "append 4\nappend 5\n", "peers", "ok 9/0 9/0"},
		{"nothing", some + "append 0\n", "peers", "ok 2/0 4/1"},
		{"the most", "append 1000000\n", "peers", "ok 1000000/0 1000000/0"},
		{"too much by one", "", "append 1000001", "error 2"},
		{"too much for the last peer", "append 999999\ntick\n", "append 2", "error 2"},
		{"the greatest number", some, "append 999999999", "error 2"},
		{"after too much", some + "append 999997\n", "peers", "ok 2/0 4/1"},
	})
}

func TestCrash(t *testing.T) { // P77: crash N
	holds(t, []lineCase{
		{"ordinary", some, "crash 1", "ok"},
		{"its part is lost", some + "crash 1\n", "peers", "ok 2/0 4/0"},
		{"another's is not", some + "crash 0\n", "peers", "ok 2/0 4/1"},
		{"the first of those at first", "", "crash 0", "ok"},
		{"one too many of those at first", "", "crash 2", "error 1"},
		{"one too many", "world 3 1 1\n", "crash 3", "error 1"},
		{"the greatest number", some, "crash 999999999", "error 1"},
		{"after one too many", some + "crash 2\n", "peers", "ok 2/0 4/1"},
	})
}

func TestTick(t *testing.T) { // P77: tick
	holds(t, []lineCase{
		{"nothing is lacking", "", "tick", "ok 0"},
		{"a byte", "append 4\n", "tick", "ok 1"},
		{"the rate", "world 2 3 2\nappend 4\n", "tick", "ok 3"},
		{"less than the rate", "world 2 3 2\nappend 1\n", "tick", "ok 2"},
		{"the most", "world 8 1000 1\nappend 1000000\n", "tick", "ok 1000"},
		{"no rate", "world 8 0 1\nappend 1000000\n", "tick", "ok 0"},
		{"it goes on", some + "tick\n", "peers", "ok 2/1 2/1"},
		{"till all is there", some + "tick\ntick\n", "peers", "ok 0/0 0/0"},
	})
}

func TestPeers(t *testing.T) { // P77: peers
	holds(t, []lineCase{
		{"one", "world 1 1 1\n", "peers", "ok 0/0"},
		{"8", "world 8 10 9\nappend 12\ntick\n", "peers", "ok 12/2 12/2 12/1 12/1 12/1 12/1 12/1 12/1"},
		{"lag and part stand in this order", "world 1 10 11\nappend 345\ntick\n", "peers", "ok 345/10"},
		{"it changes nothing", some + "peers\npeers\n", "peers", "ok 2/0 4/1"},
		{"it is told what it was", some + "peers\ntick\n", "peers", "ok 2/1 2/1"},
	})
}
