package desk_test

import (
	"slices"
	"strings"
	"testing"

	"headway/desk"
)

// right returns a line of each command, with the words that it needs: all of them are right, also where a world has but two peers.
func right() []string {
	return []string{
		"conv 0,1,5 0,2,3", "deconv 0,4,8 0,1,8", "shape 0,9,9,9 0,2,9,9", "close 2,3,9,9", "back 0,5,6 0,1,4", "delay 0,5,6 0,1,5",
		"bucket 3 5 2", "window 5 2 4", "bound 0,3,4,5 3 4", "rate 0,3,4,5 4 3",
		"world 3 2 4", "append 4", "crash 1", "tick", "peers",
	}
}

// wrongNumbers returns words that are no numbers; neither is a list with one of them a list.
func wrongNumbers() []string {
	return []string{
		"00", "01", "007", "0000000001", "1000000000", "999999999999", "9223372036854775807", "9223372036854775808", "18446744073709551617",
		"-1", "-0", "+1", "+0", "-", "+", "1.0", "1.", ".1", "1e3", "1_0", "_1", "0x1", "0b1", "0o1", "1f", "x", "one", "1/2", "1;2", "(1)", "\"1\"", "#", "1#",
		"1\t", "\t1", "\t", "1\r", "1\v", "1\x00", "\x00", "1\u00a0", "\u0661", "\uff11", "\u00b2", "\xff", "1\xff", "\x81",
	}
}

// wrongLists returns words that are neither numbers nor lists.
func wrongLists() []string {
	out := []string{",", ",,", "1,", ",1", "1,,2", "1,2,", ",1,2", "1,2,,", "1;2", "1.2", "1-2", "[1,2]", "1,\t2", "1\uff0c2"}
	for _, number := range wrongNumbers() {
		out = append(out, "0,"+number, number+",9", "0,"+number+",9")
	}
	return out
}

// wrongLines returns lines that can't be read: each command with a word too few or too many, and with one that is not of its kind.
func wrongLines() []string {
	var out []string
	for _, line := range right() {
		words := strings.Split(line, " ")
		out = append(out, line+" 1", line+" 1 1", line+" #", line+" x")
		for i := 1; i < len(words); i++ {
			out = append(out, strings.Join(words[:i], " "))
			for _, word := range append(wrongNumbers(), wrongLists()...) {
				out = append(out, swapped(words, i, word))
			}
			if !strings.Contains(words[i], ",") {
				out = append(out, swapped(words, i, "1,2"), swapped(words, i, "0,0"))
			}
		}
	}
	return append(out, wrongNames()...)
}

// swapped returns words with another at i.
func swapped(words []string, i int, word string) string {
	out := slices.Clone(words)
	out[i] = word
	return strings.Join(out, " ")
}

// wrongNames returns lines whose first word is no command.
func wrongNames() []string {
	var out []string
	for _, line := range right() {
		name, rest, _ := strings.Cut(line, " ")
		for _, other := range []string{
			strings.ToUpper(name), strings.ToUpper(name[:1]) + name[1:], name[1:], name[:len(name)-1], name + "s", name + name, name + ",", name + "\t", name + "\r", "\t" + name, name + "\x00", "/" + name, "#" + name, name + "#",
		} {
			out = append(out, other+" "+rest)
		}
	}
	for _, other := range []string{
		"x", "none", "help", "quit", "line", "fifo", "plan", "catch", "closure", "shaper", "new", "done", "of", "lag", "room", "ok", "error", "0", "1", ",", "\t", "\r", "\x00", "\xff", "#x", "##", "#\t", "#,", "\uff03", "//", "-", "\u00e9", "\u00a0",
	} {
		out = append(out, other, other+" 1", other+" 0,1 0,1", other+" 1 1 1")
	}
	return out
}

// TestRight: of each command, a line that the wrong ones are made of.
func TestRight(t *testing.T) { // P77
	for _, line := range right() {
		if got := desk.Run(line); !strings.HasPrefix(got, "ok") {
			t.Errorf("%q: %q", line, got)
		}
	}
}

func TestWrongWords(t *testing.T) { // P77
	for _, line := range wrongLines() {
		if got := desk.Run(line); got != "error 9\n" {
			t.Errorf("%q: %q", line, got)
		}
	}
}

// TestNumbers: one to nine digits, whether what they say is too great for the command or not.
func TestNumbers(t *testing.T) { // P77
	holds(t, []lineCase{
		{"a digit", "", "append 7", "ok"},
		{"nothing", "", "append 0", "ok"},
		{"ten", "", "append 10", "ok"},
		{"all the digits", "world 1 0 1\nappend 123456\nappend 7890\n", "peers", "ok 131346/0"},
		{"nine digits", "", "append 999999999", "error 2"},
		{"the least of nine digits", "", "append 100000000", "error 2"},
		{"ten digits", "", "append 1000000000", "error 9"},
		{"nine digits of a list", "", "close 999999999", "error 2"},
		{"ten digits of a list", "", "close 1000000000", "error 9"},
		{"the reply has no leading zeros", "", "close 0", "ok 0"},
		{"a list of one number", "", "conv 1 2", "ok 3"},
		{"a list too long for a curve, but of right numbers", "", "close " + many(1000, "1"), "error 2"},
		{"a list too long for a curve, and with a wrong number", "", "close " + many(1000, "1") + ",01", "error 9"},
	})
}

// TestErrorOrder: whatever a function says of its arguments, words that can't be read are ahead of it.
func TestErrorOrder(t *testing.T) { // P77
	holds(t, []lineCase{
		{"the first list is no curve, the second no list", "", "conv 2,1 1,", "error 9"},
		{"the first list is no curve, and there is no second", "", "conv 2,1", "error 9"},
		{"the first number is out of its bounds, the last no number", "", "bucket 61 5 02", "error 9"},
		{"the list is no curve, and a number no number", "", "bound 2,1 3 x", "error 9"},
		{"the first list's error ahead of the second's", "", "conv 2,1 1000001", "error 3"},
		{"a list's error ahead of a number's", "", "rate 2,1 4 61", "error 3"},
	})
}

func TestLines(t *testing.T) { // P77
	for _, x := range []struct{ name, script, want string }{
		{"an empty script", "", ""},
		{"a newline", "\n", ""},
		{"newlines", "\n\n\n", ""},
		{"spaces", "   ", ""},
		{"lines of spaces", " \n  \n \n", ""},
		{"a line", "tick\n", "ok 0\n"},
		{"a last line without a newline", "tick", "ok 0\n"},
		{"two lines", "append 1\ntick\n", "ok\nok 1\n"},
		{"two lines, the last without a newline", "append 1\ntick", "ok\nok 1\n"},
		{"a last line of spaces", "tick\n  ", "ok 0\n"},
		{"empty lines between", "\n\nappend 1\n\n\ntick\n\n", "ok\nok 1\n"},
		{"spaces ahead", "  tick\n", "ok 0\n"},
		{"spaces behind", "tick  \n", "ok 0\n"},
		{"spaces all over", "   conv   0,1,5    0,2,3   \n", "ok 0,1,3\n"},
		{"a space in a list", "close 2, 3\n", "error 9\n"},
		{"a space in a number", "append 1 0\n", "error 9\n"},
		{"a tab for a space", "append\t1\n", "error 9\n"},
		{"a tab behind", "tick \t\n", "error 9\n"},
		{"a line of a tab", "\t\n", "error 9\n"},
		{"a return ahead of a newline", "tick\r\n", "error 9\n"},
		{"a line of a return", "\r\n", "error 9\n"},
		{"a return for a newline", "tick\rtick\n", "error 9\n"},
		{"other spaces", "append\u00a01\nappend\u20031\nappend\u30001\n", "error 9\nerror 9\nerror 9\n"},
		{"other ends of lines", "tick\u2028tick\ntick\u0085tick\ntick\vtick\ntick\ftick\ntick\x00tick\n", strings.Repeat("error 9\n", 5)},
		{"bytes that are no runes", "\xff\n\xff \xfe\nappend \xff\n\xe2\x80\n", strings.Repeat("error 9\n", 4)},
		{"a remark", "# tick\n", ""},
		{"a remark of no more words", "#", ""},
		{"a remark of spaces", "  #  \n", ""},
		{"a remark of wrong words", "# \xff \t 01 #\n", ""},
		{"a remark amid lines", "append 1\n  # tick\ntick\n", "ok\nok 1\n"},
		{"a remark without a space", "#tick\n", "error 9\n"},
		{"a remark of two", "## tick\n", "error 9\n"},
		{"a remark behind a command", "tick # x\n", "error 9\n"},
		{"an error ends no script", "tick\nx\ntick\n", "ok 0\nerror 9\nok 0\n"},
		{"each error is told", "crash 2\nappend 1000001\nclose 1,0\nconv 1 2,3\ndelay 1 0\nx\n", "error 1\nerror 2\nerror 3\nerror 4\nerror 5\nerror 9\n"},
		{"replies as if they were lines", "ok\nerror 9\nok 0\n", "error 9\nerror 9\nerror 9\n"},
	} {
		if got := desk.Run(x.script); got != x.want {
			t.Errorf("%s: %q: %q, not %q", x.name, x.script, got, x.want)
		}
	}
}

// filled returns a script of n bytes in three lines, of which the last is a command, and the first a remark of runes of several bytes, with spaces as far as they are needed.
func filled(n int, end string) string {
	head, tail := "# "+strings.Repeat("\u20ac", 100)+"\n", "\nappend 1\ntick"+end
	return head + strings.Repeat(" ", n-len(head)-len(tail)) + tail
}

func TestLimits(t *testing.T) { // P77
	few, large := "ok\nok 1\n", "error 2\n"
	for _, x := range []struct{ name, script, want string }{
		{"the most bytes", filled(65536, "\n"), few},
		{"the most bytes, the last no newline", filled(65536, ""), few},
		{"a byte less", filled(65535, "\n"), few},
		{"a byte too many, a newline", filled(65537, "\n"), large},
		{"a byte too many, no newline", filled(65537, ""), large},
		{"a byte too many in one line", strings.Repeat(" ", 65537), large},
		{"the most bytes in one line", strings.Repeat(" ", 65536), ""},
		{"the most bytes in one word", strings.Repeat("x", 65536), "error 9\n"},
		{"as many bytes in one list", "close " + many(32765, "0"), "error 2\n"},
		{"the most newlines that are not lines too many", strings.Repeat("\n", 200), ""},
		{"bytes and lines too many", strings.Repeat("tick\n", 65536), large},
		{"200 lines", strings.Repeat("tick\n", 200), strings.Repeat("ok 0\n", 200)},
		{"200 lines, the last without a newline", strings.Repeat("tick\n", 199) + "tick", strings.Repeat("ok 0\n", 200)},
		{"199 lines", strings.Repeat("tick\n", 199), strings.Repeat("ok 0\n", 199)},
		{"201 lines", strings.Repeat("tick\n", 201), large},
		{"201 lines, the last without a newline", strings.Repeat("tick\n", 200) + "tick", large},
		{"201 lines, the last a space", strings.Repeat("tick\n", 200) + " ", large},
		{"201 lines, all of them empty", strings.Repeat("\n", 201), large},
		{"201 lines, the last empty", strings.Repeat("tick\n", 200) + "\n", large},
		{"201 lines, most of them remarks", "tick\n" + strings.Repeat("#\n", 200), large},
		{"200 lines, most of them empty", "tick\n" + strings.Repeat("\n", 198) + "tick\n", "ok 0\nok 0\n"},
		{"201 lines, the first of them empty", strings.Repeat("\n", 200) + "tick\n", large},
		{"300 lines", strings.Repeat("\n", 300), large},
	} {
		if got := desk.Run(x.script); got != x.want {
			t.Errorf("%s: %d bytes: %.40q, not %.40q", x.name, len(x.script), got, x.want)
		}
	}
}

// TestErrorsChangeNothing: between any two lines of a script, a line with an error changes none of the other replies.
func TestErrorsChangeNothing(t *testing.T) { // P77
	script := []string{"world 3 2 4", "append 9", "tick", "peers", "crash 1", "tick", "peers", "append 3", "tick", "peers"}
	want := desk.Run(strings.Join(script, "\n"))
	wrong := append(wrongLines(),
		"append 1000001", "append 999999999", "crash 3", "crash 999999999", "world 0 1 1", "world 9 1 1", "world 1 1001 1", "world 1 1 0", "world 1 1 1001",
		"conv 1 2,3", "deconv 2,1 0,0", "shape 1 2,1", "close 1000001", "back 1 1,2", "delay 1 0", "bucket 61 1 1", "window 1 0 1", "bound 1 0 0", "rate 1 1 0")
	for _, line := range wrong {
		reply := desk.Run(line)
		if !strings.HasPrefix(reply, "error ") {
			t.Fatalf("%q: %q", line, reply)
		}
		var all []string
		for _, l := range script {
			all = append(all, l, line)
		}
		got := desk.Run(strings.Join(all, "\n"))
		if strings.Join(even(strings.SplitAfter(got, "\n")), "") != want {
			t.Fatalf("%q: %q", line, got)
		}
	}
}

// even returns the items at even places.
func even(l []string) []string {
	var out []string
	for i := 0; i < len(l); i += 2 {
		out = append(out, l[i])
	}
	return out
}
