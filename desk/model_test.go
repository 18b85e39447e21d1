package desk_test

import (
	"fmt"
	"regexp"
	"strconv"
	"strings"
	"testing"

	"headway/api"
	"headway/bound"
	"headway/catch"
	"headway/closure"
	"headway/conv"
	"headway/deconv"
	"headway/desk"
	"headway/plan"
	"headway/samples"
	"headway/shape"
	"headway/shaper"
	"headway/window"
	"headway/world"
)

// rule: how a command's line is written, and what it answers; a number is a list of one.
type rule struct {
	form *regexp.Regexp
	ask  func(w **world.World, a [][]int) (string, api.Errno)
}

// written returns the pattern of a line, by the words that the document tells it with.
func written(line string) *regexp.Regexp {
	number := `(?:0|[1-9][0-9]{0,8})`
	form := strings.ReplaceAll(line, " ", " +")
	form = strings.ReplaceAll(form, "L", "("+number+"(?:,"+number+")*)")
	form = strings.ReplaceAll(form, "N", "("+number+")")
	return regexp.MustCompile("^ *" + form + " *$")
}

// lists returns the rule of a command that answers with a list.
func lists(line string, f func(a [][]int) ([]int, api.Errno)) rule {
	return rule{written(line), func(_ **world.World, a [][]int) (string, api.Errno) {
		l, e := f(a)
		return "ok " + strings.Trim(strings.ReplaceAll(fmt.Sprint(l), " ", ","), "[]"), e
	}}
}

// numbers returns the rule of a command that answers with a number.
func numbers(line string, f func(a [][]int) (int, api.Errno)) rule {
	return rule{written(line), func(_ **world.World, a [][]int) (string, api.Errno) {
		n, e := f(a)
		return fmt.Sprintf("ok %d", n), e
	}}
}

// worlds returns the rule of a command that asks the World.
func worlds(line string, f func(w **world.World, a [][]int) (string, api.Errno)) rule {
	return rule{written(line), f}
}

// rules returns the rules of the commands, in the order of the document's table.
func rules() []rule {
	return []rule{
		lists("conv L L", func(a [][]int) ([]int, api.Errno) { return conv.Of(a[0], a[1]) }),
		lists("deconv L L", func(a [][]int) ([]int, api.Errno) { return deconv.Of(a[0], a[1]) }),
		lists("shape L L", func(a [][]int) ([]int, api.Errno) { return shaper.Of(a[0], a[1]) }),
		lists("close L", func(a [][]int) ([]int, api.Errno) { return closure.Of(a[0]) }),
		numbers("back L L", func(a [][]int) (int, api.Errno) { return bound.Back(a[0], a[1]) }),
		numbers("delay L L", func(a [][]int) (int, api.Errno) { return bound.Delay(a[0], a[1]) }),
		lists("bucket N N N", func(a [][]int) ([]int, api.Errno) { return shape.Bucket(a[0][0], a[1][0], a[2][0]) }),
		numbers("window N N N", func(a [][]int) (int, api.Errno) { return window.Done(a[0][0], a[1][0], a[2][0]) }),
		numbers("bound L N N", func(a [][]int) (int, api.Errno) { return catch.Bound(a[0], a[1][0], a[2][0]) }),
		numbers("rate L N N", func(a [][]int) (int, api.Errno) { return plan.Rate(a[0], a[1][0], a[2][0]) }),
		worlds("world N N N", begin),
		worlds("append N", func(w **world.World, a [][]int) (string, api.Errno) { return "ok", (*w).Append(a[0][0]) }),
		worlds("crash N", func(w **world.World, a [][]int) (string, api.Errno) { return "ok", (*w).Crash(a[0][0]) }),
		worlds("tick", func(w **world.World, _ [][]int) (string, api.Errno) { return fmt.Sprintf("ok %d", (*w).Tick()), api.OK }),
		worlds("peers", tell),
	}
}

func begin(w **world.World, a [][]int) (string, api.Errno) {
	other, e := world.New(a[0][0], a[1][0], a[2][0])
	if e == api.OK {
		*w = other
	}
	return "ok", e
}

func tell(w **world.World, _ [][]int) (string, api.Errno) {
	text := "ok"
	for _, p := range (*w).Peers() {
		text += fmt.Sprintf(" %d/%d", p.Lag, p.Part)
	}
	return text, api.OK
}

// model is the desk otherwise: it keeps no World, but the lines that have changed one. It counts the right lines of each rule, and behind them those with each error.
type model struct {
	rules []rule
	met   []int
}

func modelOf() *model {
	l := rules()
	return &model{l, make([]int, len(l)+10)}
}

// run returns the replies to lines.
func (m *model) run(lines []string) string {
	out, changes := "", []string{}
	for _, line := range lines {
		if words := strings.Trim(line, " ") + " "; words == " " || strings.HasPrefix(words, "# ") {
			continue
		}
		w, _ := world.New(2, 1, 1)
		for _, before := range changes {
			m.answer(&w, before)
		}
		text, i, e := m.answer(&w, line)
		if e != api.OK {
			text, i = fmt.Sprintf("error %d", e), len(m.rules)+int(e)
		} else if i >= 10 {
			changes = append(changes, line)
		}
		m.met[i]++
		out += text + "\n"
	}
	return out
}

// answer returns what w answers to a line, by the rule whose position is returned too.
func (m *model) answer(w **world.World, line string) (string, int, api.Errno) {
	for i, r := range m.rules {
		if found := r.form.FindStringSubmatch(line); found != nil {
			text, e := r.ask(w, taken(found[1:]))
			return text, i, e
		}
	}
	return "", -1, api.ErrWord
}

// taken returns the lists that texts are.
func taken(texts []string) [][]int {
	var out [][]int
	for _, text := range texts {
		var l []int
		for part := range strings.SplitSeq(text, ",") {
			n, _ := strconv.Atoi(part)
			l = append(l, n)
		}
		out = append(out, l)
	}
	return out
}

// dice gives numbers that hang on a seed alone.
type dice struct{ seed int }

// below returns a number from 0 to n-1.
func (d *dice) below(n int) int {
	d.seed = (d.seed*1103515245 + 12345) % (1 << 31)
	return (d.seed >> 8) % n
}

// one returns any of the texts.
func (d *dice) one(texts ...string) string { return texts[d.below(len(texts))] }

// number returns a number that is mostly small.
func (d *dice) number() string {
	if d.below(12) == 0 {
		return d.one("60", "61", "200", "201", "1000", "1001", "10000", "10001", "999999", "1000000", "1000001", "999999999", "1000000000", "01", "-1", "")
	}
	return strconv.Itoa(d.below(9))
}

// list returns n numbers, most of which are no less than those before them.
func (d *dice) list(n int) string {
	var l []string
	at := 0
	for range n {
		at += d.below(6)
		if d.below(80) == 0 {
			at = d.below(2) * 1000000
		}
		l = append(l, strconv.Itoa(at))
	}
	return strings.Join(l, ",")
}

// line returns a line of any command, of which some are spoiled.
func (d *dice) line() string {
	form := d.one("conv L L", "deconv L L", "shape L L", "close L", "back L L", "delay L L", "bucket N N N", "window N N N", "bound L N N", "rate L N N",
		"world N N N", "append N", "append N", "append N", "crash N", "crash N", "tick", "tick", "tick", "tick", "peers", "peers", "peers", "# tick", "")
	length := 1 + d.below(6)
	line := ""
	for word := range strings.SplitSeq(form, " ") {
		switch word {
		case "L":
			word = d.list(length + d.below(15)/14)
		case "N":
			word = d.number()
		}
		line += d.one("", "", "", " ", "  ") + word + " "
	}
	if d.below(12) == 0 {
		at := d.below(len(line))
		line = line[:at] + d.one("", " ", ",", "0", "7", "#", "\t", "\r", "\x00", "\xff", "\u00a0") + line[at+d.below(2):]
	}
	return line
}

// TestAgainstModel holds many scripts of all commands against the model, which has to meet each rule and each error.
func TestAgainstModel(t *testing.T) { // P77
	m := modelOf()
	for seed := range 600 {
		d := &dice{seed * 7919}
		var lines []string
		for range 1 + d.below(40) {
			lines = append(lines, d.line())
		}
		script := strings.Join(lines, "\n") + d.one("\n", "")
		if got, want := desk.Run(script), m.run(lines); got != want {
			t.Fatalf("%q: %q, not %q", script, got, want)
		}
	}
	for i, n := range m.met {
		e := api.Errno(i - len(m.rules))
		told := e < 0 || e >= api.ErrArg && e <= api.ErrNone || e == api.ErrWord
		if told && n < 20 || !told && n > 0 {
			t.Errorf("%d lines of kind %d (error %d)", n, i, e)
		}
	}
}

// TestLinesAgainstModel: so are the lines of the other tests, each on its own.
func TestLinesAgainstModel(t *testing.T) { // P77
	m := modelOf()
	for _, line := range append(wrongLines(), right()...) {
		if got, want := desk.Run(line), m.run([]string{line}); got != want {
			t.Errorf("%q: %q, not %q", line, got, want)
		}
	}
}

// TestNothingPanics: no short script, whatever its bytes are, and no spoiled one.
func TestNothingPanics(t *testing.T) { // P1, P77
	m := modelOf()
	for _, l := range samples.Lists([]string{"tick", "close", "conv", "1", ",", " ", "#", "\x00", "\xff", "\t", "\n"}, 4) {
		script := strings.Join(l, "")
		if got, want := desk.Run(script), m.run(strings.Split(script, "\n")); got != want {
			t.Fatalf("%q: %q, not %q", script, got, want)
		}
	}
	whole := strings.Join(right(), "\n")
	for at := range whole {
		for b := range 256 {
			script := whole[:at] + string([]byte{byte(b)}) + whole[at+1:]
			got := desk.Run(script)
			if b != '\n' && strings.Count(got, "\n") > len(right()) || got != "" && !strings.HasSuffix(got, "\n") {
				t.Fatalf("%q: %q", script, got)
			}
		}
	}
}

// TestScriptAlone: a reply hangs on its own script, not on those that were run ahead of it.
func TestScriptAlone(t *testing.T) { // P2, P77
	var scripts, want []string
	for seed := range 50 {
		d := &dice{seed}
		var lines []string
		for range 20 {
			lines = append(lines, d.line())
		}
		scripts = append(scripts, strings.Join(lines, "\n"))
		want = append(want, desk.Run(scripts[seed]))
	}
	for i := len(scripts) - 1; i >= 0; i-- {
		desk.Run(some + scripts[i])
		if got := desk.Run(scripts[i]); got != want[i] {
			t.Errorf("%q: %q, not %q", scripts[i], got, want[i])
		}
	}
}
