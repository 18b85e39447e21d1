package samples

import (
	"math"
	"slices"

	"headway/api"
)

// QueueCase: a list of packets, and the error that it deserves.
type QueueCase struct {
	Name string
	L    []api.Packet
	Want api.Errno
}

// SamePackets returns p, n times.
func SamePackets(n int, p api.Packet) []api.Packet { return slices.Repeat([]api.Packet{p}, n) }

// queueWith returns a queue of 60 packets that come at 1, 2 and so on, the one at i replaced by p.
func queueWith(i int, p api.Packet) []api.Packet {
	var l []api.Packet
	for at := 1; at <= 60; at++ {
		l = append(l, api.Packet{At: at, Size: 1})
	}
	l[i] = p
	return l
}

// QueueCases returns queues at the edges of what is right, and the errors that any function of a queue has, with their order.
func QueueCases() []QueueCase {
	good := api.Packet{At: 3, Size: 2, Flow: 1}
	return []QueueCase{
		{"nil", nil, api.OK},
		{"empty", []api.Packet{}, api.OK},
		{"empty with spare room", make([]api.Packet, 0, 70), api.OK},
		{"ordinary", []api.Packet{good}, api.OK},
		{"all at the least", []api.Packet{{At: 0, Size: 1, Flow: 0}}, api.OK},
		{"all at the most", []api.Packet{{At: 200, Size: 1000, Flow: 7}}, api.OK},
		{"at one time", []api.Packet{{At: 3, Size: 1}, {At: 3, Size: 1}}, api.OK},
		{"one after the other", []api.Packet{{At: 3, Size: 1}, {At: 4, Size: 1}}, api.OK},
		{"the first time and the last", []api.Packet{{Size: 1}, {At: 200, Size: 1}}, api.OK},
		{"falling sizes and flows", []api.Packet{{Size: 9, Flow: 5}, {At: 1, Size: 4, Flow: 2}}, api.OK},
		{"60 packets", SamePackets(60, good), api.OK},
		{"61 packets", SamePackets(61, good), api.ErrLarge},
		{"61 packets ahead of their bounds", SamePackets(61, api.Packet{At: -1}), api.ErrLarge},
		{"61 packets ahead of their order", append([]api.Packet{{At: 9, Size: 1}}, SamePackets(60, good)...), api.ErrLarge},
		{"a packet of zeros", []api.Packet{{}}, api.ErrArg},
		{"a negative flow", []api.Packet{{At: 3, Size: 2, Flow: -1}}, api.ErrArg},
		{"a flow too great by one", []api.Packet{{At: 3, Size: 2, Flow: 8}}, api.ErrArg},
		{"no size", []api.Packet{{At: 3, Size: 0, Flow: 1}}, api.ErrArg},
		{"a negative size", []api.Packet{{At: 3, Size: -1, Flow: 1}}, api.ErrArg},
		{"a size too great by one", []api.Packet{{At: 3, Size: 1001, Flow: 1}}, api.ErrArg},
		{"a negative time", []api.Packet{{At: -1, Size: 2, Flow: 1}}, api.ErrArg},
		{"a time too great by one", []api.Packet{{At: 201, Size: 2, Flow: 1}}, api.ErrArg},
		{"the least of all", []api.Packet{{At: math.MinInt, Size: math.MinInt, Flow: math.MinInt}}, api.ErrArg},
		{"the greatest of all", []api.Packet{{At: math.MaxInt, Size: math.MaxInt, Flow: math.MaxInt}}, api.ErrArg},
		{"ahead of the one before it by one", []api.Packet{{At: 3, Size: 1}, {At: 2, Size: 1}}, api.ErrForm},
		{"ahead of the one before it, though not of the first", []api.Packet{{At: 1, Size: 1}, {At: 5, Size: 1}, {At: 4, Size: 1}}, api.ErrForm},
		{"a packet's bounds ahead of its order", []api.Packet{{At: 3, Size: 1}, {At: 2, Size: 0}}, api.ErrArg},
		{"a negative time, which is out of order too", []api.Packet{{At: 3, Size: 1}, {At: -1, Size: 1}}, api.ErrArg},
		{"a packet's order ahead of the next one's bounds", []api.Packet{{At: 3, Size: 1}, {At: 2, Size: 1}, {At: 4}}, api.ErrForm},
		{"a packet's bounds ahead of the next one's order", []api.Packet{{At: 3, Size: 1}, {At: 4}, {At: 2, Size: 1}}, api.ErrArg},
		{"a wrong flow in the first of 60", queueWith(0, api.Packet{At: 1, Size: 1, Flow: 8}), api.ErrArg},
		{"a wrong size in the last of 60", queueWith(59, api.Packet{At: 60, Size: 1001}), api.ErrArg},
		{"a wrong time in the last of 60", queueWith(59, api.Packet{At: 201, Size: 1}), api.ErrArg},
		{"the last of 60 out of order", queueWith(59, api.Packet{At: 58, Size: 1}), api.ErrForm},
		{"the last of 60 at the time of the one before it", queueWith(59, api.Packet{At: 59, Size: 1}), api.OK},
	}
}

// SmallQueues returns all the queues of up to 4 packets of 1, 3 or 5 bytes that come 0, 1 or 3 times after one another.
func SmallQueues() [][]api.Packet {
	out := [][]api.Packet{nil}
	last := out
	for range 4 {
		var next [][]api.Packet
		for _, l := range last {
			at := 0
			if len(l) > 0 {
				at = l[len(l)-1].At
			}
			for _, later := range []int{0, 1, 3} {
				for _, size := range []int{1, 3, 5} {
					p := api.Packet{At: at + later, Size: size, Flow: len(l)}
					next = append(next, append(slices.Clone(l), p))
				}
			}
		}
		out = append(out, next...)
		last = next
	}
	return out
}

// LongQueues returns queues of 60 packets, of several forms.
func LongQueues() [][]api.Packet {
	var out [][]api.Packet
	for _, step := range []int{0, 1, 2, 3} {
		for _, size := range []func(i int) int{
			func(i int) int { return 1 + i%9 },
			func(i int) int { return 1000 - i },
			func(i int) int { return 1 + i*i*37%1000 },
		} {
			var l []api.Packet
			for i := range 60 {
				l = append(l, api.Packet{At: i*step + i%(step+1), Size: size(i), Flow: i % 8})
			}
			slices.SortStableFunc(l, func(p, q api.Packet) int { return p.At - q.At })
			out = append(out, l)
		}
	}
	return out
}
