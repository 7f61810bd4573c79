package quorum_test

import (
	"fmt"
	"math"
	"slices"
	"strings"
	"testing"

	"glacier/api"
	"glacier/quorum"
	"glacier/raft"
	"glacier/term"
)

func want[T comparable](t *testing.T, what string, got, want T) {
	t.Helper()
	if got != want {
		t.Errorf("%s: %v, want %v", what, got, want)
	}
}

// must ends the test if a call that prepares it fails.
func must(t *testing.T, l ...api.Errno) {
	t.Helper()
	for i, e := range l {
		if e != api.OK {
			t.Fatalf("call %d: %d", i, e)
		}
	}
}

// open returns a net of n nodes with large disks.
func open(t *testing.T, n int) *quorum.Net {
	t.Helper()
	q, e := quorum.New(n, 1<<20)
	must(t, e)
	return q
}

func ticks(q *quorum.Net, i, n int) {
	for range n {
		q.Tick(i)
	}
}

// flush delivers messages until none is in transit.
func flush(q *quorum.Net) {
	for q.On() > 0 {
		q.Deliver(0)
	}
}

// lead lets a node's timer run off, which makes it the leader if the others can be reached.
func lead(t *testing.T, q *quorum.Net, i int) {
	t.Helper()
	for range 4 + 2*i {
		q.Tick(i)
	}
	flush(q)
	if q.Leader() != i {
		t.Fatalf("%d leads, want %d", q.Leader(), i)
	}
}

// led returns a net of n nodes of which node 0 is the leader, and without messages in transit.
func led(t *testing.T, n int) *quorum.Net {
	t.Helper()
	q := open(t, n)
	lead(t, q, 0)
	return q
}

func entries(l []term.Entry) string {
	var b strings.Builder
	for _, x := range l {
		fmt.Fprintf(&b, " %d/%d %q", x.Index, x.Term, x.Cmd)
	}
	return b.String()
}

// tell is messages as text: the kind, the nodes, the number of the entry, and of how many entries it has.
func tell(l []raft.Msg) string {
	var texts []string
	for _, m := range l {
		kind := []string{"", "Ask", "Vote", "More", "Have", "Install"}[m.Kind]
		texts = append(texts, fmt.Sprintf("%s %d>%d %d+%d", kind, m.From, m.To, m.Index, len(m.Entries)))
	}
	return strings.Join(texts, ", ")
}

func wantWay(t *testing.T, what string, q *quorum.Net, l string) {
	t.Helper()
	want(t, what+": Way", tell(q.Way()), l)
	want(t, what+": On", q.On(), len(q.Way()))
}

// fill fills what is in transit up to n messages, with copies of the first one.
func fill(q *quorum.Net, n int) {
	for range n - q.On() {
		q.Again(0)
	}
}

// numbers are no numbers of one of n things.
func numbers(n int) []int {
	return []int{-1, n, n + 1, math.MaxInt, math.MinInt}
}

// P11.1: New: only 1 to 5 nodes; they are up, new and without messages, and their disks have the capacity.
func TestNew(t *testing.T) {
	for _, n := range []int{0, -1, 6, 7, math.MinInt, math.MaxInt} {
		q, e := quorum.New(n, 1000)
		want(t, fmt.Sprint("New of ", n), e, api.ErrArg)
		want(t, fmt.Sprint("New of ", n), q == nil, true)
	}
	for n := 1; n <= api.MaxNodes; n++ {
		for _, room := range []int{1000, 1, 0, -1, math.MaxInt, math.MinInt} {
			q, e := quorum.New(n, room)
			must(t, e)
			want(t, "Len", q.Len(), n)
			want(t, "Up", q.Up(), n)
			want(t, "Leader", q.Leader(), -1)
			wantWay(t, "New", q, "")
			for i := range n {
				want(t, "Room", q.Disk(i).Room(), max(room, 0))
				want(t, "Used", q.Disk(i).Used(), 0)
				r := q.Node(i)
				want(t, "node", fmt.Sprint(r.Role(), r.Term(), r.Leader(), r.Commit(), r.Last()), "0 0 -1 0 0")
				for j := range i {
					want(t, "the same disk", q.Disk(i) == q.Disk(j), false)
				}
			}
		}
	}
}

// P11.1: each node has its own number, and knows how many there are: its timer, and the others to whom it sends, say so.
func TestNumbers(t *testing.T) {
	for n := 1; n <= api.MaxNodes; n++ {
		for i := range n {
			q := open(t, n)
			ticks(q, i, 3+2*i)
			want(t, "too few ticks", q.Node(i).Role(), raft.Follower)
			wantWay(t, "too few ticks", q, "")
			q.Tick(i)
			var l []string
			for j := range n {
				if j != i {
					l = append(l, fmt.Sprintf("Ask %d>%d 0+0", i, j))
				}
			}
			wantWay(t, "election", q, strings.Join(l, ", "))
			want(t, "alone", q.Leader() == i, n == 1)
		}
	}
}

// P11.1: Node is nil if the node is down or does not exist; a node that is started again has what it stored, and nothing else.
func TestNode(t *testing.T) {
	q := led(t, 3)
	for _, i := range numbers(3) {
		want(t, fmt.Sprint("Node ", i), q.Node(i) == nil, true)
	}
	old, disk := q.Node(0), q.Disk(0)
	want(t, "the same node", q.Node(0) == old, true)
	must(t, q.Crash(0))
	want(t, "down", q.Node(0) == nil, true)
	want(t, "Len", q.Len(), 3)
	want(t, "Up", q.Up(), 2)
	want(t, "the same disk, down", q.Disk(0) == disk, true)
	must(t, q.Start(0))
	r := q.Node(0)
	want(t, "another node", r == nil || r == old, false)
	want(t, "Up", q.Up(), 3)
	want(t, "the same disk", q.Disk(0) == disk, true)
	want(t, "started", fmt.Sprint(r.Role(), r.Term(), r.Leader(), r.Commit(), r.Last()), "0 1 -1 0 1")
}

// P11.1: Start: ErrArg if there is no such node, ErrThere if it is up, and then its disk stays armed.
func TestStartRefused(t *testing.T) {
	q := open(t, 3)
	for _, i := range numbers(3) {
		want(t, fmt.Sprint("Start ", i), q.Start(i), api.ErrArg)
	}
	r := q.Node(1)
	q.Disk(1).Fail(0)
	want(t, "up", q.Start(1), api.ErrThere)
	want(t, "the same node", q.Node(1) == r, true)
	want(t, "armed", q.Disk(1).Try(), api.ErrIO)
	q.Disk(1).Lose()
	want(t, "up, lost", q.Start(1), api.ErrThere)
}

// P11.1: Start disarms the disk; then it returns Open's error, and the node stays down, or the node is up.
func TestStart(t *testing.T) {
	q := led(t, 3)
	for _, n := range []int{0, 1, 2, 3} {
		must(t, q.Crash(2))
		q.Disk(2).Fail(n)
		want(t, "armed", q.Start(2), api.OK)
		for range 5 {
			must(t, q.Disk(2).Try())
		}
	}
	must(t, q.Crash(2))
	q.Disk(2).Fail(7)
	q.Disk(2).Spoil("term", 8, 1)
	for range 2 {
		want(t, "spoilt", q.Start(2), api.ErrSum)
		want(t, "spoilt: node", q.Node(2) == nil, true)
		want(t, "spoilt: Up", q.Up(), 2)
	}
	for range 9 {
		must(t, q.Disk(2).Try())
	}
	q.Disk(2).Spoil("term", 8, 1)
	want(t, "not spoilt any more", q.Start(2), api.OK)
	want(t, "Up", q.Up(), 3)
	must(t, q.Crash(2))
	q.Disk(2).Lose()
	want(t, "lost", q.Start(2), api.ErrLost)
	want(t, "lost: node", q.Node(2) == nil, true)
	want(t, "lost: Crash", q.Crash(2), api.ErrDown)
}

// P11.1: Crash: ErrDown if the node is down or does not exist.
func TestCrashRefused(t *testing.T) {
	q := open(t, 3)
	for _, i := range numbers(3) {
		want(t, fmt.Sprint("Crash ", i), q.Crash(i, 1), api.ErrDown)
	}
	want(t, "Up", q.Up(), 3)
	must(t, q.Crash(1))
	must(t, q.Disk(1).Append("x", "abc"))
	want(t, "down", q.Crash(1, 2), api.ErrDown)
	want(t, "down: its disk has no Crash", q.Disk(1).Safe(), false)
	want(t, "Up", q.Up(), 2)
}

// P11.1: Crash: the disk of the node, and no other one, has a Crash with the choices.
func TestCrash(t *testing.T) {
	for _, c := range []struct {
		choice []int
		left   string
	}{
		{nil, " "},
		{[]int{2}, "ab "},
		{[]int{0, 3}, " uvw"},
		{[]int{1, 2}, "a uv"},
		{[]int{4, 5, 6}, " u"},
		{[]int{-1, -2}, "abc uv"},
	} {
		q := open(t, 3)
		for i := range 3 {
			must(t, q.Disk(i).Append("x", "abc"), q.Disk(i).Append("y", "uvw"))
		}
		choice := slices.Clone(c.choice)
		want(t, "Crash", q.Crash(1, choice...), api.OK)
		want(t, "choice", slices.Equal(choice, c.choice), true)
		for i, left := range []string{"abc uvw", c.left, "abc uvw"} {
			x, _ := q.Disk(i).Read("x")
			y, _ := q.Disk(i).Read("y")
			want(t, fmt.Sprint("disk ", i, " after Crash ", c.choice), x+" "+y, left)
			want(t, "Safe", q.Disk(i).Safe(), i == 1)
		}
	}
}

// P11.1: Crash changes nothing in transit: what the node has sent is delivered, and what is sent to it while it is down is lost.
func TestCrashWay(t *testing.T) {
	q := open(t, 3)
	ticks(q, 0, 4)
	must(t, q.Crash(0), q.Crash(2))
	wantWay(t, "down", q, "Ask 0>1 0+0, Ask 0>2 0+0")
	q.Deliver(1)
	wantWay(t, "to a node that is down", q, "Ask 0>1 0+0")
	q.Deliver(0)
	wantWay(t, "from a node that is down", q, "Vote 1>0 0+0")
	must(t, q.Start(0), q.Start(2))
	wantWay(t, "up", q, "Vote 1>0 0+0")
	want(t, "not delivered while it was down", q.Node(2).Term(), 0)
}

// P11.1: a node that is down, or does not exist, gets no Tick, Propose or Compact: they do nothing, and return ErrDown.
func TestDown(t *testing.T) {
	for _, i := range append(numbers(3), 1) {
		q := led(t, 3)
		must(t, q.Crash(1))
		used, disk := q.Disk(1).Used(), []int{q.Disk(0).Used(), q.Disk(2).Used()}
		ticks(q, i, 20)
		index, at, e := q.Propose(i, "a")
		what := fmt.Sprint("node ", i)
		want(t, what+": Propose", fmt.Sprint(index, at, e), fmt.Sprint(0, 0, api.ErrDown))
		index, at, e = q.Propose(i, strings.Repeat("a", term.MaxCmd+1))
		want(t, what+": Propose, too big", fmt.Sprint(index, at, e), fmt.Sprint(0, 0, api.ErrDown))
		want(t, what+": Compact", q.Compact(i, "s"), api.ErrDown)
		want(t, what+": Compact, too big", q.Compact(i, strings.Repeat("s", term.MaxSnap+1)), api.ErrDown)
		wantWay(t, what, q, "")
		want(t, what+": Up", q.Up(), 2)
		want(t, what+": Used", q.Disk(1).Used(), used)
		want(t, what+": others", slices.Equal(disk, []int{q.Disk(0).Used(), q.Disk(2).Used()}), true)
	}
}

// P11.1: Propose calls the node's method: its results are those of the node, and what it sends is in transit.
func TestPropose(t *testing.T) {
	q := led(t, 3)
	index, at, e := q.Propose(0, "a")
	want(t, "leader", fmt.Sprint(index, at, e), "2 1 0")
	wantWay(t, "leader", q, "More 0>1 1+1, More 0>2 1+1")
	want(t, "entry", entries(q.Node(0).State().Log), ` 1/1 "" 2/1 "a"`)
	index, at, e = q.Propose(1, "b")
	want(t, "follower", fmt.Sprint(index, at, e), fmt.Sprint(0, 0, api.ErrLeader))
	index, at, e = q.Propose(0, strings.Repeat("c", term.MaxCmd+1))
	want(t, "too big", fmt.Sprint(index, at, e), fmt.Sprint(0, 0, api.ErrBig))
	wantWay(t, "refused", q, "More 0>1 1+1, More 0>2 1+1")
	flush(q)
	for i := range 3 {
		want(t, "entries", entries(q.Node(i).State().Log), ` 1/1 "" 2/1 "a"`)
	}
	index, at, e = q.Propose(0, strings.Repeat("c", term.MaxCmd))
	want(t, "as big as may be", fmt.Sprint(index, at, e), "3 1 0")
}

// P11.1: Compact calls the node's method, and returns its error.
func TestCompact(t *testing.T) {
	q := led(t, 3)
	want(t, "nothing handed out", q.Compact(0, "s"), api.ErrNone)
	_, _, l := q.Node(0).Fresh()
	want(t, "handed out", len(l), 1)
	want(t, "too big", q.Compact(0, strings.Repeat("s", term.MaxSnap+1)), api.ErrBig)
	want(t, "before", q.Node(0).State().Base, 0)
	want(t, "leader", q.Compact(0, "s"), api.OK)
	s := q.Node(0).State()
	want(t, "snapshot", fmt.Sprintf("%d %d %q%s", s.Base, s.BaseTerm, s.Snap, entries(s.Log)), `1 1 "s"`)
	want(t, "others", q.Node(1).State().Base, 0)
	want(t, "again", q.Compact(0, "s"), api.ErrNone)
	wantWay(t, "Compact", q, "")
}

// P11.1: what a node sends comes after what is in transit, in its order; only what still fits is in transit then.
func TestSend(t *testing.T) {
	const all = "Ask 0>1 0+0, Ask 0>2 0+0, Ask 0>3 0+0, Ask 0>4 0+0"
	for space := range 7 {
		q := open(t, 5)
		ticks(q, 4, 12)
		fill(q, quorum.MaxWay-space)
		before := q.Way()
		ticks(q, 0, 4)
		l := strings.Split(all, ", ")
		l = l[:min(space, len(l))]
		way := q.Way()
		want(t, "On", q.On(), len(before)+len(l))
		want(t, "before", tell(way[:len(before)]), tell(before))
		want(t, "sent", tell(way[len(before):]), strings.Join(l, ", "))
		want(t, "node", q.Node(0).Role(), raft.Candidate)
	}
	want(t, "MaxWay", quorum.MaxWay, 200)
}

// P11.1: Deliver removes the message from the list, and passes it to its destination, whose answer goes to the end.
func TestDeliver(t *testing.T) {
	q := open(t, 4)
	ticks(q, 0, 4)
	wantWay(t, "before", q, "Ask 0>1 0+0, Ask 0>2 0+0, Ask 0>3 0+0")
	for _, k := range numbers(3) {
		q.Deliver(k)
		wantWay(t, fmt.Sprint("Deliver ", k), q, "Ask 0>1 0+0, Ask 0>2 0+0, Ask 0>3 0+0")
	}
	q.Deliver(1)
	wantWay(t, "the second one", q, "Ask 0>1 0+0, Ask 0>3 0+0, Vote 2>0 0+0")
	want(t, "others", fmt.Sprint(q.Node(1).Term(), q.Node(2).Term(), q.Node(3).Term()), "0 1 0")
	q.Deliver(1)
	wantWay(t, "now the second one", q, "Ask 0>1 0+0, Vote 2>0 0+0, Vote 3>0 0+0")
	q.Deliver(1)
	wantWay(t, "an answer", q, "Ask 0>1 0+0, Vote 3>0 0+0")
	want(t, "an answer", q.Leader(), -1)
	q.Deliver(1)
	wantWay(t, "the last one", q, "Ask 0>1 0+0, More 0>1 0+1, More 0>2 0+1, More 0>3 0+1")
	want(t, "more than half", q.Leader(), 0)
}

// P11.1: Deliver removes the message first, so that in a full list there is space for one that is sent then.
func TestDeliverFull(t *testing.T) {
	q := open(t, 3)
	ticks(q, 0, 4)
	fill(q, quorum.MaxWay)
	q.Deliver(0)
	want(t, "On", q.On(), quorum.MaxWay)
	want(t, "answer", tell(q.Way()[quorum.MaxWay-1:]), "Vote 1>0 0+0")
	q.Deliver(quorum.MaxWay - 1)
	want(t, "On", q.On(), quorum.MaxWay)
	want(t, "one of two messages", tell(q.Way()[quorum.MaxWay-2:]), "Ask 0>1 0+0, More 0>1 0+1")
}

// P11.1: Drop removes the message, which nobody gets. Again appends it once more, if that fits.
func TestDropAgain(t *testing.T) {
	q := open(t, 3)
	ticks(q, 0, 4)
	const both = "Ask 0>1 0+0, Ask 0>2 0+0"
	for _, k := range numbers(2) {
		q.Drop(k)
		wantWay(t, fmt.Sprint("Drop ", k), q, both)
		q.Again(k)
		wantWay(t, fmt.Sprint("Again ", k), q, both)
	}
	q.Again(0)
	wantWay(t, "Again", q, both+", Ask 0>1 0+0")
	q.Again(2)
	wantWay(t, "Again of the last one", q, both+", Ask 0>1 0+0, Ask 0>1 0+0")
	q.Drop(1)
	wantWay(t, "Drop", q, "Ask 0>1 0+0, Ask 0>1 0+0, Ask 0>1 0+0")
	q.Drop(2)
	wantWay(t, "Drop of the last one", q, "Ask 0>1 0+0, Ask 0>1 0+0")
	q.Deliver(0)
	q.Deliver(0)
	wantWay(t, "answers", q, "Vote 1>0 0+0, Vote 1>0 0+0")
	want(t, "dropped", q.Node(2).Term(), 0)
	flush(q)
	want(t, "leader", q.Leader(), 0)
	q.Drop(0)
	q.Again(0)
	wantWay(t, "nothing in transit", q, "")
}

// P11.1: Again of a message does nothing if the list is full, and what is delivered twice is processed twice.
func TestAgainFull(t *testing.T) {
	q := open(t, 3)
	ticks(q, 0, 4)
	fill(q, quorum.MaxWay-1)
	q.Again(1)
	want(t, "On", q.On(), quorum.MaxWay)
	want(t, "fits", tell(q.Way()[quorum.MaxWay-1:]), "Ask 0>2 0+0")
	before := tell(q.Way())
	q.Again(1)
	want(t, "full", tell(q.Way()), before)
	for q.On() > 2 {
		q.Drop(0)
	}
	wantWay(t, "two are left", q, "Ask 0>1 0+0, Ask 0>2 0+0")
	q.Again(0)
	q.Deliver(0)
	q.Deliver(1)
	wantWay(t, "twice", q, "Ask 0>2 0+0, Vote 1>0 0+0, Vote 1>0 0+0")
}

// P11.1: a call whose disk fails, at whichever call of it, sends nothing, and the node goes down, as after Crash without choices.
func TestBroken(t *testing.T) {
	for _, c := range []struct {
		what string
		do   func(q *quorum.Net) api.Errno
		e    api.Errno
		way  string
	}{
		{"Tick", func(q *quorum.Net) api.Errno { ticks(q, 0, 4); return api.OK }, api.OK, ""},
		{"Propose", func(q *quorum.Net) api.Errno { _, _, e := q.Propose(0, "a"); return e }, api.ErrIO, ""},
		{"Compact", func(q *quorum.Net) api.Errno { return q.Compact(0, "s") }, api.ErrIO, ""},
		{"Deliver", func(q *quorum.Net) api.Errno { q.Deliver(1); return api.OK }, api.OK, "Ask 1>2 1+0"},
		{"Round", func(q *quorum.Net) api.Errno { q.Round(); return api.OK }, api.OK, "Vote 2>1 0+0"},
	} {
		for n := range 2 {
			q := led(t, 3)
			q.Node(0).Fresh()
			switch c.what {
			case "Tick": // a follower whose timer runs off
				must(t, q.Crash(0), q.Start(0))
			case "Deliver", "Round":
				ticks(q, 1, 6)
				q.Again(0)
				q.Drop(0)
				if c.what == "Deliver" {
					wantWay(t, "before", q, "Ask 1>2 1+0, Ask 1>0 1+0")
				}
			}
			stored := fmt.Sprint(q.Node(0).State())
			used := q.Disk(0).Used()
			q.Disk(0).Fail(n)
			what := fmt.Sprintf("%s, call %d of the disk fails", c.what, n)
			want(t, what, c.do(q), c.e)
			want(t, what+": node", q.Node(0) == nil, true)
			want(t, what+": Up", q.Up(), 2)
			wantWay(t, what, q, c.way)
			want(t, what+": Safe", q.Disk(0).Safe(), true)
			want(t, what+": Used", q.Disk(0).Used(), used)
			want(t, what+": Start", q.Start(0), api.OK)
			want(t, what+": stored", fmt.Sprint(q.Node(0).State()), stored)
		}
	}
}

// P11.1: a Propose that the leader refuses because its disk is lost makes it go down for good.
func TestLostDisk(t *testing.T) {
	q := led(t, 3)
	q.Disk(0).Lose()
	want(t, "up", q.Up(), 3)
	index, at, e := q.Propose(0, "a")
	want(t, "Propose", fmt.Sprint(index, at, e), fmt.Sprint(0, 0, api.ErrLost))
	want(t, "Up", q.Up(), 2)
	wantWay(t, "Propose", q, "")
	want(t, "Start", q.Start(0), api.ErrLost)
	want(t, "Up", q.Up(), 2)
}

// P11.1: a disk without space breaks its node, in a single one as well; the node can be started again.
func TestFullDisk(t *testing.T) {
	for n := 1; n <= 2; n++ {
		q, e := quorum.New(n, 0)
		must(t, e)
		ticks(q, 0, 3)
		want(t, "Up", q.Up(), n)
		q.Tick(0)
		want(t, "Up after the fourth Tick", q.Up(), n-1)
		wantWay(t, "fourth Tick", q, "")
		want(t, "Start", q.Start(0), api.OK)
	}
}

// P11.1: Round delivers as many messages as are in transit, always the first one, and then performs a Tick of each node, in order.
func TestRound(t *testing.T) {
	q := open(t, 4)
	for range 3 {
		q.Round()
	}
	wantWay(t, "3 Rounds", q, "")
	q.Round()
	const ask = "Ask 0>1 0+0, Ask 0>2 0+0, Ask 0>3 0+0"
	wantWay(t, "4 Rounds", q, ask)
	q.Round()
	wantWay(t, "5 Rounds: not the answers", q, "Vote 1>0 0+0, Vote 2>0 0+0, Vote 3>0 0+0")
	q.Round()
	// The second vote makes it the leader, and its Tick sends once more.
	wantWay(t, "6 Rounds", q, "More 0>1 0+1, More 0>2 0+1, More 0>3 0+1, More 0>1 0+1, More 0>2 0+1, More 0>3 0+1")
	want(t, "Leader", q.Leader(), 0)
	must(t, q.Crash(2))
	q.Round()
	wantWay(t, "a node is down", q, "Have 1>0 1+0, Have 3>0 1+0, Have 1>0 1+0, Have 3>0 1+0, More 0>1 0+1, More 0>2 0+1, More 0>3 0+1")
}

// P11.1: Round: the Ticks come in the order of the nodes, each after all messages.
func TestRoundOrder(t *testing.T) {
	q := open(t, 3)
	ticks(q, 1, 5)
	ticks(q, 0, 3)
	ticks(q, 2, 7)
	q.Round()
	wantWay(t, "Ticks", q, "Ask 0>1 0+0, Ask 0>2 0+0, Ask 1>0 0+0, Ask 1>2 0+0, Ask 2>0 0+0, Ask 2>1 0+0")
	q = led(t, 3)
	_, _, e := q.Propose(0, "a")
	must(t, e)
	ticks(q, 1, 5)
	// Without More, the sixth Tick of node 1 would start an election.
	q.Round()
	want(t, "first the messages", q.Node(1).Role(), raft.Follower)
	wantWay(t, "first the messages", q, "Have 1>0 2+0, Have 2>0 2+0, More 0>1 1+1, More 0>2 1+1")
}

// P11.1: Round with a full list, and where what is sent does not fit.
func TestRoundFull(t *testing.T) {
	q := open(t, 5)
	ticks(q, 0, 4)
	fill(q, quorum.MaxWay)
	q.Round()
	want(t, "On", q.On(), quorum.MaxWay)
	votes := 0
	for _, m := range q.Way() {
		if m.Kind == raft.Vote && m.To == 0 {
			votes++
		}
	}
	want(t, "answers", votes, quorum.MaxWay)
}

// P11.1: Leader: of the nodes that are up and leaders, the one with the greatest term.
func TestLeader(t *testing.T) {
	q := led(t, 4)
	want(t, "only one", q.Leader(), 0)
	ticks(q, 2, 8)
	for k := q.On() - 1; k >= 0; k-- {
		if q.Way()[k].To == 0 {
			q.Drop(k)
		}
	}
	for q.On() > 0 {
		if q.Way()[0].To == 0 {
			q.Drop(0)
		} else {
			q.Deliver(0)
		}
	}
	want(t, "the old one", q.Node(0).Role(), raft.Leader)
	want(t, "a later one", q.Leader(), 2)
	must(t, q.Crash(2))
	want(t, "the later one is down", q.Leader(), 0)
	must(t, q.Start(2))
	want(t, "it is up again", q.Leader(), 0)
	must(t, q.Crash(0))
	want(t, "none", q.Leader(), -1)
	ticks(q, 3, 10)
	want(t, "a candidate is none", q.Leader(), -1)
}

// P11.1: Leader: the lowest number, if several lead in the same term, which only votes that nobody gave can bring about.
func TestLeaders(t *testing.T) {
	q := open(t, 5)
	for _, i := range []int{3, 1, 4} {
		ticks(q, i, 4+2*i)
		for from := range 5 {
			q.Node(i).Step(raft.Msg{Kind: raft.Vote, From: from, To: i, Term: 1, OK: true})
		}
		want(t, "role", q.Node(i).Role(), raft.Leader)
	}
	want(t, "three", q.Leader(), 1)
	must(t, q.Crash(1))
	want(t, "two", q.Leader(), 3)
	must(t, q.Crash(3))
	want(t, "one", q.Leader(), 4)
}

// P11.1, K3: what Way returns is new memory, and its fields are those that the node sent.
func TestWay(t *testing.T) {
	q := led(t, 3)
	_, _, e := q.Propose(0, "a")
	must(t, e)
	q.Again(0)
	l, other := q.Way(), q.Way()
	want(t, "message", fmt.Sprint(l[0]), fmt.Sprint(raft.Msg{Kind: raft.More, From: 0, To: 1, Term: 1, Index: 1, LogTerm: 1, Commit: 1, Entries: []term.Entry{{Index: 2, Term: 1, Cmd: "a"}}}))
	want(t, "the same once more", fmt.Sprint(l[2]), fmt.Sprint(l[0]))
	l[0].Entries[0].Cmd = "x"
	l[1].To = 0
	l[1].Entries = append(l[1].Entries, term.Entry{})
	_ = append(l[:2], raft.Msg{}, raft.Msg{})
	want(t, "the other message", other[2].Entries[0].Cmd, "a")
	want(t, "Way before", tell(other), "More 0>1 1+1, More 0>2 1+1, More 0>1 1+1")
	wantWay(t, "Way after", q, "More 0>1 1+1, More 0>2 1+1, More 0>1 1+1")
	flush(q)
	for i := range 3 {
		want(t, "entries", entries(q.Node(i).State().Log), ` 1/1 "" 2/1 "a"`)
	}
}

// P11.2: three nodes without any fault: after 6 Rounds node 0 is the leader, and 3 Rounds after a Propose all nodes know that it is committed (the chapter's example).
func TestExample(t *testing.T) {
	q := open(t, 3)
	for range 6 {
		want(t, "Leader", q.Leader(), -1)
		q.Round()
	}
	want(t, "Leader", q.Leader(), 0)
	index, at, e := q.Propose(0, "a")
	want(t, "Propose", fmt.Sprint(index, at, e), "2 1 0")
	for range 3 {
		q.Round()
	}
	for i := range 3 {
		want(t, "Commit", q.Node(i).Commit(), 2)
		_, _, l := q.Node(i).Fresh()
		want(t, "Fresh", entries(l), ` 1/1 "" 2/1 "a"`)
	}
}
