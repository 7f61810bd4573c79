package quorum_test

import (
	"fmt"
	"math/rand"
	"slices"
	"testing"

	"glacier/api"
	"glacier/quorum"
)

// counts says how often something happened.
type counts struct {
	ordered, reordered, dropped, again, full int
	crashes, broken, lost, downs             int
	snapshots, lives, inStep, committed      int
}

// world is a watched net to which anything may happen.
type world struct {
	*watch
	rnd    *rand.Rand
	counts *counts
	gone   []bool // whose disk is lost
	side   []int  // messages from one side to another one are lost
	busy   int    // how probable it is that something happens to a message
	chance int    // of 100 times so often it is any message, and otherwise the first one
	flood  int    // how often a message is duplicated at most
	sides  int    // how many sides there are at most
}

func newWorld(t *testing.T, seed int64, c *counts) *world {
	rnd := rand.New(rand.NewSource(seed))
	n := 1 + rnd.Intn(5)
	w := &world{rnd: rnd, counts: c, gone: make([]bool, n), side: make([]int, n)}
	w.watch = newWatch(t, fmt.Sprintf("seed %d, %d nodes", seed, n), n)
	w.busy, w.chance, w.flood = 100+rnd.Intn(400), []int{0, 30, 100}[rnd.Intn(3)], []int{1, 1, 3, 60}[rnd.Intn(4)]
	w.sides = 1 + rnd.Intn(3)
	return w
}

// call makes a call that may let a node go down, and checks the node.
func (w *world) call(i int, call func(), what string, args ...any) {
	w.t.Helper()
	w.step(what, args...)
	up := w.q.Up()
	call()
	if w.q.Up() < up {
		w.counts.broken++
		if w.q.Node(i) != nil || w.q.Up() != up-1 || !w.q.Disk(i).Safe() {
			w.fail("%d nodes were up", up)
		}
	}
	if w.q.On() > quorum.MaxWay {
		w.fail("%d messages", w.q.On())
	}
	if w.q.On() == quorum.MaxWay {
		w.counts.full++
	}
	w.check(i)
}

// chaos makes one call, of anything that may happen.
func (w *world) chaos() {
	w.t.Helper()
	i := w.rnd.Intn(w.q.Len())
	switch p := w.rnd.Intn(100 + w.busy); {
	case p >= 100:
		w.message()
	case p < 40:
		w.call(i, func() { w.q.Tick(i) }, "tick %d", i)
	case p < 60:
		w.propose(i)
	case p < 70:
		w.take(i)
	case p < 75:
		w.compact(i)
	case p < 77:
		w.part()
	case p < 80:
		n := w.rnd.Intn(8)
		w.step("fail %d, %d", i, n)
		w.q.Disk(i).Fail(n)
	case p < 86:
		w.crash(i)
		if w.rnd.Intn(2) == 0 {
			w.start(i)
		}
	default:
		w.start(i)
	}
}

// start starts a node that can be started.
func (w *world) start(i int) {
	w.t.Helper()
	if w.q.Node(i) == nil && !w.gone[i] {
		w.watch.start(i)
	}
}

// part lets nodes be on different sides, or all of them on the same one.
func (w *world) part() {
	w.step("part")
	sides := 1 + w.rnd.Intn(w.sides)
	for i := range w.side {
		w.side[i] = w.rnd.Intn(sides)
	}
}

// message delivers, loses or duplicates a message, mostly the first one.
func (w *world) message() {
	w.t.Helper()
	if w.q.On() == 0 {
		return
	}
	k := 0
	if w.rnd.Intn(100) < w.chance {
		k = w.rnd.Intn(w.q.On())
	}
	m := w.q.Way()[k]
	switch p := w.rnd.Intn(100); {
	case p < 5 || w.side[m.From] != w.side[m.To]:
		w.step("drop %d", k)
		w.counts.dropped++
		w.q.Drop(k)
	case p < 10:
		w.counts.again++
		for range 1 + w.rnd.Intn(w.flood) {
			w.step("again %d", k)
			w.q.Again(k)
		}
	default:
		if k == 0 {
			w.counts.ordered++
		} else {
			w.counts.reordered++
		}
		w.call(m.To, func() { w.q.Deliver(k) }, "deliver %d", k)
	}
}

// propose proposes a command, in most cases to a leader.
func (w *world) propose(i int) {
	w.t.Helper()
	if leader := w.q.Leader(); leader >= 0 && w.rnd.Intn(4) > 0 {
		i = leader
	}
	w.call(i, func() { w.q.Propose(i, w.command()) }, "propose %d", i)
}

// compact makes what a node has handed out its snapshot.
func (w *world) compact(i int) {
	w.t.Helper()
	w.call(i, func() {
		if w.q.Compact(i, w.texts[i]) == api.OK {
			w.counts.snapshots++
		}
	}, "compact %d", i)
}

// crash lets a node go down. Of what its disk has not synced any part may be left.
func (w *world) crash(i int) {
	w.step("crash %d", i)
	if w.q.Crash(i, w.rnd.Intn(9), w.rnd.Intn(9)) == api.OK {
		w.counts.crashes++
	}
}

// lost returns how many disks are lost.
func (w *world) lost() int {
	n := 0
	for _, gone := range w.gone {
		if gone {
			n++
		}
	}
	return n
}

// lose loses a disk, but those of more than half of the nodes are always left.
func (w *world) lose() {
	i := w.rnd.Intn(w.q.Len())
	if w.gone[i] || w.lost() == (w.q.Len()-1)/2 {
		return
	}
	w.step("lose %d", i)
	w.gone[i] = true
	w.counts.lost++
	w.q.Disk(i).Lose()
}

// restart lets nodes go down, all of them or only some, and then starts any more than half of them.
func (w *world) restart(all bool) {
	w.t.Helper()
	down := slices.Clone(w.gone)
	for _, i := range w.rnd.Perm(w.q.Len())[:w.rnd.Intn((w.q.Len()-1)/2-w.lost()+1)] {
		down[i] = true
	}
	for _, i := range w.rnd.Perm(w.q.Len()) {
		if all || down[i] {
			w.crash(i)
		}
	}
	if all {
		w.counts.downs++
		want(w.t, w.name+": Up", w.q.Up(), 0)
	}
	for _, i := range w.rnd.Perm(w.q.Len()) {
		if !down[i] {
			w.start(i)
		}
		w.q.Disk(i).Fail(-1)
	}
}

// pass delivers the messages in transit between some nodes, and loses all others.
func (w *watch) pass(among ...int) {
	w.t.Helper()
	for range w.q.On() {
		if m := w.q.Way()[0]; slices.Contains(among, m.From) && slices.Contains(among, m.To) {
			w.q.Deliver(0)
		} else {
			w.q.Drop(0)
		}
	}
	w.checkAll()
}

// elect lets the timer of a node run off, and so many times passes what is sent between some nodes. What is sent at last is lost.
func (w *watch) elect(i, times int, among ...int) {
	w.t.Helper()
	ticks(w.q, i, 4+2*i)
	for range times {
		w.pass(among...)
	}
	w.pass()
}

// P11.1: entries of an earlier term are on more than half of the nodes, and another node, which lacks them, may yet become the leader: nobody takes them for committed.
func TestEarlierTerm(t *testing.T) {
	w := newWatch(t, "five nodes", 5)
	w.elect(0, 5, 0, 1, 2, 3, 4)
	want(t, "entry 1", w.q.Node(0).Commit(), 1)
	for range 4 {
		_, _, e := w.q.Propose(0, w.command())
		must(t, e)
	}
	w.pass()
	must(t, w.q.Crash(0))
	w.elect(4, 2, 2, 3, 4)
	want(t, "node 4 leads, and tells nobody", fmt.Sprint(w.q.Leader(), w.q.Node(4).State().Log[1], w.q.Node(3).Last()), "4 {2 2 } 1")
	must(t, w.q.Crash(4))
	w.start(0)
	w.elect(0, 0)
	w.elect(0, 6, 0, 1, 2)
	want(t, "node 0 leads again", w.q.Leader(), 0)
	want(t, "more than half", fmt.Sprint(w.q.Node(0).Last(), w.q.Node(1).Last(), w.q.Node(2).Last()), "6 5 5")
	want(t, "committed", w.q.Node(0).Commit(), 0)
	must(t, w.q.Crash(0))
	w.start(4)
	w.elect(4, 0)
	w.elect(4, 20, 2, 3, 4)
	want(t, "node 4 leads again", w.q.Leader(), 4)
	want(t, "others", entries(w.q.Node(2).State().Log), entries(w.q.Node(4).State().Log))
	w.start(0)
	w.live(3)
}

// P11.1, P11.2, P11.3: whatever happens to the nodes, their disks and their messages, the net is SAFE; with more than half of the nodes up it is LIVE afterwards; and what was committed is KEPT, also if all of them went down.
func TestSafeLiveKept(t *testing.T) {
	var c counts
	for seed := range int64(400) {
		w := newWorld(t, seed, &c)
		for range 3 {
			if w.rnd.Intn(4) == 0 {
				w.lose()
			}
			for range 200 + w.rnd.Intn(1000) {
				w.chaos()
			}
			w.restart(w.rnd.Intn(2) == 0)
			w.live(1 + w.rnd.Intn(9))
			c.lives++
		}
		c.committed += len(w.committed)
		c.inStep += w.inStep
	}
	t.Logf("%+v", c)
	if c.inStep > c.lives/25 {
		t.Errorf("%d times of %d nodes kept in step", c.inStep, c.lives)
	}
	if min(c.ordered, c.reordered) < 10000 || min(c.dropped, c.again, c.crashes, c.broken) < 1000 || min(c.lost, c.downs, c.full, c.snapshots) < 100 || c.committed < 10000 {
		t.Errorf("too little happened: %+v", c)
	}
}
