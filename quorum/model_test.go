package quorum_test

import (
	"fmt"
	"math/rand"
	"slices"
	"testing"

	"glacier/api"
	"glacier/platter"
	"glacier/quorum"
	"glacier/raft"
)

// model is a net as the chapter describes it: the nodes that are up, by their numbers, and the messages.
type model struct {
	n     int
	up    map[int]*raft.Node
	disks []*platter.Disk
	way   []raft.Msg
}

func newModel(n, room int) *model {
	m := &model{n: n, up: map[int]*raft.Node{}}
	for i := range n {
		m.disks = append(m.disks, platter.New(room))
		m.start(i)
	}
	return m
}

func (m *model) start(i int) api.Errno {
	switch {
	case i < 0 || i >= m.n:
		return api.ErrArg
	case m.up[i] != nil:
		return api.ErrThere
	}
	m.disks[i].Fail(-1)
	r, e := raft.Open(m.disks[i], i, m.n)
	if e == api.OK {
		m.up[i] = r
	}
	return e
}

func (m *model) crash(i int, choice []int) api.Errno {
	if m.up[i] == nil {
		return api.ErrDown
	}
	delete(m.up, i)
	m.disks[i].Crash(choice)
	return api.OK
}

// sent takes what a node sends after a call, and then lets it go down if it is broken.
func (m *model) sent(i int) {
	m.way = append(m.way, m.up[i].Take()...)
	m.way = m.way[:min(len(m.way), 200)]
	if m.up[i].Broken() != api.OK {
		m.crash(i, nil)
	}
}

func (m *model) tick(i int) {
	if m.up[i] != nil {
		m.up[i].Tick()
		m.sent(i)
	}
}

func (m *model) deliver(k int) {
	if k < 0 || k >= len(m.way) {
		return
	}
	x := m.way[k]
	m.drop(k)
	if m.up[x.To] != nil {
		m.up[x.To].Step(x)
		m.sent(x.To)
	}
}

func (m *model) drop(k int) {
	var l []raft.Msg
	for i, x := range m.way {
		if i != k {
			l = append(l, x)
		}
	}
	m.way = l
}

func (m *model) again(k int) {
	if k >= 0 && k < len(m.way) && len(m.way) < 200 {
		m.way = append(m.way, m.way[k])
	}
}

func (m *model) round() {
	for n := len(m.way); n > 0; n-- {
		m.deliver(0)
	}
	for i := range m.n {
		m.tick(i)
	}
}

func (m *model) propose(i int, cmd string) string {
	if m.up[i] == nil {
		return fmt.Sprint(0, 0, api.ErrDown)
	}
	index, at, e := m.up[i].Propose(cmd)
	m.sent(i)
	return fmt.Sprint(index, at, e)
}

func (m *model) compact(i int, snap string) api.Errno {
	if m.up[i] == nil {
		return api.ErrDown
	}
	e := m.up[i].Compact(snap)
	m.sent(i)
	return e
}

func (m *model) leader() int {
	leader := -1
	for i := m.n - 1; i >= 0; i-- {
		r := m.up[i]
		if r != nil && r.Role() == raft.Leader && (leader < 0 || r.Term() >= m.up[leader].Term()) {
			leader = i
		}
	}
	return leader
}

// tellNode is all that can be seen of a node, as text.
func tellNode(r *raft.Node) string {
	if r == nil {
		return "down"
	}
	return fmt.Sprintf("%d %d %d %d %d %d %d %+v", r.Role(), r.Term(), r.Leader(), r.Commit(), r.Applied(), r.Last(), r.Broken(), r.State())
}

// tellFresh is what a node hands out, as text.
func tellFresh(r *raft.Node) string {
	if r == nil {
		return "down"
	}
	snap, is, l := r.Fresh()
	return fmt.Sprintf("%q %t%s", snap, is, entries(l))
}

// tell is all that can be seen of the model, as text.
func (m *model) tell() string {
	text := fmt.Sprintf("%d nodes, %d up, leader %d, %d messages: %+v", m.n, len(m.up), m.leader(), len(m.way), m.way)
	for i, d := range m.disks {
		text += fmt.Sprintf("\nnode %d: %s; disk: %d used, safe %t", i, tellNode(m.up[i]), d.Used(), d.Safe())
	}
	return text
}

// tellNet is the same of a net.
func tellNet(q *quorum.Net) string {
	text := fmt.Sprintf("%d nodes, %d up, leader %d, %d messages: %+v", q.Len(), q.Up(), q.Leader(), q.On(), q.Way())
	for i := range q.Len() {
		text += fmt.Sprintf("\nnode %d: %s; disk: %d used, safe %t", i, tellNode(q.Node(i)), q.Disk(i).Used(), q.Disk(i).Safe())
	}
	return text
}

// both makes a random call on a net and on its model, and tells the call and both results.
func both(rnd *rand.Rand, q *quorum.Net, m *model) (string, string, string) {
	i, k := rnd.Intn(q.Len()+2)-1, rnd.Intn(q.On()+2)-1
	n := rnd.Intn(5)
	switch p := rnd.Intn(100); {
	case p < 25:
		q.Tick(i)
		m.tick(i)
		return fmt.Sprint("Tick ", i), "", ""
	case p < 60:
		k *= rnd.Intn(2)
		q.Deliver(k)
		m.deliver(k)
		return fmt.Sprint("Deliver ", k), "", ""
	case p < 64:
		q.Drop(k)
		m.drop(k)
		return fmt.Sprint("Drop ", k), "", ""
	case p < 68:
		for range 1 + rnd.Intn(1+rnd.Intn(80)) {
			q.Again(k)
			m.again(k)
		}
		return fmt.Sprint("Again ", k), "", ""
	case p < 72:
		q.Round()
		m.round()
		return "Round", "", ""
	case p < 82:
		index, at, e := q.Propose(i, "c")
		return fmt.Sprint("Propose ", i), fmt.Sprint(index, at, e), m.propose(i, "c")
	case p < 86:
		return fmt.Sprint("Fresh ", i), tellFresh(q.Node(i)), tellFresh(m.up[i])
	case p < 90:
		return fmt.Sprint("Compact ", i), fmt.Sprint(q.Compact(i, "snap")), fmt.Sprint(m.compact(i, "snap"))
	case p < 93:
		if i >= 0 && i < q.Len() {
			q.Disk(i).Fail(n)
			m.disks[i].Fail(n)
		}
		return fmt.Sprint("Fail ", i, n), "", ""
	case p < 95:
		choice := []int{rnd.Intn(9), rnd.Intn(9), rnd.Intn(9)}[:rnd.Intn(4)]
		if i >= 0 && i < q.Len() {
			// Nodes leave nothing unsynced, so that other files have to show what the choices do.
			q.Disk(i).Append("other", "abc")
			m.disks[i].Append("other", "abc")
		}
		return fmt.Sprint("Crash ", i, choice), fmt.Sprint(q.Crash(i, choice...)), fmt.Sprint(m.crash(i, choice))
	}
	return fmt.Sprint("Start ", i), fmt.Sprint(q.Start(i)), fmt.Sprint(m.start(i))
}

// random makes random calls, with any numbers, on a net and on its model, and returns what was called and all results.
func random(t *testing.T, seed int64) []string {
	t.Helper()
	rnd := rand.New(rand.NewSource(seed))
	n, room := 1+rnd.Intn(5), []int{60, 400, 4000, 1 << 20}[rnd.Intn(4)]
	q, e := quorum.New(n, room)
	must(t, e)
	m := newModel(n, room)
	var steps []string
	for range 300 {
		what, got, plain := both(rnd, q, m)
		steps = append(steps, what+": "+got)
		if got != plain || tellNet(q) != m.tell() {
			t.Fatalf("seed %d, %q, want %s\n%s\nwant %s", seed, steps[max(len(steps)-30, 0):], plain, tellNet(q), m.tell())
		}
	}
	return append(steps, tellNet(q))
}

// P11.1, K4: random calls have the same results as on a plain model, and as on another net.
func TestModel(t *testing.T) {
	for seed := range int64(100) {
		if !slices.Equal(random(t, seed), random(t, seed)) {
			t.Errorf("seed %d: the same calls on another net have other results", seed)
		}
	}
}
