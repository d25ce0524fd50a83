package basket_test

import (
	"fmt"
	"maps"
	"slices"
	"strings"
	"testing"

	"basket/api"
	"basket/basket"
)

// What follows is the document told a second time, as plainly as can be: it is
// held against the world over long walks of calls.

type mark struct{ node, number int }

// plain is a piece: of each known token, the name of its entry, or nothing.
type plain map[mark]string

type plainNode struct {
	basket plain
	news   []plain // all that it ever had
	kept   int     // from which number on it keeps them
	acked  []int
}

type plainMessage struct {
	api.Message
	piece plain
}

type model struct {
	nodes  []plainNode
	flying []plainMessage
	adds   []int
}

func newModel(nodes int) *model {
	m := &model{nodes: make([]plainNode, nodes), adds: make([]int, nodes)}
	for i := range m.nodes {
		m.nodes[i] = plainNode{basket: plain{}, acked: make([]int, nodes)}
	}
	return m
}

func joinPlain(pieces ...plain) plain {
	joined := plain{}
	for _, p := range pieces {
		for token, name := range p {
			if before, known := joined[token]; known && before == "" {
				name = ""
			}
			joined[token] = name
		}
	}
	return joined
}

func (p plain) text() string {
	tokens := slices.SortedFunc(maps.Keys(p), func(a, b mark) int {
		return (a.node-b.node)*1000 + a.number - b.number
	})
	var entries []mark
	known := "|"
	for _, token := range tokens {
		known += fmt.Sprintf(" %d.%d", token.node, token.number)
		if p[token] != "" {
			entries = append(entries, token)
		}
	}
	slices.SortStableFunc(entries, func(a, b mark) int { return strings.Compare(p[a], p[b]) })
	text := ""
	for _, token := range entries {
		text += fmt.Sprintf("%s:%d.%d ", p[token], token.node, token.number)
	}
	return text + known
}

func (n *plainNode) learn(p plain) {
	n.basket = joinPlain(n.basket, p)
	n.news = append(n.news, p)
}

// gone is the piece that takes out all entries of a name, or all for "".
func (n *plainNode) gone(name string) plain {
	p := plain{}
	for token, has := range n.basket {
		if has != "" && (has == name || name == "") {
			p[token] = ""
		}
	}
	return p
}

func (m *model) add(node int, name string) api.Errno {
	sum := 0
	for _, adds := range m.adds {
		sum += adds
	}
	if sum == api.MaxAdds {
		return api.ErrFull
	}
	m.adds[node]++
	p := m.nodes[node].gone(name)
	p[mark{node, m.adds[node]}] = name
	m.nodes[node].learn(p)
	return api.OK
}

func (m *model) takeOut(node int, name string) api.Errno {
	p := m.nodes[node].gone(name)
	if len(p) == 0 {
		return api.ErrNone
	}
	m.nodes[node].learn(p)
	return api.OK
}

func (m *model) launch(message plainMessage) {
	if len(m.flying) < api.MaxFlying {
		m.flying = append(m.flying, message)
	}
}

func (m *model) send(from, to int) api.Errno {
	n := &m.nodes[from]
	if from == to {
		return api.ErrArg
	}
	if n.acked[to] == len(n.news) {
		return api.ErrNone
	}
	p := n.basket
	if n.kept < len(n.news) && n.kept <= n.acked[to] {
		p = joinPlain(n.news[n.acked[to]:]...)
	}
	m.launch(plainMessage{api.Message{Kind: 1, From: from, To: to, Number: len(n.news), Text: p.text()}, p})
	return api.OK
}

func (m *model) collect(node int) api.Errno {
	n := &m.nodes[node]
	all := len(n.news)
	for other, acked := range n.acked {
		if other != node {
			all = min(all, acked)
		}
	}
	n.kept = max(n.kept, all)
	return api.OK
}

func (m *model) crash(node int) api.Errno {
	n := &m.nodes[node]
	n.kept = len(n.news)
	n.acked = make([]int, len(m.nodes))
	return api.OK
}

// round sends each message and lets it and its ack come, with nothing else
// flying.
func (m *model) round() int {
	flying, came := m.flying, 0
	for from := range m.nodes {
		for to := range m.nodes {
			m.flying = nil
			if m.send(from, to) == api.OK {
				m.deliver(0)
				m.deliver(0)
				came++
			}
		}
	}
	m.flying = flying
	return came
}

func (m *model) deliver(i int) api.Errno {
	if i >= len(m.flying) {
		return api.ErrNone
	}
	message := m.flying[i]
	m.drop(i)
	n := &m.nodes[message.To]
	if message.Kind == 2 {
		n.acked[message.From] = max(n.acked[message.From], message.Number)
		return api.OK
	}
	if joinPlain(n.basket, message.piece).text() != n.basket.text() {
		n.learn(message.piece)
	}
	m.launch(plainMessage{Message: api.Message{Kind: 2, From: message.To, To: message.From, Number: message.Number}})
	return api.OK
}

func (m *model) drop(i int) api.Errno {
	if i >= len(m.flying) {
		return api.ErrNone
	}
	m.flying = slices.Delete(m.flying, i, i+1)
	return api.OK
}

func (m *model) double(i int) api.Errno {
	if i >= len(m.flying) {
		return api.ErrNone
	}
	m.launch(m.flying[i])
	return api.OK
}

// told is in the form of the test of the same name for worlds.
func (m *model) told() string {
	var all strings.Builder
	for n, node := range m.nodes {
		status := api.Status{Count: len(node.news), Acked: slices.Clone(node.acked), Tokens: make([]int, len(m.nodes))}
		status.Acked[n] = len(node.news)
		for i := node.kept; i < len(node.news); i++ {
			status.Kept = append(status.Kept, i)
		}
		var names []string
		for token, name := range node.basket {
			status.Tokens[token.node]++
			if name != "" {
				names = append(names, name)
			}
		}
		slices.Sort(names)
		fmt.Fprintf(&all, "%d: %q %d %q %d %v %d\n", n, slices.Compact(names), 0, node.basket.text(), 0, status, 0)
	}
	for n := len(m.nodes); n < api.MaxNodes; n++ {
		fmt.Fprintf(&all, "%d: %q %d %q %d %v %d\n", n, []string{}, 1, "", 1, api.Status{}, 1)
	}
	flying := []api.Message{}
	for _, message := range m.flying {
		flying = append(flying, message.Message)
	}
	fmt.Fprintf(&all, "%v\n", flying)
	return all.String()
}

// dice gives the same numbers in every run.
type dice uint64

func (d *dice) below(n int) int {
	*d = *d*6364136223846793005 + 1442695040888963407
	return int(uint64(*d>>33) % uint64(n))
}

// walk makes one call on the world and on the model; often is how many of 24
// calls let something land. It tells the call and what both answered.
func walk(d *dice, w *basket.World, m *model, often int) (call string, got, wanted any) {
	node, other, name := d.below(len(m.nodes)), d.below(len(m.nodes)), string(rune('a'+d.below(4)))
	i := d.below(len(m.flying) + 1)
	choice := d.below(24)
	switch {
	case choice == 23:
		return fmt.Sprintf("Crash(%d)", node), w.Crash(node), m.crash(node)
	case choice >= 21:
		return fmt.Sprintf("Collect(%d)", node), w.Collect(node), m.collect(node)
	case choice == 20 && d.below(3) == 0:
		return "Round()", w.Round(), m.round()
	case choice < often:
		return fmt.Sprintf("Deliver(%d)", i), w.Deliver(i), m.deliver(i)
	case choice < 12:
		return fmt.Sprintf("Send(%d, %d)", node, other), w.Send(node, other), m.send(node, other)
	case choice < 13:
		return fmt.Sprintf("Drop(%d)", i), w.Drop(i), m.drop(i)
	case choice < 14:
		return fmt.Sprintf("Double(%d)", i), w.Double(i), m.double(i)
	case choice < 17:
		return fmt.Sprintf("Add(%d, %q)", node, name), w.Add(node, name), m.add(node, name)
	case choice < 19 || d.below(3) > 0:
		return fmt.Sprintf("Remove(%d, %q)", node, name), w.Remove(node, name), m.takeOut(node, name)
	}
	return fmt.Sprintf("Clear(%d)", node), w.Clear(node), m.takeOut(node, "")
}

func TestWalksAgainstTheModel(t *testing.T) {
	for seed := range 60 {
		d := dice(seed)
		nodes := seed%api.MaxNodes + 1
		w, m := newWorld(t, nodes), newModel(nodes)
		var calls []string
		for range 150 {
			call, got, wanted := walk(&d, w, m, 3+seed%7)
			calls = append(calls, call)
			if got != wanted {
				t.Fatalf("%d nodes, behind %q: answers %v, want %v", nodes, calls, got, wanted)
			}
			if got, want := told(w), m.told(); got != want {
				t.Fatalf("%d nodes, behind %q:\n%swant\n%s", nodes, calls, got, want)
			}
		}
	}
}
