// Package basket: what several nodes put into a basket: see DOC.md.
package basket

import (
	"slices"

	"basket/api"
	"basket/piece"
)

// World is some nodes, and what is on its way.
type World struct {
	nodes  []node
	flying []message // in the order in which they were sent
}

// New makes a world (P3).
func New(nodes int) (*World, api.Errno) {
	if nodes < 1 || nodes > api.MaxNodes {
		return nil, api.ErrArg
	}
	w := &World{nodes: make([]node, nodes)}
	for i := range w.nodes {
		w.nodes[i].acked = make([]int, nodes)
	}
	return w, api.OK
}

// Add puts something into a node's basket (P4).
func (w *World) Add(node int, name string) api.Errno {
	n := w.at(node)
	if n == nil {
		return api.ErrArg
	}
	if !isName(name) {
		return api.ErrName
	}
	if w.adds() >= api.MaxAdds {
		return api.ErrFull
	}
	token := piece.Token{Node: node, Number: w.addsAt(node) + 1}
	entry := piece.Entry{Name: name, Token: token}
	n.takeIn(piece.Putting(entry, n.basket.Named(name)))
	return api.OK
}

// Remove takes something out (P4).
func (w *World) Remove(node int, name string) api.Errno {
	n := w.at(node)
	if n == nil {
		return api.ErrArg
	}
	if !isName(name) {
		return api.ErrName
	}
	return n.takeOut(n.basket.Named(name))
}

// Clear takes all out (P4).
func (w *World) Clear(node int) api.Errno {
	n := w.at(node)
	if n == nil {
		return api.ErrArg
	}
	return n.takeOut(n.basket.Entries())
}

// Items tells what is in a node's basket (P5).
func (w *World) Items(node int) ([]string, api.Errno) {
	n := w.at(node)
	if n == nil {
		return nil, api.ErrArg
	}
	return n.basket.Names(), api.OK
}

// Text tells a node's basket whole (P5).
func (w *World) Text(node int) (string, api.Errno) {
	n := w.at(node)
	if n == nil {
		return "", api.ErrArg
	}
	return n.basket.Text(), api.OK
}

// Status tells what a node knows (P5).
func (w *World) Status(node int) (api.Status, api.Errno) {
	n := w.at(node)
	if n == nil {
		return api.Status{}, api.ErrArg
	}
	tokens := make([]int, len(w.nodes))
	for i := range tokens {
		tokens[i] = n.basket.KnownOf(i)
	}
	return api.Status{
		Count:  n.count,
		Kept:   n.keptNumbers(),
		Acked:  w.ackedOf(node),
		Tokens: tokens,
	}, api.OK
}

// Send sends what is new (P6).
func (w *World) Send(from int, to int) api.Errno {
	sender := w.at(from)
	if sender == nil || w.at(to) == nil || from == to {
		return api.ErrArg
	}
	if !sender.hasNewsFor(to) {
		return api.ErrNone
	}
	w.launch(w.news(from, to))
	return api.OK
}

// Flying tells what is on its way (P7).
func (w *World) Flying() []api.Message {
	if w == nil {
		return nil
	}
	var told []api.Message
	for _, m := range w.flying {
		told = append(told, m.told())
	}
	return told
}

// Deliver lets a message come (P7).
func (w *World) Deliver(i int) api.Errno {
	if !w.isFlying(i) {
		return api.ErrNone
	}
	m := w.flying[i]
	w.land(i)
	w.come(m)
	if m.kind == newsKind {
		w.launch(m.ack())
	}
	return api.OK
}

// Drop loses a message (P7).
func (w *World) Drop(i int) api.Errno {
	if !w.isFlying(i) {
		return api.ErrNone
	}
	w.land(i)
	return api.OK
}

// Double doubles a message (P7).
func (w *World) Double(i int) api.Errno {
	if !w.isFlying(i) {
		return api.ErrNone
	}
	w.launch(w.flying[i])
	return api.OK
}

// Collect lets a node forget what all have got (P8).
func (w *World) Collect(node int) api.Errno {
	n := w.at(node)
	if n == nil {
		return api.ErrArg
	}
	n.forgetBelow(slices.Min(w.ackedOf(node)))
	return api.OK
}

// Crash lets a node crash (P8).
func (w *World) Crash(node int) api.Errno {
	n := w.at(node)
	if n == nil {
		return api.ErrArg
	}
	n.crash()
	return api.OK
}

// Round lets all tell each other what is new (P9).
func (w *World) Round() int {
	if w == nil {
		return 0
	}
	came := 0
	for from := range w.nodes {
		for _, m := range w.gather(from) {
			w.come(m)
			w.come(m.ack())
			came++
		}
	}
	return came
}

// at finds a node; nil says that there is none of this number. It bears a nil
// world too, for that is what New gives beside an error.
func (w *World) at(number int) *node {
	if w == nil || number < 0 || number >= len(w.nodes) {
		return nil
	}
	return &w.nodes[number]
}

// isFlying bears a nil world, as at does.
func (w *World) isFlying(i int) bool {
	return w != nil && i >= 0 && i < len(w.flying)
}

// ackedOf lists up to which number each node has acked a node's news. The node
// itself stands there with all of it, so it never holds back what may go.
func (w *World) ackedOf(node int) []int {
	n := &w.nodes[node]
	acked := slices.Clone(n.acked)
	acked[node] = n.count
	return acked
}

// news makes the message that tells one node what another one has new for it.
func (w *World) news(from, to int) message {
	sender := &w.nodes[from]
	return message{
		kind:   newsKind,
		from:   from,
		to:     to,
		number: sender.count,
		piece:  sender.newsFor(to),
	}
}

// launch sends a message on its way; when too many are flying it is lost, and
// its sender hears nothing of that.
func (w *World) launch(m message) {
	if len(w.flying) < api.MaxFlying {
		w.flying = append(w.flying, m)
	}
}

// land takes a message out of those that are flying.
func (w *World) land(i int) {
	w.flying = slices.Delete(w.flying, i, i+1)
}

// come lets a message that has landed do its work. The ack that news asks for
// is the caller's to send, for not every one flies.
func (w *World) come(m message) {
	receiver := &w.nodes[m.to]
	switch m.kind {
	case newsKind:
		receiver.hear(m.piece)
	case ackKind:
		receiver.hearAck(m.from, m.number)
	}
}

// adds counts the Adds of the world.
func (w *World) adds() int {
	sum := 0
	for i := range w.nodes {
		sum += w.addsAt(i)
	}
	return sum
}

// addsAt counts the Adds at one node. They need no count of their own: a basket
// knows all tokens of its node, for an Add makes its token known there at once,
// and no token is ever known no longer.
func (w *World) addsAt(node int) int {
	return w.nodes[node].basket.KnownOf(node)
}

func isName(text string) bool {
	if len(text) < 1 || len(text) > api.MaxName {
		return false
	}
	for i := range len(text) {
		if text[i] < 'a' || text[i] > 'z' {
			return false
		}
	}
	return true
}
