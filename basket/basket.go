// Package basket: what several nodes put into a basket: see DOC.md.
package basket

import (
	"slices"

	"basket/api"
	"basket/piece"
)

// World is some nodes, and what is on its way.
type World struct {
	nodes []node
}

// New makes a world (P3).
func New(nodes int) (*World, api.Errno) {
	if nodes < 1 || nodes > api.MaxNodes {
		return nil, api.ErrArg
	}
	w := &World{nodes: make([]node, nodes)}
	for i := range w.nodes {
		w.nodes[i].acked = make([]int, nodes)
	}
	return w, api.OK
}

// Add puts something into a node's basket (P4).
func (w *World) Add(node int, name string) api.Errno {
	n := w.at(node)
	if n == nil {
		return api.ErrArg
	}
	if !isName(name) {
		return api.ErrName
	}
	if w.adds() >= api.MaxAdds {
		return api.ErrFull
	}
	token := piece.Token{Node: node, Number: w.addsAt(node) + 1}
	entry := piece.Entry{Name: name, Token: token}
	n.takeIn(piece.Putting(entry, n.basket.Named(name)))
	return api.OK
}

// Remove takes something out (P4).
func (w *World) Remove(node int, name string) api.Errno {
	n := w.at(node)
	if n == nil {
		return api.ErrArg
	}
	if !isName(name) {
		return api.ErrName
	}
	return n.takeOut(n.basket.Named(name))
}

// Clear takes all out (P4).
func (w *World) Clear(node int) api.Errno {
	n := w.at(node)
	if n == nil {
		return api.ErrArg
	}
	return n.takeOut(n.basket.Entries())
}

// Items tells what is in a node's basket (P5).
func (w *World) Items(node int) ([]string, api.Errno) {
	n := w.at(node)
	if n == nil {
		return nil, api.ErrArg
	}
	return n.basket.Names(), api.OK
}

// Text tells a node's basket whole (P5).
func (w *World) Text(node int) (string, api.Errno) {
	n := w.at(node)
	if n == nil {
		return "", api.ErrArg
	}
	return n.basket.Text(), api.OK
}

// Status tells what a node knows (P5).
func (w *World) Status(node int) (api.Status, api.Errno) {
	n := w.at(node)
	if n == nil {
		return api.Status{}, api.ErrArg
	}
	acked := slices.Clone(n.acked)
	acked[node] = n.count
	tokens := make([]int, len(w.nodes))
	for i := range tokens {
		tokens[i] = n.basket.KnownOf(i)
	}
	return api.Status{
		Count:  n.count,
		Kept:   n.keptNumbers(),
		Acked:  acked,
		Tokens: tokens,
	}, api.OK
}

// Send sends what is new (P6).
func (w *World) Send(from int, to int) api.Errno { return api.OK }

// Flying tells what is on its way (P7).
func (w *World) Flying() []api.Message { return nil }

// Deliver lets a message come (P7).
func (w *World) Deliver(i int) api.Errno { return api.OK }

// Drop loses a message (P7).
func (w *World) Drop(i int) api.Errno { return api.OK }

// Double doubles a message (P7).
func (w *World) Double(i int) api.Errno { return api.OK }

// Collect lets a node forget what all have got (P8).
func (w *World) Collect(node int) api.Errno { return api.OK }

// Crash lets a node crash (P8).
func (w *World) Crash(node int) api.Errno { return api.OK }

// Round lets all tell each other what is new (P9).
func (w *World) Round() int { return 0 }

// at finds a node; nil says that there is none of this number. It bears a nil
// world too, for that is what New gives beside an error.
func (w *World) at(number int) *node {
	if w == nil || number < 0 || number >= len(w.nodes) {
		return nil
	}
	return &w.nodes[number]
}

// adds counts the Adds of the world.
func (w *World) adds() int {
	sum := 0
	for i := range w.nodes {
		sum += w.addsAt(i)
	}
	return sum
}

// addsAt counts the Adds at one node. They need no count of their own: a basket
// knows all tokens of its node, for an Add makes its token known there at once,
// and no token is ever known no longer.
func (w *World) addsAt(node int) int {
	return w.nodes[node].basket.KnownOf(node)
}

func isName(text string) bool {
	if len(text) < 1 || len(text) > api.MaxName {
		return false
	}
	for i := range len(text) {
		if text[i] < 'a' || text[i] > 'z' {
			return false
		}
	}
	return true
}
