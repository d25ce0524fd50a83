package basket_test

import (
	"fmt"
	"strings"
	"testing"

	"basket/api"
	"basket/basket"
)

// history is what someone who looks on has seen of a world: of each token that
// an Add made, the name; and the tokens of what was taken out, or put in once
// more, at a node that had it.
type history struct {
	names map[mark]string
	gone  map[mark]bool
}

// basketOf reads a node's basket: of each known token, the name of its entry,
// or nothing.
func basketOf(t *testing.T, w *basket.World, node int) plain {
	t.Helper()
	text, e := w.Text(node)
	entries, tokens, found := strings.Cut(text, "|")
	if e != api.OK || !found {
		t.Fatalf("P5: Text(%d) = %q, %d", node, text, e)
	}
	read := plain{}
	for _, word := range strings.Fields(tokens) {
		read[markOf(t, word)] = ""
	}
	for _, word := range strings.Fields(entries) {
		name, token, _ := strings.Cut(word, ":")
		if _, known := read[markOf(t, token)]; !known {
			t.Errorf("P5: Text(%d) = %q has an entry whose token is not known", node, text)
		}
		read[markOf(t, token)] = name
	}
	return read
}

func markOf(t *testing.T, text string) mark {
	t.Helper()
	var m mark
	if n, err := fmt.Sscanf(text, "%d.%d", &m.node, &m.number); n != 2 || err != nil {
		t.Fatalf("P5: %q is no token", text)
	}
	return m
}

// takenOut notes that the entries of a name, or all for "", were taken out of a
// basket.
func (h *history) takenOut(from plain, name string) {
	for token, has := range from {
		if has != "" && (has == name || name == "") {
			h.gone[token] = true
		}
	}
}

// use makes one call that puts in or takes out, and notes it.
func (h *history) use(t *testing.T, d *dice, w *basket.World, node int) {
	t.Helper()
	before, name := basketOf(t, w, node), string(rune('a'+d.below(4)))
	switch d.below(8) {
	case 0:
		if w.Clear(node) == api.OK {
			h.takenOut(before, "")
		}
	case 1, 2:
		if w.Remove(node, name) == api.OK {
			h.takenOut(before, name)
		}
	default:
		status, _ := w.Status(node)
		if w.Add(node, name) == api.OK {
			h.takenOut(before, name)
			h.names[mark{node, status.Tokens[node] + 1}] = name
		}
	}
}

// happen makes one call of all others but Round.
func happen(d *dice, w *basket.World, nodes int) {
	node, i := d.below(nodes), d.below(len(w.Flying())+1)
	switch d.below(12) {
	case 0:
		w.Crash(node)
	case 1:
		w.Collect(node)
	case 2:
		w.Drop(i)
	case 3:
		w.Double(i)
	case 4, 5, 6, 7:
		w.Deliver(i)
	default:
		w.Send(node, d.below(nodes))
	}
}

// wantHeld holds each basket against what was seen.
func (h *history) wantHeld(t *testing.T, w *basket.World, nodes int) {
	t.Helper()
	for n := range nodes {
		has := basketOf(t, w, n)
		for token, name := range has {
			if _, before := has[mark{token.node, token.number - 1}]; !before && token.number != 1 {
				t.Errorf("P10: node %d knows %v and not the one before: %s", n, token, has.text())
			}
			put, made := h.names[token]
			if !made || name != "" && name != put {
				t.Errorf("P10: node %d has %q for %v, and %q was put in", n, name, token, put)
			}
			if name == "" && !h.gone[token] {
				t.Errorf("P10: node %d has lost %q of %v, which nobody took out", n, put, token)
			}
		}
	}
}

// wantAlike holds all baskets against what must be in them behind a Round.
func (h *history) wantAlike(t *testing.T, w *basket.World, nodes int) {
	t.Helper()
	all := plain{}
	for token, name := range h.names {
		all[token] = name
		if h.gone[token] {
			all[token] = ""
		}
	}
	wantAllAlike(t, w, nodes, all.text())
}

// wander lets a world be used for a while, and looks on. Rounds are made only
// now and then, so that there is much to tell in one.
func wander(t *testing.T, seed int) {
	t.Helper()
	d, nodes := dice(seed), 2+seed%(api.MaxNodes-1)
	w, h := newWorld(t, nodes), &history{names: map[mark]string{}, gone: map[mark]bool{}}
	for range 120 {
		switch d.below(30) {
		case 0:
			w.Round()
			h.wantAlike(t, w, nodes)
		case 1, 2, 3, 4, 5, 6, 7, 8, 9:
			h.use(t, &d, w, d.below(nodes))
		default:
			happen(&d, w, nodes)
		}
		h.wantHeld(t, w, nodes)
	}
	w.Round()
	h.wantAlike(t, w, nodes)
	for i := range 3 * api.MaxFlying {
		if i < 10 {
			w.Double(d.below(len(w.Flying()) + 1))
		}
		w.Deliver(d.below(len(w.Flying()) + 1))
		h.wantAlike(t, w, nodes)
	}
}

func TestP10AllAlikeInTheEnd(t *testing.T) {
	for seed := range 120 {
		wander(t, seed)
		if t.Failed() {
			t.Fatalf("seed %d", seed)
		}
	}
}

func TestP10WhatOthersPutInMeanwhileStays(t *testing.T) {
	w := newWorld(t, 3)
	want(t, "P4: Add", api.OK, w.Add(0, "tea"))
	wantRound(t, w, 6)
	want(t, "P4: Remove, Add, Clear", api.OK, w.Remove(0, "tea"), w.Add(1, "tea"), w.Add(2, "rum"), w.Clear(2))
	wantRound(t, w, 6)
	wantAllAlike(t, w, 3, "tea:1.1 | 0.1 1.1 2.1")
}

func TestP10WhoDidNotKnowOfItTakesNothingOut(t *testing.T) {
	w := newWorld(t, 2)
	want(t, "P4: Add, Remove", api.OK, w.Add(0, "tea"), w.Add(1, "tea"), w.Remove(1, "tea"), w.Add(1, "rum"), w.Clear(1))
	wantRound(t, w, 2)
	wantAllAlike(t, w, 2, "tea:0.1 | 0.1 1.1 1.2")
}
