// Package piece: pieces of news and how two are joined; a whole basket is a
// piece too.
package piece

import (
	"cmp"
	"maps"
	"slices"
	"strings"
)

// Token marks one Add: the node at which it happened, and which of that
// node's Adds it was, from 1 on.
type Token struct {
	Node, Number int
}

// Entry is one thing in a basket.
type Entry struct {
	Name  string
	Token Token
}

// Piece is some entries and the tokens that are known, those of its entries
// among them. A piece is never changed once it is made, so one may be kept in
// several places. The zero Piece has nothing.
type Piece struct {
	entries map[Entry]struct{}
	known   map[Token]struct{}
}

// Taking makes the piece that takes entries out: it knows their tokens and has
// none of them.
func Taking(entries []Entry) Piece {
	known := make(map[Token]struct{})
	for _, entry := range entries {
		known[entry.Token] = struct{}{}
	}
	return Piece{known: known}
}

// Putting makes the piece that puts one entry in and takes others out.
func Putting(entry Entry, others []Entry) Piece {
	made := Taking(others)
	made.known[entry.Token] = struct{}{}
	made.entries = map[Entry]struct{}{entry: {}}
	return made
}

// Join makes one piece of two. An entry that only one of them has stays, unless
// the other one knows its token: that one has seen it and has it no longer.
func Join(a, b Piece) Piece {
	joined := Piece{
		entries: make(map[Entry]struct{}),
		known:   make(map[Token]struct{}),
	}
	maps.Copy(joined.known, a.known)
	maps.Copy(joined.known, b.known)
	joined.takeOver(a, b)
	joined.takeOver(b, a)
	return joined
}

// takeOver fills a piece that Join is still making.
func (p Piece) takeOver(from, other Piece) {
	for entry := range from.entries {
		_, has := other.entries[entry]
		_, knows := other.known[entry.Token]
		if has || !knows {
			p.entries[entry] = struct{}{}
		}
	}
}

// Equal says whether two pieces have the same entries and know the same tokens.
func Equal(a, b Piece) bool {
	return maps.Equal(a.entries, b.entries) && maps.Equal(a.known, b.known)
}

// Entries lists the entries by names, then by tokens.
func (p Piece) Entries() []Entry {
	return slices.SortedFunc(maps.Keys(p.entries), compareEntries)
}

// Named lists the entries of one name, by tokens.
func (p Piece) Named(name string) []Entry {
	var named []Entry
	for _, entry := range p.Entries() {
		if entry.Name == name {
			named = append(named, entry)
		}
	}
	return named
}

// Names lists the names of the entries, each once, in order.
func (p Piece) Names() []string {
	var names []string
	for _, entry := range p.Entries() {
		names = append(names, entry.Name)
	}
	return slices.Compact(names)
}

// Known lists the known tokens by nodes, then by numbers.
func (p Piece) Known() []Token {
	return slices.SortedFunc(maps.Keys(p.known), compareTokens)
}

// KnownOf counts the known tokens of one node.
func (p Piece) KnownOf(node int) int {
	count := 0
	for token := range p.known {
		if token.Node == node {
			count++
		}
	}
	return count
}

func compareEntries(a, b Entry) int {
	return cmp.Or(strings.Compare(a.Name, b.Name), compareTokens(a.Token, b.Token))
}

func compareTokens(a, b Token) int {
	return cmp.Or(cmp.Compare(a.Node, b.Node), cmp.Compare(a.Number, b.Number))
}
