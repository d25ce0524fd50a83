package basket

import (
	"slices"

	"basket/api"
	"basket/piece"
)

// node is one node of a world.
type node struct {
	basket piece.Piece
	count  int
	kept   []keptPiece // the lesser numbers first
	acked  []int       // of each node; its own place is not used, for it has all up to the count
}

// keptPiece is a piece of news that can still be told to others.
type keptPiece struct {
	number int
	piece  piece.Piece
}

// takeIn makes a piece news of the node.
func (n *node) takeIn(news piece.Piece) {
	n.basket = piece.Join(n.basket, news)
	n.kept = append(n.kept, keptPiece{number: n.count, piece: news})
	n.count++
}

// takeOut makes it news that these entries of the basket are in it no longer.
func (n *node) takeOut(entries []piece.Entry) api.Errno {
	if len(entries) == 0 {
		return api.ErrNone
	}
	n.takeIn(piece.Taking(entries))
	return api.OK
}

// hear takes in a piece that another node told. One that tells nothing new is
// no news: it would be told on for ever.
func (n *node) hear(news piece.Piece) {
	if !piece.Equal(piece.Join(n.basket, news), n.basket) {
		n.takeIn(news)
	}
}

// hearAck notes up to which number another node has got all. A late one, with a
// lesser number than that node's last, tells nothing.
func (n *node) hearAck(from, number int) {
	n.acked[from] = max(n.acked[from], number)
}

func (n *node) hasNewsFor(to int) bool {
	return n.acked[to] < n.count
}

// newsFor joins what another node has not acked. Where some of that is kept no
// longer, only the whole basket is sure to have it.
func (n *node) newsFor(to int) piece.Piece {
	acked := n.acked[to]
	if len(n.kept) == 0 || n.kept[0].number > acked {
		return n.basket
	}
	var news piece.Piece
	for _, kept := range n.kept {
		if kept.number >= acked {
			news = piece.Join(news, kept.piece)
		}
	}
	return news
}

// forgetBelow keeps the pieces below a number no longer.
func (n *node) forgetBelow(number int) {
	n.kept = slices.DeleteFunc(n.kept, func(kept keptPiece) bool {
		return kept.number < number
	})
}

// crash forgets what was to be told and who has been told. The count stays: it
// numbers the news, and acks of before the crash may still come.
func (n *node) crash() {
	n.kept = nil
	clear(n.acked)
}

func (n *node) keptNumbers() []int {
	var numbers []int
	for _, kept := range n.kept {
		numbers = append(numbers, kept.number)
	}
	return numbers
}
