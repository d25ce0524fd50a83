package basket

import (
	"basket/api"
	"basket/piece"
)

// node is one node of a world.
type node struct {
	basket piece.Piece
	count  int
	kept   []keptPiece // the lesser numbers first
	acked  []int       // of each node; its own place is not used, for it has all up to the count
}

// keptPiece is a piece of news that can still be told to others.
type keptPiece struct {
	number int
	piece  piece.Piece
}

// takeIn makes a piece news of the node.
func (n *node) takeIn(news piece.Piece) {
	n.basket = piece.Join(n.basket, news)
	n.kept = append(n.kept, keptPiece{number: n.count, piece: news})
	n.count++
}

// takeOut makes it news that these entries of the basket are in it no longer.
func (n *node) takeOut(entries []piece.Entry) api.Errno {
	if len(entries) == 0 {
		return api.ErrNone
	}
	n.takeIn(piece.Taking(entries))
	return api.OK
}

func (n *node) keptNumbers() []int {
	var numbers []int
	for _, kept := range n.kept {
		numbers = append(numbers, kept.number)
	}
	return numbers
}
