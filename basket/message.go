package basket

import (
	"basket/api"
	"basket/piece"
)

type kind int

// The kinds of messages. They are counted from package api's first one on, for
// the world tells them by its numbers.
const (
	newsKind kind = iota + api.News
	ackKind
)

// message is on its way from one node to another one.
type message struct {
	kind     kind
	from, to int
	number   int
	piece    piece.Piece // of news alone
}

// ack makes the message that goes back for one of news.
func (m message) ack() message {
	return message{kind: ackKind, from: m.to, to: m.from, number: m.number}
}

func (m message) told() api.Message {
	return api.Message{
		Kind:   int(m.kind),
		From:   m.from,
		To:     m.to,
		Number: m.number,
		Text:   m.text(),
	}
}

// text is empty for an ack: that has no piece, not even one without anything.
func (m message) text() string {
	if m.kind == ackKind {
		return ""
	}
	return m.piece.Text()
}
