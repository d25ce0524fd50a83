package basket

// gather lists the messages that a node has for the others in a round. None of
// them comes before the node has told all: until then it still reads its own
// acks, which their coming writes.
func (w *World) gather(from int) []message {
	news := make(chan message)
	go w.tellOthers(from, news)
	var gathered []message
	for m := range news {
		gathered = append(gathered, m)
	}
	return gathered
}

// tellOthers sends a node's messages, those for the lesser numbers first.
// Closing is the last that it does: who gathers goes on only when it has ended.
func (w *World) tellOthers(from int, news chan<- message) {
	defer close(news)
	for to := range w.nodes {
		if to != from && w.nodes[from].hasNewsFor(to) {
			news <- w.news(from, to)
		}
	}
}
