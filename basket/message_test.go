package basket_test

import (
	"fmt"
	"strings"
	"testing"

	"basket/api"
	"basket/basket"
)

// flown is what is flying, as a text: `News 0>1 #2 text`, or `Ack 1>0 #2`.
func flown(w *basket.World) string {
	kinds := map[int]string{api.News: "News", api.Ack: "Ack"}
	var all []string
	for _, m := range w.Flying() {
		all = append(all, strings.TrimSuffix(fmt.Sprintf("%s %d>%d #%d %s", kinds[m.Kind], m.From, m.To, m.Number, m.Text), " "))
	}
	return strings.Join(all, "; ")
}

func wantFlying(t *testing.T, w *basket.World, messages ...string) {
	t.Helper()
	if got, want := flown(w), strings.Join(messages, "; "); got != want {
		t.Errorf("P7: flying %s, want %s", got, want)
	}
}

func wantUnchanged(t *testing.T, w *basket.World, before string) {
	t.Helper()
	if after := told(w); after != before {
		t.Errorf("P1: refused calls changed\n%sto\n%s", before, after)
	}
}

func TestExampleOfTwoNodes(t *testing.T) {
	w := newWorld(t, 2)
	want(t, "P4: Add", api.OK, w.Add(0, "tea"), w.Add(1, "tea"), w.Add(1, "rum"))
	want(t, "P6: Send", api.OK, w.Send(0, 1), w.Send(1, 0))
	wantFlying(t, w, "News 0>1 #1 tea:0.1 | 0.1", "News 1>0 #2 rum:1.2 tea:1.1 | 1.1 1.2")
	want(t, "P4: Remove", api.OK, w.Remove(0, "tea"))
	wantText(t, w, 0, "| 0.1")
	want(t, "P7: Deliver", api.OK, w.Deliver(1))
	wantText(t, w, 0, "rum:1.2 tea:1.1 | 0.1 1.1 1.2")
	want(t, "P7: Deliver", api.OK, w.Deliver(0))
	wantText(t, w, 1, "rum:1.2 tea:0.1 tea:1.1 | 0.1 1.1 1.2")
	wantFlying(t, w, "Ack 0>1 #2", "Ack 1>0 #1")
	wantStatus(t, w, 0, "3 [0 1 2] [3 0] [1 2]")

	want(t, "P7: Deliver, P6: Send", api.OK, w.Deliver(1), w.Send(0, 1))
	wantFlying(t, w, "Ack 0>1 #2", "News 0>1 #3 rum:1.2 tea:1.1 | 0.1 1.1 1.2")
	want(t, "P7: Deliver", api.OK, w.Deliver(1))
	wantItems(t, w, 1, "rum", "tea")
	wantText(t, w, 1, "rum:1.2 tea:1.1 | 0.1 1.1 1.2")
}

func TestP6SendRefuses(t *testing.T) {
	for nodes := 1; nodes <= api.MaxNodes; nodes++ {
		w := newWorld(t, nodes)
		want(t, "P4: Add", api.OK, w.Add(0, "tea"))
		before := told(w)
		for n := range nodes {
			want(t, "P6: Send to oneself", api.ErrArg, w.Send(n, n))
			for _, odd := range append(oddNumbers(), nodes) {
				want(t, "P1: Send of a node that is none", api.ErrArg, w.Send(n, odd), w.Send(odd, n), w.Send(odd, odd))
			}
			if n != 0 {
				want(t, "P6: Send of nothing", api.ErrNone, w.Send(n, 0))
			}
		}
		wantUnchanged(t, w, before)
	}
}

func TestP6NothingNewForWhoAckedAll(t *testing.T) {
	w := newWorld(t, 3)
	want(t, "P6: Send", api.OK, w.Add(0, "tea"), w.Send(0, 1), w.Deliver(0))
	want(t, "P6: Send, its Ack still flying", api.OK, w.Send(0, 1))
	want(t, "P7: Deliver", api.OK, w.Deliver(0))
	wantStatus(t, w, 0, "1 [0] [1 1 0] [1 0 0]")
	before := told(w)
	want(t, "P6: Send to who has acked all", api.ErrNone, w.Send(0, 1))
	wantUnchanged(t, w, before)
	want(t, "P6: Send to who has acked nothing", api.OK, w.Send(0, 2))
	want(t, "P6: Send of what is new", api.OK, w.Remove(0, "tea"), w.Send(0, 1))
	wantFlying(t, w, "News 0>1 #1 tea:0.1 | 0.1", "News 0>2 #1 tea:0.1 | 0.1", "News 0>1 #2 | 0.1")
}

func TestP6SendsWhatIsNotAcked(t *testing.T) {
	w := newWorld(t, 3)
	want(t, "P4: Add", api.OK, w.Add(0, "a"), w.Add(0, "b"), w.Add(0, "c"), w.Send(0, 1))
	want(t, "P7: Deliver", api.OK, w.Deliver(0), w.Deliver(0))
	want(t, "P4: Add, Remove", api.OK, w.Add(0, "d"), w.Remove(0, "b"), w.Add(0, "c"), w.Remove(0, "d"))
	want(t, "P6: Send", api.OK, w.Send(0, 1), w.Send(0, 2))
	wantFlying(t, w, "News 0>1 #7 c:0.5 | 0.2 0.3 0.4 0.5", "News 0>2 #7 a:0.1 c:0.5 | 0.1 0.2 0.3 0.4 0.5")
	wantStatus(t, w, 0, "7 [0 1 2 3 4 5 6] [7 3 0] [5 0 0]")
	want(t, "P7: Deliver", api.OK, w.Deliver(0), w.Deliver(0))
	for n := range 3 {
		wantText(t, w, n, "a:0.1 c:0.5 | 0.1 0.2 0.3 0.4 0.5")
	}
}

func TestP6AMessageStaysAsItWasSent(t *testing.T) {
	w := newWorld(t, 2)
	want(t, "P6: Send", api.OK, w.Add(0, "tea"), w.Send(0, 1), w.Add(0, "rum"), w.Clear(0))
	wantFlying(t, w, "News 0>1 #1 tea:0.1 | 0.1")
	want(t, "P7: Deliver", api.OK, w.Deliver(0))
	wantText(t, w, 1, "tea:0.1 | 0.1")
	wantFlying(t, w, "Ack 1>0 #1")
}

func TestP6LostWhenTooManyFly(t *testing.T) {
	w := newWorld(t, 2)
	want(t, "P4: Add", api.OK, w.Add(0, "tea"), w.Add(1, "rum"), w.Send(1, 0))
	for range api.MaxFlying - 2 {
		want(t, "P6: Send", api.OK, w.Send(0, 1))
	}
	if got := len(w.Flying()); got != api.MaxFlying-1 {
		t.Fatalf("P6: %d are flying", got)
	}
	want(t, "P7: Double into the last place", api.OK, w.Double(0))
	if l := w.Flying(); len(l) != api.MaxFlying || l[api.MaxFlying-1] != l[0] {
		t.Fatalf("P7: behind Double are flying %v", l)
	}
	before := told(w)
	want(t, "P6: what is lost is no error", api.OK, w.Send(0, 1), w.Send(1, 0), w.Double(0), w.Double(api.MaxFlying-1))
	if after := told(w); after != before {
		t.Errorf("P6: lost messages changed\n%sto\n%s", before, after)
	}
	want(t, "P1: errors come before losing", api.ErrArg, w.Send(0, 0), w.Send(0, 2))
	want(t, "P1: errors come before losing", api.ErrNone, w.Double(api.MaxFlying), w.Double(-1))
	want(t, "P7: Deliver makes room for its Ack", api.OK, w.Deliver(0))
	l := w.Flying()
	if ack := (api.Message{Kind: api.Ack, From: 0, To: 1, Number: 1}); len(l) != api.MaxFlying || l[api.MaxFlying-1] != ack {
		t.Errorf("P7: behind Deliver are flying %v", l)
	}
	want(t, "P7: Drop makes room", api.OK, w.Drop(3), w.Send(1, 0))
	if l := w.Flying(); len(l) != api.MaxFlying || l[api.MaxFlying-1].Kind != api.News || l[api.MaxFlying-1].From != 1 {
		t.Errorf("P7: behind Drop and Send are flying %v", l)
	}
}

func TestP7NoSuchMessage(t *testing.T) {
	w := newWorld(t, 2)
	for flying := range 3 {
		before := told(w)
		for _, i := range append(oddNumbers(), flying, flying+1, api.MaxFlying) {
			want(t, fmt.Sprintf("P7: message %d of %d", i, flying), api.ErrNone, w.Deliver(i), w.Drop(i), w.Double(i))
		}
		wantUnchanged(t, w, before)
		want(t, "P6: Send", api.OK, w.Add(0, "tea"), w.Send(0, 1))
	}
}

func TestP7InTheOrderOfSending(t *testing.T) {
	w := newWorld(t, 5)
	for n := range 5 {
		want(t, "P6: Send", api.OK, w.Add(4-n, "tea"), w.Send(4-n, (6-n)%5))
	}
	wantFlying(t, w, "News 4>1 #1 tea:4.1 | 4.1", "News 3>0 #1 tea:3.1 | 3.1", "News 2>4 #1 tea:2.1 | 2.1",
		"News 1>3 #1 tea:1.1 | 1.1", "News 0>2 #1 tea:0.1 | 0.1")
	want(t, "P7: Drop, Double, Deliver", api.OK, w.Drop(1), w.Double(0), w.Deliver(2))
	wantFlying(t, w, "News 4>1 #1 tea:4.1 | 4.1", "News 2>4 #1 tea:2.1 | 2.1", "News 0>2 #1 tea:0.1 | 0.1",
		"News 4>1 #1 tea:4.1 | 4.1", "Ack 3>1 #1")
	want(t, "P7: Double of an Ack, Drop of the first and the last", api.OK, w.Double(4), w.Drop(0), w.Drop(4))
	wantFlying(t, w, "News 2>4 #1 tea:2.1 | 2.1", "News 0>2 #1 tea:0.1 | 0.1", "News 4>1 #1 tea:4.1 | 4.1", "Ack 3>1 #1")
}

func TestP7DropAndDoubleTellTheNodesNothing(t *testing.T) {
	w := newWorld(t, 2)
	want(t, "P6: Send", api.OK, w.Add(0, "tea"))
	before := told(w)
	want(t, "P7: Drop", api.OK, w.Send(0, 1), w.Double(0), w.Drop(0), w.Drop(0))
	wantUnchanged(t, w, before)
	want(t, "P6: what was lost is sent again", api.OK, w.Send(0, 1), w.Deliver(0))
	wantText(t, w, 1, "tea:0.1 | 0.1")
}

func TestP7NewsIsNewsOfTheNode(t *testing.T) {
	w := newWorld(t, 3)
	want(t, "P7: Deliver", api.OK, w.Add(0, "tea"), w.Add(0, "rum"), w.Add(1, "gin"), w.Send(0, 1), w.Deliver(0))
	wantStatus(t, w, 1, "2 [0 1] [0 2 0] [2 1 0]")
	wantStatus(t, w, 0, "2 [0 1] [2 0 0] [2 0 0]")
	wantFlying(t, w, "Ack 1>0 #2")
	want(t, "P6: Send of what was heard", api.OK, w.Drop(0), w.Send(1, 2))
	wantFlying(t, w, "News 1>2 #2 gin:1.1 rum:0.2 tea:0.1 | 0.1 0.2 1.1")
}

func TestP7WhatIsHeardIsToldOnWhole(t *testing.T) {
	w := newWorld(t, 3)
	want(t, "P6: Send", api.OK, w.Add(0, "tea"), w.Send(0, 1), w.Deliver(0), w.Drop(0))
	want(t, "P6: Send", api.OK, w.Send(1, 2), w.Deliver(0), w.Deliver(0))
	wantStatus(t, w, 1, "1 [0] [0 1 1] [1 0 0]")
	want(t, "P6: a message half of which node 1 has", api.OK, w.Add(0, "rum"), w.Send(0, 1), w.Deliver(0), w.Drop(0))
	want(t, "P6: Send", api.OK, w.Send(1, 2))
	wantFlying(t, w, "News 1>2 #2 rum:0.2 tea:0.1 | 0.1 0.2")
}

func TestP7WhatTellsNothingNewIsNoNews(t *testing.T) {
	w := newWorld(t, 2)
	want(t, "P7: Deliver", api.OK, w.Add(0, "tea"), w.Send(0, 1), w.Double(0), w.Deliver(0))
	wantStatus(t, w, 1, "1 [0] [0 1] [1 0]")
	want(t, "P7: Deliver of it once more", api.OK, w.Deliver(0))
	wantStatus(t, w, 1, "1 [0] [0 1] [1 0]")
	wantFlying(t, w, "Ack 1>0 #1", "Ack 1>0 #1")
	want(t, "P7: Deliver of what comes from oneself", api.OK, w.Drop(0), w.Drop(0), w.Send(1, 0), w.Deliver(0))
	wantStatus(t, w, 0, "1 [0] [1 0] [1 0]")
	wantFlying(t, w, "Ack 0>1 #1")
}

func TestP7OnlyTakenOutOrOnlyKnownIsNews(t *testing.T) {
	w := newWorld(t, 3)
	want(t, "P7: Deliver", api.OK, w.Add(0, "tea"), w.Send(0, 1), w.Deliver(0), w.Deliver(0), w.Remove(0, "tea"))
	want(t, "P7: an entry goes, no token comes", api.OK, w.Send(0, 1), w.Deliver(0))
	wantText(t, w, 1, "| 0.1")
	wantStatus(t, w, 1, "2 [0 1] [0 2 0] [1 0 0]")
	want(t, "P7: a token comes, no entry goes", api.OK, w.Drop(0), w.Send(0, 2), w.Deliver(0))
	wantText(t, w, 2, "| 0.1")
	wantStatus(t, w, 2, "1 [0] [0 0 1] [1 0 0]")
}

func TestP7LateNewsBringsNothingBack(t *testing.T) {
	w := newWorld(t, 2)
	want(t, "P7: Deliver", api.OK, w.Add(0, "tea"), w.Send(0, 1), w.Double(0), w.Deliver(0), w.Drop(1), w.Remove(1, "tea"))
	want(t, "P7: Deliver of what was taken out since", api.OK, w.Deliver(0))
	wantText(t, w, 1, "| 0.1")
	wantStatus(t, w, 1, "2 [0 1] [0 2] [1 0]")
	wantFlying(t, w, "Ack 1>0 #1")
	want(t, "P6: Send", api.OK, w.Drop(0), w.Send(1, 0), w.Deliver(0))
	wantText(t, w, 0, "| 0.1")
}

func TestP7NewsInTheWrongOrder(t *testing.T) {
	w := newWorld(t, 2)
	want(t, "P6: Send", api.OK, w.Add(0, "tea"), w.Send(0, 1), w.Add(0, "tea"), w.Send(0, 1), w.Deliver(1))
	wantText(t, w, 1, "tea:0.2 | 0.1 0.2")
	want(t, "P7: the earlier one behind the later", api.OK, w.Deliver(0))
	wantText(t, w, 1, "tea:0.2 | 0.1 0.2")
	wantStatus(t, w, 1, "1 [0] [0 1] [2 0]")
	wantFlying(t, w, "Ack 1>0 #2", "Ack 1>0 #1")
	want(t, "P7: Ack", api.OK, w.Deliver(0))
	wantStatus(t, w, 0, "2 [0 1] [2 2] [2 0]")
	want(t, "P7: a late Ack", api.OK, w.Deliver(0))
	wantStatus(t, w, 0, "2 [0 1] [2 2] [2 0]")
	wantFlying(t, w)
}

func TestP7AckTellsItsReceiverOfItsSender(t *testing.T) {
	w := newWorld(t, 4)
	want(t, "P6: Send", api.OK, w.Add(2, "tea"), w.Add(2, "rum"), w.Add(3, "gin"), w.Send(2, 3), w.Deliver(0), w.Double(0))
	before := make([]string, 4)
	for n := range before {
		before[n], _ = w.Text(n)
	}
	want(t, "P7: Ack", api.OK, w.Deliver(0))
	wantStatus(t, w, 2, "2 [0 1] [0 0 2 2] [0 0 2 0]")
	wantStatus(t, w, 3, "2 [0 1] [0 0 0 2] [0 0 2 1]")
	wantStatus(t, w, 0, "0 [] [0 0 0 0] [0 0 0 0]")
	want(t, "P7: the same Ack once more", api.OK, w.Deliver(0))
	wantStatus(t, w, 2, "2 [0 1] [0 0 2 2] [0 0 2 0]")
	wantFlying(t, w)
	for n, text := range before {
		wantText(t, w, n, text)
	}
}

func TestP7TheTextOfAnAckIsEmpty(t *testing.T) {
	w := newWorld(t, 2)
	want(t, "P7: Deliver", api.OK, w.Add(0, "tea"), w.Send(0, 1), w.Deliver(0))
	l := w.Flying()
	if len(l) != 1 || l[0] != (api.Message{Kind: 2, From: 1, To: 0, Number: 1}) {
		t.Errorf("P7: flying %v", l)
	}
}

func TestP2FlyingIsNewMemory(t *testing.T) {
	w := newWorld(t, 2)
	if l := w.Flying(); len(l) != 0 {
		t.Errorf("P7: a new world has flying %v", l)
	}
	want(t, "P6: Send", api.OK, w.Add(0, "tea"), w.Send(0, 1), w.Double(0), w.Double(0))
	before := told(w)
	scribble(w.Flying(), api.Message{Kind: -1, From: 9, To: 9, Text: "mine"})
	wantUnchanged(t, w, before)
	earlier := w.Flying()
	want(t, "P7: Drop, Deliver", api.OK, w.Drop(0), w.Deliver(0))
	for _, m := range earlier {
		if m != (api.Message{Kind: 1, From: 0, To: 1, Number: 1, Text: "tea:0.1 | 0.1"}) {
			t.Errorf("P2: an earlier answer became %v", earlier)
		}
	}
	want(t, "P7: Double", api.OK, w.Double(1))
	wantFlying(t, w, "News 0>1 #1 tea:0.1 | 0.1", "Ack 1>0 #1", "Ack 1>0 #1")
}
