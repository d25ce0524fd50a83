package basket_test

import (
	"fmt"
	"runtime"
	"slices"
	"testing"

	"basket/api"
	"basket/basket"
)

func wantRound(t *testing.T, w *basket.World, came int) {
	t.Helper()
	if got := w.Round(); got != came {
		t.Errorf("P9: Round() = %d, want %d", got, came)
	}
}

func wantAllAlike(t *testing.T, w *basket.World, nodes int, text string) {
	t.Helper()
	for n := range nodes {
		wantText(t, w, n, text)
	}
}

func TestP9RoundOfNoNews(t *testing.T) {
	for nodes := 1; nodes <= api.MaxNodes; nodes++ {
		w := newWorld(t, nodes)
		before := told(w)
		wantRound(t, w, 0)
		wantUnchanged(t, w, before)
	}
}

func TestP9RoundOfASingleNode(t *testing.T) {
	w := newWorld(t, 1)
	want(t, "P4: Add", api.OK, w.Add(0, "tea"), w.Add(0, "rum"))
	before := told(w)
	wantRound(t, w, 0)
	wantUnchanged(t, w, before)
}

func TestP9RoundOfOneNodesNews(t *testing.T) {
	w := newWorld(t, 4)
	want(t, "P4: Add", api.OK, w.Add(2, "tea"))
	wantRound(t, w, 6) // node 2 tells all, and node 3, whose turn comes behind that, tells it on
	wantAllAlike(t, w, 4, "tea:2.1 | 2.1")
	wantStatus(t, w, 0, "1 [0] [1 0 0 0] [0 0 1 0]")
	wantStatus(t, w, 1, "1 [0] [0 1 0 0] [0 0 1 0]")
	wantStatus(t, w, 2, "1 [0] [1 1 1 1] [0 0 1 0]")
	wantStatus(t, w, 3, "1 [0] [1 1 1 1] [0 0 1 0]")
	wantRound(t, w, 6)
	for n := range 4 {
		wantStatus(t, w, n, "1 [0] [1 1 1 1] [0 0 1 0]")
	}
	before := told(w)
	wantRound(t, w, 0)
	wantUnchanged(t, w, before)
}

func TestP9RoundOfAllNodesNews(t *testing.T) {
	w := newWorld(t, 5)
	for n := range 5 {
		want(t, "P4: Add", api.OK, w.Add(n, "tea"))
	}
	wantRound(t, w, 20)
	wantAllAlike(t, w, 5, "tea:0.1 tea:1.1 tea:2.1 tea:3.1 tea:4.1 | 0.1 1.1 2.1 3.1 4.1")
	wantStatus(t, w, 0, "5 [0 1 2 3 4] [5 1 1 1 1] [1 1 1 1 1]")
	wantStatus(t, w, 2, "5 [0 1 2 3 4] [3 3 5 3 3] [1 1 1 1 1]")
	wantStatus(t, w, 4, "5 [0 1 2 3 4] [5 5 5 5 5] [1 1 1 1 1]")
}

func TestP9RoundTellsOnlyThoseWhoHaveNotAcked(t *testing.T) {
	w := newWorld(t, 3)
	want(t, "P4: Add", api.OK, w.Add(0, "tea"))
	acked(t, w, 0, 1)
	wantRound(t, w, 5) // 0 to 2; 1 and 2 to both others
	wantAllAlike(t, w, 3, "tea:0.1 | 0.1")
	wantStatus(t, w, 0, "1 [0] [1 1 1] [1 0 0]")
}

func TestP9RoundTellsThePieceThatSendWouldSend(t *testing.T) {
	w := newWorld(t, 3)
	want(t, "P4: Add", api.OK, w.Add(2, "a"), w.Add(2, "x"))
	wantRound(t, w, 2)
	wantRound(t, w, 4)
	want(t, "P4: Add", api.OK, w.Add(2, "b"), w.Remove(2, "a"), w.Add(2, "c"))
	wantRound(t, w, 2)
	wantSent(t, w, 1, 0, "News 1>0 #2 b:2.3 c:2.4 | 2.1 2.3 2.4")
	wantRound(t, w, 4)
	want(t, "P8: Crash, P4: Add", api.OK, w.Crash(2), w.Add(2, "d"))
	wantRound(t, w, 2)
	wantSent(t, w, 1, 0, "News 1>0 #3 b:2.3 c:2.4 d:2.5 x:2.2 | 2.1 2.2 2.3 2.4 2.5")
	wantStatus(t, w, 2, "6 [5] [6 6 6] [0 0 5]")
}

func TestP9RoundLeavesFlyingAlone(t *testing.T) {
	w := newWorld(t, 2)
	want(t, "P6: Send", api.OK, w.Add(0, "tea"), w.Send(0, 1), w.Add(1, "rum"), w.Send(1, 0), w.Deliver(0))
	for range api.MaxFlying {
		want(t, "P7: Double", api.OK, w.Double(0), w.Double(1))
	}
	before := w.Flying()
	if len(before) != api.MaxFlying {
		t.Fatalf("P7: %d are flying", len(before))
	}
	wantRound(t, w, 2)
	if after := w.Flying(); !slices.Equal(after, before) {
		t.Errorf("P9: Round changed what is flying from %v to %v", before, after)
	}
	wantAllAlike(t, w, 2, "rum:1.1 tea:0.1 | 0.1 1.1")
	wantStatus(t, w, 0, "2 [0 1] [2 1] [1 1]")
	wantStatus(t, w, 1, "2 [0 1] [2 2] [1 1]")
}

func TestP9LateMessagesBehindARound(t *testing.T) {
	w := newWorld(t, 2)
	want(t, "P6: Send", api.OK, w.Add(0, "a"), w.Send(0, 1), w.Double(0), w.Deliver(0), w.Add(0, "b"), w.Send(0, 1))
	wantFlying(t, w, "News 0>1 #1 a:0.1 | 0.1", "Ack 1>0 #1", "News 0>1 #2 a:0.1 b:0.2 | 0.1 0.2")
	wantRound(t, w, 2)
	wantStatus(t, w, 0, "2 [0 1] [2 2] [2 0]")
	wantStatus(t, w, 1, "2 [0 1] [2 2] [2 0]")
	want(t, "P4: Remove", api.OK, w.Remove(1, "a"))
	want(t, "P7: Double, Deliver of all that is late", api.OK, w.Double(2), w.Deliver(0), w.Deliver(0), w.Deliver(0), w.Deliver(0))
	wantText(t, w, 1, "b:0.2 | 0.1 0.2")
	wantStatus(t, w, 0, "2 [0 1] [2 2] [2 0]")
	wantStatus(t, w, 1, "3 [0 1 2] [2 3] [2 0]")
	wantFlying(t, w, "Ack 1>0 #1", "Ack 1>0 #2", "Ack 1>0 #2")
	want(t, "P7: the late Acks", api.OK, w.Deliver(2), w.Deliver(0), w.Deliver(0))
	wantStatus(t, w, 0, "2 [0 1] [2 2] [2 0]")
	wantRound(t, w, 1)
	wantAllAlike(t, w, 2, "b:0.2 | 0.1 0.2")
}

func TestP9RoundBehindCrashes(t *testing.T) {
	w := newWorld(t, 3)
	want(t, "P4: Add", api.OK, w.Add(0, "a"), w.Add(1, "b"), w.Add(2, "c"))
	wantRound(t, w, 6)
	want(t, "P4: Remove", api.OK, w.Remove(1, "a"), w.Add(2, "b"))
	for n := range 3 {
		want(t, "P8: Crash", api.OK, w.Crash(n))
	}
	wantRound(t, w, 6)
	wantAllAlike(t, w, 3, "b:2.2 c:2.1 | 0.1 1.1 2.1 2.2")
	wantStatus(t, w, 0, "5 [3 4] [5 3 3] [1 1 2]")
	wantStatus(t, w, 1, "5 [4] [4 5 4] [1 1 2]")
	wantStatus(t, w, 2, "5 [4] [5 5 5] [1 1 2]")
}

func TestP9RoundBehindCollect(t *testing.T) {
	w := newWorld(t, 3)
	want(t, "P4: Add", api.OK, w.Add(0, "a"))
	wantRound(t, w, 6)
	for n := range 3 {
		want(t, "P8: Collect", api.OK, w.Collect(n))
		wantStatus(t, w, n, "1 [] [1 1 1] [1 0 0]")
	}
	wantRound(t, w, 0)
	want(t, "P4: Clear", api.OK, w.Clear(1))
	wantRound(t, w, 4)
	wantAllAlike(t, w, 3, "| 0.1")
	wantStatus(t, w, 0, "2 [1] [2 1 1] [1 0 0]")
}

// busy is a world where all have much to tell.
func busy(t *testing.T) *basket.World {
	t.Helper()
	w := newWorld(t, api.MaxNodes)
	for i := range api.MaxAdds {
		n := i % api.MaxNodes
		want(t, "P4: Add", api.OK, w.Add(n, string(rune('a'+i%7))))
		if i%4 == 0 {
			want(t, "P6: Send", api.OK, w.Send(n, (n+2)%api.MaxNodes), w.Deliver(0))
		}
	}
	return w
}

func TestP9NoGoroutineIsLeft(t *testing.T) {
	before := runtime.NumGoroutine()
	for range 50 {
		w := busy(t)
		w.Round()
		w.Round()
		w.Round()
	}
	// One that has closed its channel may have its last step still before it.
	for range 1_000_000 {
		if runtime.NumGoroutine() <= before {
			return
		}
		runtime.Gosched()
	}
	t.Errorf("P9: %d goroutines behind the Rounds, %d before", runtime.NumGoroutine(), before)
}

func TestP2RoundAnswersAlikeHoweverGoroutinesRun(t *testing.T) {
	var first string
	for i := range 40 {
		previous := runtime.GOMAXPROCS(i%4 + 1)
		w := busy(t)
		answers := fmt.Sprintln(w.Round(), w.Round(), w.Round()) + told(w)
		runtime.GOMAXPROCS(previous)
		if i == 0 {
			first = answers
		}
		if answers != first {
			t.Fatalf("P2: Rounds answer\n%sand\n%s", first, answers)
		}
	}
}
