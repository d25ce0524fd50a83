package basket_test

import (
	"testing"

	"basket/api"
	"basket/basket"
)

// acked lets a node get all that another one has new, and its Ack come back.
// Nothing else may be flying.
func acked(t *testing.T, w *basket.World, from, to int) {
	t.Helper()
	want(t, "P6, P7: Send, Deliver of News and Ack", api.OK, w.Send(from, to), w.Deliver(0), w.Deliver(0))
}

// wantSent holds the one message that a Send gives against a text, and loses it.
func wantSent(t *testing.T, w *basket.World, from, to int, message string) {
	t.Helper()
	want(t, "P6: Send", api.OK, w.Send(from, to))
	wantFlying(t, w, message)
	want(t, "P7: Drop", api.OK, w.Drop(0))
}

func TestP8CollectForgetsWhatAllHaveAcked(t *testing.T) {
	w := newWorld(t, 3)
	want(t, "P4: Add", api.OK, w.Add(0, "a"), w.Add(0, "b"))
	want(t, "P8: nobody has acked", api.OK, w.Collect(0))
	wantStatus(t, w, 0, "2 [0 1] [2 0 0] [2 0 0]")
	acked(t, w, 0, 2)
	want(t, "P8: one has acked, one not", api.OK, w.Collect(0))
	wantStatus(t, w, 0, "2 [0 1] [2 0 2] [2 0 0]")
	acked(t, w, 0, 1)
	wantStatus(t, w, 0, "2 [0 1] [2 2 2] [2 0 0]")
	want(t, "P8: all have acked all", api.OK, w.Collect(0))
	wantStatus(t, w, 0, "2 [] [2 2 2] [2 0 0]")
	want(t, "P8: nothing is kept", api.OK, w.Collect(0))
	wantStatus(t, w, 0, "2 [] [2 2 2] [2 0 0]")
	want(t, "P4: Add", api.OK, w.Add(0, "c"), w.Collect(0))
	wantStatus(t, w, 0, "3 [2] [3 2 2] [3 0 0]")
}

func TestP8CollectGoesUpToTheLeastAcked(t *testing.T) {
	for least := range 3 {
		w := newWorld(t, 3)
		for i := range 4 {
			want(t, "P4: Add", api.OK, w.Add(1, "tea"))
			if i+1 == least {
				acked(t, w, 1, 0)
			}
			if i == 2 {
				acked(t, w, 1, 2)
			}
		}
		want(t, "P8: Collect", api.OK, w.Collect(1), w.Collect(1))
		wantStatus(t, w, 1, []string{
			"4 [0 1 2 3] [0 4 3] [0 4 0]",
			"4 [1 2 3] [1 4 3] [0 4 0]",
			"4 [2 3] [2 4 3] [0 4 0]",
		}[least])
	}
}

func TestP8CollectOfASingleNode(t *testing.T) {
	w := newWorld(t, 1)
	want(t, "P8: Collect of nothing", api.OK, w.Collect(0))
	wantStatus(t, w, 0, "0 [] [0] [0]")
	want(t, "P8: Collect", api.OK, w.Add(0, "tea"), w.Add(0, "rum"), w.Clear(0), w.Collect(0))
	wantStatus(t, w, 0, "3 [] [3] [2]")
	wantText(t, w, 0, "| 0.1 0.2")
	want(t, "P4: Add", api.OK, w.Add(0, "tea"))
	wantStatus(t, w, 0, "4 [3] [4] [3]")
	wantText(t, w, 0, "tea:0.3 | 0.1 0.2 0.3")
}

func TestP8CollectChangesNothingElse(t *testing.T) {
	w := newWorld(t, 2)
	want(t, "P4: Add", api.OK, w.Add(0, "tea"), w.Add(1, "rum"))
	acked(t, w, 0, 1)
	want(t, "P6: Send", api.OK, w.Add(0, "gin"), w.Send(0, 1), w.Send(1, 0), w.Double(0), w.Collect(0))
	wantStatus(t, w, 0, "2 [1] [2 1] [2 0]")
	wantStatus(t, w, 1, "2 [0 1] [0 2] [1 1]")
	wantText(t, w, 0, "gin:0.2 tea:0.1 | 0.1 0.2")
	wantText(t, w, 1, "rum:1.1 tea:0.1 | 0.1 1.1")
	wantFlying(t, w, "News 0>1 #2 gin:0.2 | 0.2", "News 1>0 #2 rum:1.1 tea:0.1 | 0.1 1.1", "News 0>1 #2 gin:0.2 | 0.2")
	before := told(w)
	want(t, "P8: Collect of a node whose news nobody has acked", api.OK, w.Collect(1))
	wantUnchanged(t, w, before)
}

func TestP6SendBehindCollect(t *testing.T) {
	w := newWorld(t, 3)
	want(t, "P4: Add", api.OK, w.Add(0, "a"), w.Add(0, "b"))
	acked(t, w, 0, 1)
	want(t, "P4: Remove", api.OK, w.Remove(0, "a"))
	acked(t, w, 0, 2)
	want(t, "P4: Add, P8: Collect", api.OK, w.Add(0, "c"), w.Collect(0))
	wantStatus(t, w, 0, "4 [2 3] [4 2 3] [3 0 0]")
	wantSent(t, w, 0, 1, "News 0>1 #4 c:0.3 | 0.1 0.3")
	wantSent(t, w, 0, 2, "News 0>2 #4 c:0.3 | 0.3")
	acked(t, w, 0, 1)
	acked(t, w, 0, 2)
	want(t, "P8: Collect", api.OK, w.Collect(0))
	wantStatus(t, w, 0, "4 [] [4 4 4] [3 0 0]")
	want(t, "P6: Send to who has acked all", api.ErrNone, w.Send(0, 1), w.Send(0, 2))
	want(t, "P4: Add", api.OK, w.Add(0, "d"))
	wantSent(t, w, 0, 1, "News 0>1 #5 d:0.4 | 0.4")
	wantText(t, w, 0, "b:0.2 c:0.3 d:0.4 | 0.1 0.2 0.3 0.4")
}

func TestP8CrashLosesWhatIsKeptAndAcked(t *testing.T) {
	w := newWorld(t, 3)
	want(t, "P4: Add", api.OK, w.Add(0, "tea"), w.Add(0, "rum"), w.Add(1, "gin"))
	acked(t, w, 0, 1)
	acked(t, w, 0, 2)
	acked(t, w, 1, 0)
	want(t, "P6: Send", api.OK, w.Remove(0, "tea"), w.Send(0, 1), w.Send(1, 2))
	wantStatus(t, w, 0, "4 [0 1 2 3] [4 2 2] [2 1 0]")
	others := [2]string{"2 [0 1] [2 2 0] [2 1 0]", "1 [0] [0 0 1] [2 0 0]"}
	want(t, "P8: Crash", api.OK, w.Crash(0))
	wantStatus(t, w, 0, "4 [] [4 0 0] [2 1 0]")
	wantText(t, w, 0, "gin:1.1 rum:0.2 | 0.1 0.2 1.1")
	wantItems(t, w, 0, "gin", "rum")
	wantStatus(t, w, 1, others[0])
	wantStatus(t, w, 2, others[1])
	wantText(t, w, 1, "gin:1.1 rum:0.2 tea:0.1 | 0.1 0.2 1.1")
	wantFlying(t, w, "News 0>1 #4 gin:1.1 rum:0.2 | 0.1 0.2 1.1", "News 1>2 #2 gin:1.1 rum:0.2 tea:0.1 | 0.1 0.2 1.1")
	before := told(w)
	want(t, "P8: Crash once more", api.OK, w.Crash(0), w.Collect(0))
	wantUnchanged(t, w, before)
}

func TestP8CrashOfWhoHasNothing(t *testing.T) {
	for nodes := 1; nodes <= api.MaxNodes; nodes++ {
		w := newWorld(t, nodes)
		before := told(w)
		want(t, "P8: Crash, Collect", api.OK, w.Crash(0), w.Collect(nodes-1), w.Crash(nodes-1))
		wantUnchanged(t, w, before)
		if nodes > 1 {
			want(t, "P6: Send of nothing", api.ErrNone, w.Send(0, 1))
		}
	}
}

func TestP8CrashOfASingleNode(t *testing.T) {
	w := newWorld(t, 1)
	want(t, "P8: Crash", api.OK, w.Add(0, "tea"), w.Add(0, "rum"), w.Crash(0))
	wantStatus(t, w, 0, "2 [] [2] [2]")
	want(t, "P4: Add, Remove", api.OK, w.Add(0, "tea"), w.Remove(0, "rum"))
	wantStatus(t, w, 0, "4 [2 3] [4] [3]")
	wantText(t, w, 0, "tea:0.3 | 0.1 0.2 0.3")
}

func TestP6SendBehindCrash(t *testing.T) {
	w := newWorld(t, 3)
	want(t, "P4: Add", api.OK, w.Add(0, "a"), w.Add(0, "b"))
	acked(t, w, 0, 1)
	want(t, "P8: Crash", api.OK, w.Remove(0, "a"), w.Crash(0))
	wantSent(t, w, 0, 1, "News 0>1 #3 b:0.2 | 0.1 0.2")
	wantSent(t, w, 0, 2, "News 0>2 #3 b:0.2 | 0.1 0.2")
	want(t, "P4: Add", api.OK, w.Add(0, "c"))
	wantStatus(t, w, 0, "4 [3] [4 0 0] [3 0 0]")
	wantSent(t, w, 0, 2, "News 0>2 #4 b:0.2 c:0.3 | 0.1 0.2 0.3")
	acked(t, w, 0, 1)
	wantText(t, w, 1, "b:0.2 c:0.3 | 0.1 0.2 0.3")
	want(t, "P6: Send to who has acked all", api.ErrNone, w.Send(0, 1))
	want(t, "P4: Add", api.OK, w.Add(0, "d"))
	wantSent(t, w, 0, 1, "News 0>1 #5 d:0.4 | 0.4")
	wantSent(t, w, 0, 2, "News 0>2 #5 b:0.2 c:0.3 d:0.4 | 0.1 0.2 0.3 0.4")
	want(t, "P8: a node has acked nothing since", api.OK, w.Collect(0))
	wantStatus(t, w, 0, "5 [3 4] [5 4 0] [4 0 0]")
}

func TestP8WhoHadAckedAllIsToldAgainBehindCrash(t *testing.T) {
	w := newWorld(t, 2)
	want(t, "P4: Add", api.OK, w.Add(0, "tea"))
	acked(t, w, 0, 1)
	want(t, "P6: Send to who has acked all", api.ErrNone, w.Send(0, 1))
	want(t, "P8: Crash", api.OK, w.Crash(0))
	acked(t, w, 0, 1)
	wantStatus(t, w, 0, "1 [] [1 1] [1 0]")
	wantStatus(t, w, 1, "1 [0] [0 1] [1 0]")
	want(t, "P6: Send to who has acked all", api.ErrNone, w.Send(0, 1))
}

func TestP8AcksOfBeforeTheCrashStillCount(t *testing.T) {
	w := newWorld(t, 2)
	want(t, "P7: Deliver", api.OK, w.Add(0, "a"), w.Send(0, 1), w.Deliver(0), w.Add(0, "b"), w.Send(0, 1), w.Deliver(1))
	want(t, "P8: Crash, with the Acks 1 and 2 flying", api.OK, w.Crash(0), w.Add(0, "c"))
	wantFlying(t, w, "Ack 1>0 #1", "Ack 1>0 #2")
	want(t, "P7: the first Ack", api.OK, w.Deliver(0))
	wantStatus(t, w, 0, "3 [2] [3 1] [3 0]")
	want(t, "P6: some that was not acked is forgotten", api.OK, w.Send(0, 1))
	wantFlying(t, w, "Ack 1>0 #2", "News 0>1 #3 a:0.1 b:0.2 c:0.3 | 0.1 0.2 0.3")
	want(t, "P7: the second Ack", api.OK, w.Drop(1), w.Deliver(0))
	wantStatus(t, w, 0, "3 [2] [3 2] [3 0]")
	wantSent(t, w, 0, 1, "News 0>1 #3 c:0.3 | 0.3")
}

func TestP8NewsOfBeforeTheCrashStillComes(t *testing.T) {
	w := newWorld(t, 2)
	want(t, "P8: Crash", api.OK, w.Add(0, "a"), w.Send(0, 1), w.Double(0), w.Crash(0), w.Crash(1), w.Deliver(0))
	wantText(t, w, 1, "a:0.1 | 0.1")
	wantStatus(t, w, 1, "1 [0] [0 1] [1 0]")
	want(t, "P8: Crash of who has heard it, and the same once more", api.OK, w.Crash(1), w.Deliver(0))
	wantStatus(t, w, 1, "1 [] [0 1] [1 0]")
	wantFlying(t, w, "Ack 1>0 #1", "Ack 1>0 #1")
	want(t, "P7: Ack", api.OK, w.Deliver(1))
	wantStatus(t, w, 0, "1 [] [1 1] [1 0]")
}

func TestP8NodesThatAreNone(t *testing.T) {
	for nodes := 1; nodes <= api.MaxNodes; nodes++ {
		w := newWorld(t, nodes)
		for n := range nodes {
			want(t, "P4: Add", api.OK, w.Add(n, "tea"), w.Add(n, "rum"))
		}
		wantRound(t, w, nodes*(nodes-1))
		want(t, "P4: Remove", api.OK, w.Remove(0, "tea"))
		before := told(w)
		for _, n := range append(oddNumbers(), nodes) {
			want(t, "P8: a node that is none", api.ErrArg, w.Collect(n), w.Crash(n))
		}
		wantUnchanged(t, w, before)
	}
}
