package basket

import (
	"slices"
	"strconv"
	"testing"

	"basket/api"
	"basket/piece"
)

// keptTexts tells the pieces that a node keeps, by their numbers.
func keptTexts(t *testing.T, w *World, number int) []string {
	t.Helper()
	var texts []string
	for i, kept := range w.nodes[number].kept {
		if kept.number != i {
			t.Errorf("P4: the piece kept as number %d stands at %d", kept.number, i)
		}
		texts = append(texts, kept.piece.Text())
	}
	return texts
}

func wantKept(t *testing.T, w *World, number int, want ...string) {
	t.Helper()
	if got := keptTexts(t, w, number); !slices.Equal(got, want) {
		t.Errorf("P4: node %d keeps %q, want %q", number, got, want)
	}
}

func TestKeptPieces(t *testing.T) {
	w, _ := New(2)
	w.Add(0, "tea")
	w.Add(0, "rum")
	w.Add(0, "tea")
	w.Remove(0, "rum")
	w.Add(0, "gin")
	w.Clear(0)
	w.Add(0, "tea")
	wantKept(t, w, 0, "tea:0.1 | 0.1", "rum:0.2 | 0.2", "tea:0.3 | 0.1 0.3",
		"| 0.2", "gin:0.4 | 0.4", "| 0.3 0.4", "tea:0.5 | 0.5")
	wantKept(t, w, 1)
}

func TestRefusedCallsKeepNothing(t *testing.T) {
	w, _ := New(1)
	w.Add(0, "Tea")
	w.Remove(0, "tea")
	w.Clear(0)
	wantKept(t, w, 0)
}

// heard is a world of two nodes where node 0 has an entry of node 1's with the
// name of one of its own.
func heard() *World {
	w, _ := New(2)
	w.Add(0, "tea")
	w.Add(1, "tea")
	w.Add(1, "rum")
	w.nodes[0].takeIn(w.nodes[1].basket)
	return w
}

func TestSeveralEntriesOfOneName(t *testing.T) {
	cases := []struct {
		what     string
		call     func(w *World) api.Errno
		newest   string
		basket   string
		wantName []string
	}{
		{"Add", func(w *World) api.Errno { return w.Add(0, "tea") },
			"tea:0.2 | 0.1 0.2 1.1", "rum:1.2 tea:0.2 | 0.1 0.2 1.1 1.2", []string{"rum", "tea"}},
		{"Remove", func(w *World) api.Errno { return w.Remove(0, "tea") },
			"| 0.1 1.1", "rum:1.2 | 0.1 1.1 1.2", []string{"rum"}},
		{"Clear", func(w *World) api.Errno { return w.Clear(0) },
			"| 0.1 1.1 1.2", "| 0.1 1.1 1.2", nil},
	}
	for _, c := range cases {
		w := heard()
		if got, _ := w.Items(0); !slices.Equal(got, []string{"rum", "tea"}) {
			t.Errorf("P5: Items with one name twice: %q", got)
		}
		if got := c.call(w); got != api.OK {
			t.Errorf("P4: %s: %d", c.what, got)
		}
		wantKept(t, w, 0, "tea:0.1 | 0.1", "rum:1.2 tea:1.1 | 1.1 1.2", c.newest)
		if got, _ := w.Text(0); got != c.basket {
			t.Errorf("P4: Text behind %s: %q, want %q", c.what, got, c.basket)
		}
		if got, _ := w.Items(0); !slices.Equal(got, c.wantName) {
			t.Errorf("P5: Items behind %s: %q, want %q", c.what, got, c.wantName)
		}
	}
}

func TestStatusTellsOfOthers(t *testing.T) {
	w := heard()
	w.nodes[0].acked[1] = 1
	got, _ := w.Status(0)
	if got.Count != 2 || !slices.Equal(got.Kept, []int{0, 1}) ||
		!slices.Equal(got.Acked, []int{2, 1}) || !slices.Equal(got.Tokens, []int{1, 2}) {
		t.Errorf("P5: Status(0) = %v", got)
	}
}

func TestTokensOfOthersAreNoAdds(t *testing.T) {
	w, _ := New(2)
	for range api.MaxAdds - 1 {
		w.Add(1, "z")
	}
	w.nodes[0].takeIn(w.nodes[1].basket)
	if got := w.Add(0, "a"); got != api.OK {
		t.Errorf("P4: the last Add of MaxAdds: %d", got)
	}
	if got := w.Add(1, "a"); got != api.ErrFull {
		t.Errorf("P4: the Add behind the last: %d", got)
	}
	if got := w.nodes[0].basket.Named("a"); !slices.Equal(got, []piece.Entry{{Name: "a", Token: piece.Token{Node: 0, Number: 1}}}) {
		t.Errorf("P4: the token of node 0's first Add: %v", got)
	}
}

func TestKindsAreThoseOfPackageApi(t *testing.T) {
	if newsKind != api.News || ackKind != api.Ack {
		t.Errorf("the kinds are %d and %d, want %d and %d", newsKind, ackKind, api.News, api.Ack)
	}
}

// forgetful is a world where node 0 keeps only its pieces from a number on.
func forgetful(from int) *World {
	w, _ := New(2)
	w.Add(0, "tea")
	w.Add(0, "rum")
	w.Remove(0, "tea")
	w.Add(0, "gin")
	w.nodes[0].kept = w.nodes[0].kept[from:]
	return w
}

func TestWhichPieceIsSent(t *testing.T) {
	whole := "gin:0.3 rum:0.2 | 0.1 0.2 0.3"
	cases := []struct {
		what        string
		from, acked int
		want        string
	}{
		{"all is kept, nothing acked", 0, 0, whole},
		{"all is kept, some acked", 0, 2, "gin:0.3 | 0.1 0.3"},
		{"what is kept goes back to what was acked", 2, 2, "gin:0.3 | 0.1 0.3"},
		{"what is kept goes back further", 1, 3, "gin:0.3 | 0.3"},
		{"the last piece alone", 3, 3, "gin:0.3 | 0.3"},
		{"what is kept begins one behind what was acked", 3, 2, whole},
		{"what is kept begins behind nothing acked", 1, 0, whole},
		{"nothing is kept, nothing acked", 4, 0, whole},
		{"nothing is kept, some acked", 4, 3, whole},
	}
	for _, c := range cases {
		w := forgetful(c.from)
		w.nodes[0].acked[1] = c.acked
		if e := w.Send(0, 1); e != api.OK {
			t.Errorf("P6: %s: Send: %d", c.what, e)
		}
		want := []api.Message{{Kind: api.News, From: 0, To: 1, Number: 4, Text: c.want}}
		if got := w.Flying(); !slices.Equal(got, want) {
			t.Errorf("P6: %s: flying %v, want %v", c.what, got, want)
		}
	}
}

func TestNothingIsSentToWhoAckedAll(t *testing.T) {
	for from := range 5 {
		w := forgetful(from)
		w.nodes[0].acked[1] = 4
		if e := w.Send(0, 1); e != api.ErrNone || len(w.Flying()) != 0 {
			t.Errorf("P6: Send: %d, flying %v", e, w.Flying())
		}
	}
}

func TestHeardPiecesAreKeptAsTheyCame(t *testing.T) {
	w, _ := New(2)
	w.Add(0, "tea")
	w.Send(0, 1)
	w.Add(0, "rum")
	w.Send(0, 1)
	w.Deliver(0)
	w.Deliver(0)
	wantKept(t, w, 1, "tea:0.1 | 0.1", "rum:0.2 tea:0.1 | 0.1 0.2")
}

func TestGatheredIsInTheOrderOfTheNodes(t *testing.T) {
	w, _ := New(5)
	w.Add(2, "tea")
	w.Add(2, "rum")
	w.nodes[2].acked[1] = 1
	w.nodes[2].acked[3] = 2
	want := []string{"0 rum:2.2 tea:2.1 | 2.1 2.2", "1 rum:2.2 | 2.2", "4 rum:2.2 tea:2.1 | 2.1 2.2"}
	var got []string
	for _, m := range w.gather(2) {
		got = append(got, strconv.Itoa(m.to)+" "+m.text())
		if m.kind != newsKind || m.from != 2 || m.number != 2 {
			t.Errorf("P9: gathered %v", m)
		}
	}
	if !slices.Equal(got, want) {
		t.Errorf("P9: gathered %q, want %q", got, want)
	}
	if got := w.gather(0); len(got) != 0 {
		t.Errorf("P9: gathered %v of a node without news", got)
	}
}
