package basket_test

import (
	"fmt"
	"math"
	"slices"
	"strings"
	"testing"

	"basket/api"
	"basket/basket"
)

func oddNumbers() []int {
	return []int{-1, api.MaxNodes + 1, math.MaxInt, math.MinInt, math.MaxInt32 + 1}
}

func noNames() []string {
	return []string{"", "A", "Z", "a b", " a", "a ", "`", "{", "a1", "a:", "a\n", "a\x00", "\xff", "ä", "ａ",
		"Tea", "teA", "tea.", "ninechars", strings.Repeat("a", api.MaxName+1), strings.Repeat("a", 1<<16)}
}

func newWorld(t *testing.T, nodes int) *basket.World {
	t.Helper()
	w, e := basket.New(nodes)
	if w == nil || e != api.OK {
		t.Fatalf("P3: New(%d): %v, %d", nodes, w, e)
	}
	return w
}

// want holds what calls answered against one error.
func want(t *testing.T, what string, e api.Errno, got ...api.Errno) {
	t.Helper()
	for i, g := range got {
		if g != e {
			t.Errorf("%s: call %d answers %d, want %d", what, i, g, e)
		}
	}
}

func wantText(t *testing.T, w *basket.World, node int, text string) {
	t.Helper()
	if got, e := w.Text(node); got != text || e != api.OK {
		t.Errorf("P5: Text(%d) = %q, %d, want %q", node, got, e, text)
	}
}

func wantItems(t *testing.T, w *basket.World, node int, items ...string) {
	t.Helper()
	if got, e := w.Items(node); !slices.Equal(got, items) || e != api.OK {
		t.Errorf("P5: Items(%d) = %q, %d, want %q", node, got, e, items)
	}
}

func wantStatus(t *testing.T, w *basket.World, node int, status string) {
	t.Helper()
	s, e := w.Status(node)
	if got := fmt.Sprint(s.Count, s.Kept, s.Acked, s.Tokens); got != status || e != api.OK {
		t.Errorf("P5: Status(%d) = %s, %d, want %s", node, got, e, status)
	}
}

// told is all that a world tells.
func told(w *basket.World) string {
	var all strings.Builder
	for n := range api.MaxNodes {
		items, e := w.Items(n)
		text, f := w.Text(n)
		status, g := w.Status(n)
		fmt.Fprintf(&all, "%d: %q %d %q %d %v %d\n", n, items, e, text, f, status, g)
	}
	fmt.Fprintf(&all, "%v\n", w.Flying())
	return all.String()
}

func TestP1NoCallPanics(t *testing.T) {
	for nodes := range api.MaxNodes {
		w := newWorld(t, nodes+1)
		for _, n := range append(oddNumbers(), 0, 1, 2, 3, 4, 5) {
			for _, name := range append(noNames(), "tea") {
				w.Add(n, name)
				w.Remove(n, name)
				w.Add(n, name)
			}
			w.Clear(n)
			w.Add(n, "tea")
			w.Items(n)
			w.Text(n)
			w.Status(n)
			for range api.MaxFlying / 2 {
				w.Send(n, 0)
				w.Send(0, n)
			}
			w.Flying()
			w.Double(n)
			w.Drop(n)
			w.Deliver(n)
			w.Round()
			w.Collect(n)
			w.Send(n, 0)
			w.Add(n, "tea")
			w.Crash(n)
			w.Send(n, 0)
			w.Round()
		}
	}
}

func TestP1WhatNewRefusedHasNoNode(t *testing.T) {
	w, _ := basket.New(0)
	_, e := w.Items(0)
	_, f := w.Text(0)
	_, g := w.Status(0)
	want(t, "P1: no world", api.ErrArg, w.Add(0, "tea"), w.Remove(0, "tea"), w.Clear(0), w.Send(0, 1), e, f, g,
		w.Collect(0), w.Crash(0))
	want(t, "P1: no world", api.ErrNone, w.Deliver(0), w.Drop(0), w.Double(0))
	if flying := w.Flying(); len(flying) != 0 {
		t.Errorf("P1: no world, and flying %v", flying)
	}
	wantRound(t, w, 0)
}

func TestP1NodeThatIsNoneComesFirst(t *testing.T) {
	for nodes := 1; nodes <= api.MaxNodes; nodes++ {
		w := newWorld(t, nodes)
		for range api.MaxAdds {
			want(t, "P4: Add", api.OK, w.Add(0, "tea"))
		}
		before := told(w)
		for _, n := range append(oddNumbers(), nodes) {
			items, e := w.Items(n)
			text, f := w.Text(n)
			status, g := w.Status(n)
			want(t, fmt.Sprintf("P1: node %d of %d", n, nodes), api.ErrArg,
				w.Add(n, "tea"), w.Add(n, "Tea"), w.Remove(n, "tea"), w.Remove(n, "rum"), w.Remove(n, ""), w.Clear(n), e, f, g,
				w.Send(n, 0), w.Send(0, n), w.Send(n, n), w.Collect(n), w.Crash(n))
			if len(items) != 0 || text != "" || status.Count != 0 || len(status.Kept)+len(status.Acked)+len(status.Tokens) != 0 {
				t.Errorf("P1: beside an error: %q, %q, %v", items, text, status)
			}
		}
		if after := told(w); after != before {
			t.Errorf("P1: refused calls changed\n%sto\n%s", before, after)
		}
	}
}

func TestP1NoNameComesBeforeFullAndNone(t *testing.T) {
	w := newWorld(t, 2)
	for range api.MaxAdds {
		want(t, "P4: Add", api.OK, w.Add(0, "tea"))
	}
	for _, name := range noNames() {
		want(t, fmt.Sprintf("P1: %.20q", name), api.ErrName,
			w.Add(0, name), w.Add(1, name), w.Remove(0, name), w.Remove(1, name))
	}
}

func TestP1RefusedCallsChangeNothing(t *testing.T) {
	w := newWorld(t, 2)
	want(t, "P4: Add", api.OK, w.Add(0, "tea"), w.Add(0, "rum"), w.Remove(0, "rum"))
	before := told(w)
	for _, name := range noNames() {
		w.Add(0, name)
		w.Remove(0, name)
	}
	want(t, "P4: nothing to take out", api.ErrNone, w.Remove(0, "rum"), w.Remove(0, "gin"), w.Remove(1, "tea"), w.Clear(1))
	if after := told(w); after != before {
		t.Errorf("P1: refused calls changed\n%sto\n%s", before, after)
	}
	want(t, "P4: Add", api.OK, w.Add(0, "gin"))
	wantText(t, w, 0, "gin:0.3 tea:0.1 | 0.1 0.2 0.3")
}

// scribble writes over a list and its spare room.
func scribble[T any](list []T, with T) {
	list = list[:cap(list)]
	for i := range list {
		list[i] = with
	}
}

func TestP2AnswersAreNewMemory(t *testing.T) {
	w := newWorld(t, 3)
	want(t, "P4: Add", api.OK, w.Add(1, "tea"), w.Add(1, "rum"), w.Add(1, "gin"), w.Remove(1, "rum"))
	before := told(w)
	items, _ := w.Items(1)
	scribble(items, "mine")
	status, _ := w.Status(1)
	scribble(status.Kept, -1)
	scribble(status.Acked, -1)
	scribble(status.Tokens, -1)
	if after := told(w); after != before {
		t.Errorf("P2: writing over an answer changed\n%sto\n%s", before, after)
	}
	want(t, "P4: Add", api.OK, w.Add(1, "ale"))
	wantStatus(t, w, 1, "5 [0 1 2 3 4] [0 5 0] [0 4 0]")
}

func TestP2ListsOfOneAnswerShareNothing(t *testing.T) {
	for _, scribbled := range []int{0, 1, 2} {
		w := newWorld(t, 2)
		want(t, "P4: Add", api.OK, w.Add(0, "tea"), w.Add(0, "rum"), w.Add(0, "gin"))
		status, _ := w.Status(0)
		lists := [][]int{status.Kept, status.Acked, status.Tokens}
		copies := [][]int{slices.Clone(lists[0]), slices.Clone(lists[1]), slices.Clone(lists[2])}
		scribble(lists[scribbled], -1)
		for i := range lists {
			if i != scribbled && !slices.Equal(lists[i], copies[i]) {
				t.Errorf("P2: list %d shares memory with list %d", i, scribbled)
			}
		}
	}
}

func TestP2AnEarlierAnswerStays(t *testing.T) {
	w := newWorld(t, 1)
	want(t, "P4: Add", api.OK, w.Add(0, "tea"), w.Add(0, "rum"))
	items, _ := w.Items(0)
	status, _ := w.Status(0)
	want(t, "P4: Clear, Add", api.OK, w.Clear(0), w.Add(0, "gin"))
	if got := fmt.Sprint(items, status); got != "[rum tea] {2 [0 1] [2] [2]}" {
		t.Errorf("P2: earlier answers became %s", got)
	}
}

// step is one of many calls, chosen by a number.
func step(w *basket.World, nodes, i int) api.Errno {
	node, name := i/7%nodes, string(rune('a'+i*i%5))
	switch i % 11 {
	case 0, 2, 5:
		return w.Add(node, name)
	case 3, 4, 9:
		return w.Send(node, i/3%nodes)
	case 6:
		if i%5 == 0 {
			return w.Clear(node)
		}
	case 7:
		return w.Double(i % 5)
	case 8:
		return w.Deliver(i % 3)
	case 10:
		switch i % 4 {
		case 0:
			return w.Collect(node)
		case 1:
			return w.Crash(node)
		case 2:
			return api.Errno(w.Round())
		}
		return w.Deliver(i % 2)
	}
	return w.Remove(node, name)
}

func TestP2WorldsAnswerAlikeAndApart(t *testing.T) {
	first, second, other := newWorld(t, 3), newWorld(t, 3), newWorld(t, 5)
	for i := range 200 {
		e := step(first, 3, i)
		step(other, 5, i+3)
		if f := step(second, 3, i); e != f {
			t.Fatalf("P2: step %d answers %d and %d", i, e, f)
		}
		if a, b := told(first), told(second); a != b {
			t.Fatalf("P2: behind step %d\n%sand\n%s", i, a, b)
		}
	}
}

func TestP3New(t *testing.T) {
	for _, nodes := range append(oddNumbers(), 0) {
		w, e := basket.New(nodes)
		if w != nil || e != api.ErrArg {
			t.Errorf("P3: New(%d): %v, %d", nodes, w, e)
		}
	}
	for nodes := 1; nodes <= api.MaxNodes; nodes++ {
		w := newWorld(t, nodes)
		for n := range nodes {
			wantText(t, w, n, "|")
			wantItems(t, w, n)
			zeros := fmt.Sprint(make([]int, nodes))
			wantStatus(t, w, n, "0 [] "+zeros+" "+zeros)
		}
		_, e := w.Text(nodes)
		want(t, "P3: the node behind the last", api.ErrArg, e)
	}
}

func TestP4EachNodeForItself(t *testing.T) {
	w := newWorld(t, 2)
	want(t, "P4: Add", api.OK, w.Add(0, "tea"), w.Add(1, "tea"), w.Add(1, "rum"))
	wantText(t, w, 0, "tea:0.1 | 0.1")
	wantText(t, w, 1, "rum:1.2 tea:1.1 | 1.1 1.2")
	want(t, "P4: Remove", api.OK, w.Remove(0, "tea"))
	wantText(t, w, 0, "| 0.1")
	wantText(t, w, 1, "rum:1.2 tea:1.1 | 1.1 1.2")
}

func TestP4AddOnceMore(t *testing.T) {
	w := newWorld(t, 1)
	want(t, "P4: Add", api.OK, w.Add(0, "tea"), w.Add(0, "te"), w.Add(0, "tea"))
	wantText(t, w, 0, "te:0.2 tea:0.3 | 0.1 0.2 0.3")
	wantStatus(t, w, 0, "3 [0 1 2] [3] [3]")
}

func TestP4TakingOut(t *testing.T) {
	w := newWorld(t, 2)
	want(t, "P4: Add", api.OK, w.Add(1, "a"), w.Add(1, "b"), w.Add(1, "c"))
	want(t, "P4: Remove", api.OK, w.Remove(1, "b"))
	wantText(t, w, 1, "a:1.1 c:1.3 | 1.1 1.2 1.3")
	want(t, "P4: Remove again", api.ErrNone, w.Remove(1, "b"))
	want(t, "P4: Clear", api.OK, w.Clear(1))
	wantText(t, w, 1, "| 1.1 1.2 1.3")
	want(t, "P4: nothing left", api.ErrNone, w.Clear(1), w.Remove(1, "a"))
	want(t, "P4: Add", api.OK, w.Add(1, "b"))
	wantText(t, w, 1, "b:1.4 | 1.1 1.2 1.3 1.4")
	wantStatus(t, w, 1, "6 [0 1 2 3 4 5] [0 6] [0 4]")
	wantStatus(t, w, 0, "0 [] [0 0] [0 0]")
}

func TestP4Names(t *testing.T) {
	w := newWorld(t, 1)
	names := []string{"a", "z", "az", strings.Repeat("a", api.MaxName), strings.Repeat("z", api.MaxName)}
	for _, name := range names {
		want(t, "P4: Add, Remove of "+name, api.OK, w.Add(0, name), w.Remove(0, name))
	}
	for c := range 256 {
		e := api.ErrName
		if c >= 'a' && c <= 'z' {
			e = api.ErrNone
		}
		name := string([]byte{'q', byte(c), 'q'})
		want(t, fmt.Sprintf("P4: Remove of %q", name), e, w.Remove(0, name))
	}
}

func TestP4Full(t *testing.T) {
	w := newWorld(t, api.MaxNodes)
	for i := range api.MaxAdds {
		n := i % api.MaxNodes
		want(t, "P4: Add", api.OK, w.Add(n, "tea"))
		want(t, "P4: refused Adds", api.ErrName, w.Add(n, "Tea"))
		want(t, "P4: refused Adds", api.ErrArg, w.Add(-1, "tea"))
		if i < api.MaxAdds/2 {
			want(t, "P4: Remove", api.OK, w.Remove(n, "tea"))
		}
	}
	before := told(w)
	for n := range api.MaxNodes {
		want(t, "P4: Add behind MaxAdds", api.ErrFull, w.Add(n, "tea"), w.Add(n, "rum"))
	}
	if after := told(w); after != before {
		t.Errorf("P1: refused Adds changed\n%sto\n%s", before, after)
	}
	want(t, "P4: taking out of a full world", api.OK, w.Remove(4, "tea"), w.Clear(3))
	want(t, "P4: a full world stays full", api.ErrFull, w.Add(4, "tea"), w.Add(3, "tea"))
	want(t, "P4: another world", api.OK, newWorld(t, 1).Add(0, "tea"))
}

func TestP5InOrder(t *testing.T) {
	w := newWorld(t, 2)
	for range 9 {
		want(t, "P4: Add", api.OK, w.Add(1, "b"))
	}
	want(t, "P4: Add", api.OK, w.Add(1, "ba"), w.Add(1, "zz"), w.Add(1, "a"), w.Add(1, "az"))
	wantItems(t, w, 1, "a", "az", "b", "ba", "zz")
	wantText(t, w, 1, "a:1.12 az:1.13 b:1.9 ba:1.10 zz:1.11 |"+
		" 1.1 1.2 1.3 1.4 1.5 1.6 1.7 1.8 1.9 1.10 1.11 1.12 1.13")
	wantStatus(t, w, 1, "13 [0 1 2 3 4 5 6 7 8 9 10 11 12] [0 13] [0 13]")
	wantStatus(t, w, 0, "0 [] [0 0] [0 0]")
}
