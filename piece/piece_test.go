package piece

import (
	"slices"
	"testing"
)

func token(node, number int) Token {
	return Token{Node: node, Number: number}
}

func entry(name string, node, number int) Entry {
	return Entry{Name: name, Token: token(node, number)}
}

func put(name string, node, number int) Piece {
	return Putting(entry(name, node, number), nil)
}

// joined joins all pieces, one behind the other.
func joined(pieces ...Piece) Piece {
	var all Piece
	for _, p := range pieces {
		all = Join(all, p)
	}
	return all
}

func wantText(t *testing.T, p Piece, want string) {
	t.Helper()
	if got := p.Text(); got != want {
		t.Errorf("Text() = %q, want %q", got, want)
	}
}

func TestMakingPieces(t *testing.T) {
	wantText(t, Piece{}, "|")
	wantText(t, Taking(nil), "|")
	wantText(t, Taking([]Entry{entry("b", 1, 2), entry("a", 0, 1)}), "| 0.1 1.2")
	wantText(t, put("tea", 0, 1), "tea:0.1 | 0.1")
	wantText(t, Putting(entry("tea", 0, 2), []Entry{entry("tea", 1, 1), entry("tea", 0, 1)}), "tea:0.2 | 0.1 0.2 1.1")
}

func TestTextIsInOrder(t *testing.T) {
	p := joined(put("b", 0, 10), put("b", 0, 9), put("b", 1, 1), put("ab", 4, 1), put("a", 3, 30), put("abc", 2, 1))
	wantText(t, p, "a:3.30 ab:4.1 abc:2.1 b:0.9 b:0.10 b:1.1 | 0.9 0.10 1.1 2.1 3.30 4.1")
}

func TestJoin(t *testing.T) {
	tea, rum := put("tea", 0, 1), put("rum", 1, 1)
	without := Taking([]Entry{entry("tea", 0, 1)})
	again := Putting(entry("tea", 0, 2), []Entry{entry("tea", 0, 1)})
	cases := []struct {
		what string
		a, b Piece
		want string
	}{
		{"nothing with nothing", Piece{}, Piece{}, "|"},
		{"nothing with an entry", Piece{}, tea, "tea:0.1 | 0.1"},
		{"the same entry", tea, tea, "tea:0.1 | 0.1"},
		{"entries that the other does not know", tea, rum, "rum:1.1 tea:0.1 | 0.1 1.1"},
		{"an entry that the other took out", tea, without, "| 0.1"},
		{"an entry that nobody has any more", without, without, "| 0.1"},
		{"an entry that the other put in once more", tea, again, "tea:0.2 | 0.1 0.2"},
		{"one stays, one goes", joined(tea, rum), without, "rum:1.1 | 0.1 1.1"},
		{"the same name at two nodes", tea, put("tea", 1, 1), "tea:0.1 tea:1.1 | 0.1 1.1"},
		{"one of the same name was taken out", joined(tea, put("tea", 1, 1)), without, "tea:1.1 | 0.1 1.1"},
	}
	for _, c := range cases {
		for _, got := range []string{Join(c.a, c.b).Text(), Join(c.b, c.a).Text()} {
			if got != c.want {
				t.Errorf("%s: %q, want %q", c.what, got, c.want)
			}
		}
	}
}

func TestJoinChangesNeitherPiece(t *testing.T) {
	a, b := put("tea", 0, 1), Putting(entry("rum", 1, 1), []Entry{entry("tea", 0, 1)})
	Join(Join(a, b), put("gin", 2, 1))
	wantText(t, a, "tea:0.1 | 0.1")
	wantText(t, b, "rum:1.1 | 0.1 1.1")
}

func TestEqual(t *testing.T) {
	tea, gone := put("tea", 0, 1), Taking([]Entry{entry("tea", 0, 1)})
	pieces := []Piece{{}, tea, gone, put("rum", 0, 1), put("tea", 0, 2), put("tea", 1, 1), joined(tea, put("rum", 1, 1)),
		Putting(entry("tea", 0, 1), []Entry{entry("tea", 0, 2)})}
	for i, a := range pieces {
		for k, b := range pieces {
			if got := Equal(a, b); got != (i == k) {
				t.Errorf("Equal of %q and %q: %v", a.Text(), b.Text(), got)
			}
		}
		if !Equal(a, joined(a, a)) {
			t.Errorf("%q is not equal to itself made anew", a.Text())
		}
	}
	if !Equal(Piece{}, Taking(nil)) {
		t.Error("two empty pieces are not equal")
	}
}

func TestLists(t *testing.T) {
	p := joined(put("tea", 1, 1), put("rum", 0, 2), put("tea", 0, 1), Taking([]Entry{entry("gin", 1, 3)}))
	wantEntries := []Entry{entry("rum", 0, 2), entry("tea", 0, 1), entry("tea", 1, 1)}
	if got := p.Entries(); !slices.Equal(got, wantEntries) {
		t.Errorf("Entries() = %v, want %v", got, wantEntries)
	}
	if got := p.Named("tea"); !slices.Equal(got, wantEntries[1:]) {
		t.Errorf("Named(tea) = %v, want %v", got, wantEntries[1:])
	}
	for _, name := range []string{"gin", "te", "teas", ""} {
		if got := p.Named(name); len(got) != 0 {
			t.Errorf("Named(%q) = %v, want none", name, got)
		}
	}
	if got, want := p.Names(), []string{"rum", "tea"}; !slices.Equal(got, want) {
		t.Errorf("Names() = %v, want %v", got, want)
	}
	wantKnown := []Token{token(0, 1), token(0, 2), token(1, 1), token(1, 3)}
	if got := p.Known(); !slices.Equal(got, wantKnown) {
		t.Errorf("Known() = %v, want %v", got, wantKnown)
	}
	for node, want := range []int{2, 2, 0} {
		if got := p.KnownOf(node); got != want {
			t.Errorf("KnownOf(%d) = %d, want %d", node, got, want)
		}
	}
}

func TestListsOfNothing(t *testing.T) {
	var p Piece
	if len(p.Entries())+len(p.Names())+len(p.Known())+len(p.Named("tea"))+p.KnownOf(0) != 0 {
		t.Errorf("an empty piece has something: %q", p.Text())
	}
}
