import Derived.WalkKit
import Derived.WalkSpells
import Derived.WalkLawsBesides
import Derived.Deep.AppendLies
import Derived.Laws.AppendOwnNone
import Derived.Deep.QuietTactic
import Derived.BigQuiet
import Derived.Deep.RegionHeld3
import Derived.Deep.DrawnRows
import Derived.OrdersHeld
import Derived.Laws.OwnMore
import Derived.Laws.StructEq
import Derived.Test.YtnniimfinakioaaGreatDoorProg
namespace Go.Proofs.YtnniimfinakioaaGreatDoor
open Go.RowKit

theorem hide {p : Prop} (h : p) : Hid p := h

/-- Below block number B, but for the blocks of S, the world w' is as w was. -/
structure Kp (B : Nat) (S : Nat → Prop) (w w' : World) : Prop where
  os : w'.os = w.os
  tape : w'.tape = w.tape
  output : w'.output = w.output
  size : w.heap.size ≤ w'.heap.size
  block : ∀ k, k < B → ¬ S k → w'.heap[k]? = w.heap[k]?

def NoS : Nat → Prop := fun _ => False

theorem Kp.refl (B : Nat) (S : Nat → Prop) (w : World) : Kp B S w w := ⟨rfl, rfl, rfl, Nat.le_refl _, fun _ _ _ => rfl⟩
theorem Kp.trans {B : Nat} {S : Nat → Prop} {a b c : World} (h : Kp B S a b) (k : Kp B S b c) : Kp B S a c :=
  ⟨k.os.trans h.os, k.tape.trans h.tape, k.output.trans h.output, Nat.le_trans h.size k.size, fun i hi hs => (k.block i hi hs).trans (h.block i hi hs)⟩
theorem Kp.mono {B B' : Nat} {S S' : Nat → Prop} {w w' : World} (h : Kp B S w w') (hB : B' ≤ B) (hS : ∀ k, k < B' → S k → S' k) : Kp B' S' w w' :=
  ⟨h.os, h.tape, h.output, h.size, fun k hk hs => h.block k (Nat.lt_of_lt_of_le hk hB) (fun x => hs (hS k hk x))⟩
theorem Kp.ofBelow {B : Nat} {S : Nat → Prop} {w w' : World} (h : Below B w w') : Kp B S w w' := ⟨h.os, h.tape, h.output, h.size, fun k hk _ => h.block k hk⟩
theorem Kp.toBelow {B : Nat} {w w' : World} (h : Kp B NoS w w') : Below B w w' := ⟨h.os, h.tape, h.output, h.size, fun k hk => h.block k hk (fun x => x)⟩
theorem Kp.drew {B : Nat} {S : Nat → Prop} {a w : World} (h : Kp B S a w) : Kp B S a w.drew := ⟨h.os, h.tape, h.output, h.size, h.block⟩
theorem Kp.alloc {B : Nat} {S : Nat → Prop} {a w : World} (h : Kp B S a w) (hB : B ≤ w.heap.size) (o : Obj) : Kp B S a (w.alloc o) :=
  h.trans (Kp.ofBelow ((Below.refl B w).alloc hB o))
theorem Kp.setCell {B : Nat} {S : Nat → Prop} {a w : World} (h : Kp B S a w) {p : Addr} (hp : B ≤ p.block ∨ S p.block) (u : Value) : Kp B S a (w.setCell p u) :=
  h.trans ⟨rfl, rfl, rfl, by simp [World.setCell], fun k hk hs => Below.heap_setCell _ _ _ _ (by
    rintro rfl
    rcases hp with hp | hp
    · omega
    · exact hs hp)⟩
theorem Kp.grown {B : Nat} {S : Nat → Prop} {a w w' : World} {row : Option Nat} (h : Kp B S a w) (hg : w.grownBy w' row) (hB : B ≤ w.heap.size) (hr : ∀ k, row = some k → B ≤ k ∨ S k) : Kp B S a w' :=
  h.trans ⟨hg.os, hg.tape, hg.output, hg.size, fun k hk hs => hg.block k (by omega) (fun e => by
    rcases hr k e.symm with x | x
    · omega
    · exact hs x)⟩
theorem Kp.cell {B : Nat} {S : Nat → Prop} {w w' : World} (h : Kp B S w w') {p : Addr} (hp : p.block < B) (hs : ¬ S p.block) : w'.cell? p = w.cell? p := World.cell?_of_block (w := w) (h.block p.block hp hs)
theorem Kp.frozen {B : Nat} {S : Nat → Prop} {w w' : World} (h : Kp B S w w') {p : Addr} (hp : p.block < B) (hs : ¬ S p.block) : w'.frozen? p = w.frozen? p := World.frozen?_of_block (w := w) (h.block p.block hp hs)

theorem own_kp {w w' : World} {B : Nat} {S : Nat → Prop} {base e size n : Nat} {v : Value} {xs : List Value} (h : w.ownsRow base e size v n xs) (k : Kp B S w w') (hv : ∀ g, v.ownBlock = some g → g < B ∧ ¬ S g) : w'.ownsRow base e size v n xs := by
  refine ⟨h.1, ?_⟩
  rcases h.2 with hn | ⟨g, cap, cur, rfl, hb, hgg, rest⟩
  · exact .inl hn
  · refine .inr ⟨g, cap, cur, rfl, hb, ?_, rest⟩
    obtain ⟨h1, h2⟩ := hv g rfl
    rw [k.block g h1 h2]
    exact hgg
theorem own_below {w w' : World} {base e size n : Nat} {v : Value} {xs : List Value} (h : w.ownsRow base e size v n xs) (k : Below w.heap.size w w') : w'.ownsRow base e size v n xs :=
  own_kp h (Kp.ofBelow (S := NoS) k) (fun g hg => ⟨(h.lt g hg).2, fun x => x⟩)
theorem own_mono {w : World} {base base' e size n : Nat} {v : Value} {xs : List Value} (h : w.ownsRow base e size v n xs) (hb : base' ≤ base) : w.ownsRow base' e size v n xs := by
  refine ⟨h.1, ?_⟩
  rcases h.2 with hn | ⟨g, cap, cur, rfl, hbb, rest⟩
  · exact .inl hn
  · exact .inr ⟨g, cap, cur, rfl, Nat.le_trans hb hbb, rest⟩

theorem own_raise {w : World} {base base' e size n : Nat} {v : Value} {xs : List Value} (h : w.ownsRow base e size v n xs) (hb : ∀ g, v.ownBlock = some g → base' ≤ g) : w.ownsRow base' e size v n xs := by
  refine ⟨h.1, ?_⟩
  rcases h.2 with hn | ⟨g, cap, cur, rfl, hbb, rest⟩
  · exact .inl hn
  · exact .inr ⟨g, cap, cur, rfl, hb g rfl, rest⟩
theorem at_ge {v v' : Value} {H N : Nat} (hat : v'.ownBlock = v.ownBlock ∨ v'.ownBlock = some H) (hv : ∀ g, v.ownBlock = some g → N ≤ g) (hH : N ≤ H) : ∀ g, v'.ownBlock = some g → N ≤ g := by
  intro g hg
  rcases hat with h | h
  · exact hv g (h ▸ hg)
  · rw [h] at hg; simp only [Option.some.injEq] at hg; omega

/-- What the table says of a slice type's element. -/
structure ElemT (P : Program) (t e size bytes : Nat) : Prop where
  und : P.underlying t = some (.slice e)
  info : ∃ i z, P.info? e = some i ∧ i.zero = some z ∧ i.size = size ∧ i.bytes = bytes ∧ z.cells.size = size
  pos : 0 < size

theorem ElemT.mk' {P : Program} {t e size bytes : Nat} {z : Value} (h1 : P.underlying t = some (.slice e)) (h2 : (P.info? e).map (fun i => (i.zero, i.size, i.bytes)) = some (some z, size, bytes)) (h3 : z.cells.size = size) (h4 : 0 < size) : ElemT P t e size bytes := by
  obtain ⟨i, hi, hz0, hz1, hz2⟩ := info_parts h2
  exact ⟨h1, ⟨i, z, hi, hz0, hz1, hz2, h3⟩, h4⟩

/-- A value whose elements can be appended: nil, or a slice whose cells lie there. -/
def Src (w : World) (size : Nat) (v : Value) (m : Nat) (news : List Value) : Prop :=
  news.length = m * size ∧ (∀ u ∈ news, u.oneCell' = true) ∧
  ((v = .slice none 0 0 ∧ m = 0) ∨ ∃ ad c, v = .slice (some ad) m c ∧ ∀ j u, news[j]? = some u → w.cell? (ad.add j) = some u)

section
variable {P : Program} (w : World)
theorem run_app {t e size bytes : Nat} (E : ElemT P t e size bytes) (ty : TypeId) (v : Value) (n : Nat) (xs : List Value) (hown : w.ownsRow 0 e size v n xs)
    (vs : Value) (m : Nat) (news : List Value) (hsrc : Src w size vs m news) (h63 : n + m ≤ maxLen) (hbytes : (n + m) * bytes ≤ 140737488355328) :
    ∃ v' w', (Builtin.append_ #[t, t] ty #[v, vs]).run P w = .ok v' w' ∧ w'.ownsRow 0 e size v' (n + m) (xs ++ news) ∧ w.grownBy w' v.ownBlock ∧
      (v'.ownBlock = v.ownBlock ∨ v'.ownBlock = some w.heap.size) := by
  obtain ⟨hu, ⟨i, z, hi, hz, hsize, hby, hzs⟩, hsz⟩ := E
  obtain ⟨hl, h1, hs⟩ := hsrc
  rcases hs with ⟨rfl, rfl⟩ | ⟨ad, c, rfl, hc⟩
  · have hr := run_append_owned_none (P := P) (w := w) 0 t ty e i size hu hi v n xs hown
    have hn : news = [] := List.eq_nil_of_length_eq_zero (by simpa using hl)
    subst hn
    exact ⟨v, w, hr, by simpa using hown, ⟨rfl, rfl, rfl, Nat.le_refl _, fun _ _ _ => rfl⟩, Or.inl rfl⟩
  · obtain ⟨v', w', hr, h2, h3, _, h5⟩ := run_append_own_at (P := P) w 0 t ty e i z size bytes hu hi hz hsize hby hzs hsz v n xs hown ad m c news hl hc h1 h63 hbytes (Nat.zero_le _)
    exact ⟨v', w', hr, h2, h3, h5⟩

theorem wp_app {t e size bytes : Nat} (E : ElemT P t e size bytes) {o : Oper} {a : Act} {K : Act → World → Prop} {Q : Exit → Act → World → Prop} (s x : Operand)
    (ho : o.op = .call { callee := .builtin .append, args := #[s, x], argTypes := #[t, t] })
    (v : Value) (n : Nat) (xs : List Value) (hs : a.eval s = v) (hown : w.ownsRow 0 e size v n xs)
    (vs : Value) (m : Nat) (news : List Value) (hx : a.eval x = vs) (hsrc : Src w size vs m news) (h63 : n + m ≤ maxLen) (hbytes : (n + m) * bytes ≤ 140737488355328)
    (h : ∀ v' w', w'.ownsRow 0 e size v' (n + m) (xs ++ news) → w.grownBy w' v.ownBlock → (v'.ownBlock = v.ownBlock ∨ v'.ownBlock = some w.heap.size) → K (a.put o.dst v') w') : o.wp P a w K Q := by
  obtain ⟨v', w', hr, h2, h3, h4⟩ := run_app (P := P) w E o.type v n xs hown vs m news hsrc h63 hbytes
  unfold Oper.wp execOp
  simp only [ho, resolve, invoke, builtin, Sem.run_bind, Sem.run_pure, Result.andThen_ok, List.map_toArray, List.map_cons, List.map_nil, hs, hx, hr]
  exact h v' w' h2 h3 h4

theorem wpList_app {t e size bytes : Nat} (E : ElemT P t e size bytes) {ops : Array Oper} {rest : List Oper} {o : Oper} {a : Act} {Q : Exit → Act → World → Prop} (hgd : o.guard = none) (s x : Operand)
    (ho : o.op = .call { callee := .builtin .append, args := #[s, x], argTypes := #[t, t] })
    (v : Value) (n : Nat) (xs : List Value) (hs : a.eval s = v) (hown : w.ownsRow 0 e size v n xs)
    (vs : Value) (m : Nat) (news : List Value) (hx : a.eval x = vs) (hsrc : Src w size vs m news) (h63 : n + m ≤ maxLen) (hbytes : (n + m) * bytes ≤ 140737488355328)
    (h : ∀ v' w', w'.ownsRow 0 e size v' (n + m) (xs ++ news) → w.grownBy w' v.ownBlock → (v'.ownBlock = v.ownBlock ∨ v'.ownBlock = some w.heap.size) → wpList P ops Q rest (a.put o.dst v') w') : wpList P ops Q (o :: rest) a w :=
  wpList_plain hgd fun _ hK => wp_app w E s x ho v n xs hs hown vs m news hx hsrc h63 hbytes fun v' w' h2 h3 h4 => hK _ _ (h v' w' h2 h3 h4)

theorem step_app {t e size bytes : Nat} (E : ElemT P t e size bytes) {ops : Array Oper} {o : Oper} {a : Act} {K : Act → World → Prop} {Q : Exit → Act → World → Prop} {X : Prop} (hgd : o.guard = none) (s x : Operand)
    (ho : o.op = .call { callee := .builtin .append, args := #[s, x], argTypes := #[t, t] })
    (v : Value) (n : Nat) (xs : List Value) (hs : a.eval s = v) (hown : w.ownsRow 0 e size v n xs)
    (vs : Value) (m : Nat) (news : List Value) (hx : a.eval x = vs) (hsrc : Src w size vs m news) (h63 : n + m ≤ maxLen) (hbytes : (n + m) * bytes ≤ 140737488355328)
    (h : ∀ v' w', w'.ownsRow 0 e size v' (n + m) (xs ++ news) → w.grownBy w' v.ownBlock → (v'.ownBlock = v.ownBlock ∨ v'.ownBlock = some w.heap.size) → K (a.put o.dst v') w') :
    if Region.wanted o (yielded ops a.tmps) = true then Oper.wp P o a w K Q else X := by
  have hw : Region.wanted o (yielded ops a.tmps) = true := by simp [Region.wanted, hgd]
  rw [if_pos hw]
  exact wp_app w E s x ho v n xs hs hown vs m news hx hsrc h63 hbytes h
end

/-- A world that has only grown since W. -/
structure Grw (W : World) where
  w : World
  h : Below W.heap.size W w
theorem Grw.cell (W : World) : ∀ (x : Grw W) (b j : Nat), b < W.heap.size → x.w.cell? ⟨b, j, none⟩ = W.cell? ⟨b, j, none⟩ := fun x b j h => x.h.cell (p := ⟨b, j, none⟩) h
theorem Grw.some (W : World) : Nonempty (Grw W) := ⟨⟨W, Below.refl _ _⟩⟩
theorem wp_region_grw {P : Program} {id : Nat} {Q : Exit → Act → World → Prop} {a : Act} {W : World} {l : List Oper} (hm : P.follows .mixedOrders = true) (hB : Region.lexB .any l.toArray = true)
    (h : wpQuiet P l.toArray (fun w' => ∃ x : Grw W, w' = x.w) (fun a' => ∀ w', (∃ x : Grw W, w' = x.w) → Q .normal a' w') l a) : (Code.region id l.toArray true).wp P Q a W :=
  wp_region_quiet (C := fun w' => ∃ x : Grw W, w' = x.w) hm hB ⟨⟨W.drew, (Below.refl _ _).drew⟩, rfl⟩ (by simpa using h)
theorem Calls.grw_of {P : Program} {f : FuncId} {args : Array Value} {W : World} {x : Grw W} {v : Value}
    (h : Calls P f args x.w fun e w' => e = .returned v ∧ Below x.w.heap.size x.w w') : Calls P f args x.w fun e w'' => e = .returned v ∧ ∃ y : Grw W, w'' = y.w :=
  h.mono fun _ w'' ⟨he, hb⟩ => ⟨he, ⟨w'', x.h.trans (hb.mono x.h.size)⟩, rfl⟩

theorem World.addr_add (b o j : Nat) : (⟨b, o, none⟩ : Addr).add j = ⟨b, o + j, none⟩ := by unfold Addr.add; split <;> simp_all

/-- What a value that owns something looks like. -/
theorem own_form {w : World} {e size n : Nat} {v : Value} {xs : List Value} (h : w.ownsRow 0 e size v n xs) : ∃ o c, v = .slice o n c ∧ n ≤ c ∧ c ≤ maxLen := by
  rcases h.2 with ⟨rfl, rfl⟩ | ⟨g, cap, cur, rfl, _, _, h1, h2, _⟩
  · exact ⟨none, 0, rfl, Nat.le_refl _, by simp [maxLen]⟩
  · exact ⟨_, cap, rfl, h1, h2⟩
theorem own_cell {w : World} {e size n g : Nat} {v : Value} {xs : List Value} (h : w.ownsRow 0 e size v n xs) (hg : v.ownBlock = some g) {j : Nat} {u : Value} (hu : xs[j]? = some u) : w.cell? ⟨g, j, none⟩ = some u := by
  have := h.cells hg j u hu
  rw [World.addr_add] at this
  simpa using this

/-- What a block of cells gives, whole. -/
theorem row_facts {w : World} {b : Nat} {c : Array Value} {t : TypeId} (h : w.heap[b]? = some (.cells c t (0, 0))) : (∀ j, w.cell? ⟨b, j, none⟩ = c[j]?) ∧ (∀ j, w.frozen? ⟨b, j, none⟩ = false) :=
  ⟨fun j => cell_of_row w b j c t (0, 0) h, fun j => by simp [World.frozen?, h]⟩
theorem alloc_at {w : World} {b : Nat} {x : Obj} (h : w.heap[b]? = some x) (o : Obj) : (w.alloc o).heap[b]? = some x := by
  have hlt : b < w.heap.size := (Array.getElem?_eq_some_iff.1 h).1
  rw [Below.heap_alloc w o b hlt]; exact h

/-- Boxes, and a world that has only grown since. -/
theorem bx1 {w wr : World} {c1 : Array Value} {t1 : TypeId} (h : Below (w.heap.size + 1) (w.alloc (.cells c1 t1)) wr) :
    (∀ j, wr.cell? ⟨w.heap.size, j, none⟩ = c1[j]?) ∧ (∀ j, wr.frozen? ⟨w.heap.size, j, none⟩ = false) ∧ (∀ b j, b < w.heap.size → wr.cell? ⟨b, j, none⟩ = w.cell? ⟨b, j, none⟩) ∧ Below w.heap.size w wr ∧ w.heap.size + 1 ≤ wr.heap.size := by
  have hA : Below w.heap.size w (w.alloc (.cells c1 t1)) := ((Below.refl _ _).alloc (Nat.le_refl _) _)
  obtain ⟨a1, a2⟩ := row_facts ((h.block w.heap.size (by simp)).trans (heap_alloc_new w _))
  have hB := hA.trans (h.mono (by omega))
  exact ⟨a1, a2, fun b j hb => hB.cell (p := ⟨b, j, none⟩) hb, hB, by have := h.size; simpa using this⟩
theorem bx2 {w wr : World} {c1 c2 : Array Value} {t1 t2 : TypeId} (h : Below (w.heap.size + 1 + 1) ((w.alloc (.cells c1 t1)).alloc (.cells c2 t2)) wr) :
    (∀ j, wr.cell? ⟨w.heap.size, j, none⟩ = c1[j]?) ∧ (∀ j, wr.frozen? ⟨w.heap.size, j, none⟩ = false) ∧ (∀ j, wr.cell? ⟨w.heap.size + 1, j, none⟩ = c2[j]?) ∧ (∀ j, wr.frozen? ⟨w.heap.size + 1, j, none⟩ = false) ∧ (∀ b j, b < w.heap.size → wr.cell? ⟨b, j, none⟩ = w.cell? ⟨b, j, none⟩) ∧ Below w.heap.size w wr ∧ w.heap.size + 1 + 1 ≤ wr.heap.size := by
  have h0 := h.mono (B' := (w.alloc (.cells c1 t1)).heap.size + 1) (by simp)
  obtain ⟨a1, a2, a3, a4, a5⟩ := bx1 h0
  rw [World.size_alloc] at a1 a2 a3 a4 a5
  obtain ⟨b1, b2, b3, b4, b5⟩ := bx1 (wr := wr) a4
  exact ⟨b1, b2, a1, a2, b3, b4, a5⟩
theorem bx3 {w wr : World} {c1 c2 c3 : Array Value} {t1 t2 t3 : TypeId} (h : Below (w.heap.size + 1 + 1 + 1) (((w.alloc (.cells c1 t1)).alloc (.cells c2 t2)).alloc (.cells c3 t3)) wr) :
    (∀ j, wr.cell? ⟨w.heap.size, j, none⟩ = c1[j]?) ∧ (∀ j, wr.frozen? ⟨w.heap.size, j, none⟩ = false) ∧ (∀ j, wr.cell? ⟨w.heap.size + 1, j, none⟩ = c2[j]?) ∧ (∀ j, wr.frozen? ⟨w.heap.size + 1, j, none⟩ = false) ∧ (∀ j, wr.cell? ⟨w.heap.size + 1 + 1, j, none⟩ = c3[j]?) ∧ (∀ j, wr.frozen? ⟨w.heap.size + 1 + 1, j, none⟩ = false) ∧ (∀ b j, b < w.heap.size → wr.cell? ⟨b, j, none⟩ = w.cell? ⟨b, j, none⟩) ∧ Below w.heap.size w wr ∧ w.heap.size + 1 + 1 + 1 ≤ wr.heap.size := by
  have h0 := h.mono (B' := ((w.alloc (.cells c1 t1)).alloc (.cells c2 t2)).heap.size + 1) (by simp)
  obtain ⟨a1, a2, a3, a4, a5⟩ := bx1 h0
  rw [World.size_alloc, World.size_alloc] at a1 a2 a3 a4 a5
  obtain ⟨b1, b2, b3, b4, b5, b6, b7⟩ := bx2 (wr := wr) a4
  exact ⟨b1, b2, b3, b4, a1, a2, b5, b6, a5⟩
theorem bx4 {w wr : World} {c1 c2 c3 c4 : Array Value} {t1 t2 t3 t4 : TypeId} (h : Below (w.heap.size + 1 + 1 + 1 + 1) ((((w.alloc (.cells c1 t1)).alloc (.cells c2 t2)).alloc (.cells c3 t3)).alloc (.cells c4 t4)) wr) :
    (∀ j, wr.cell? ⟨w.heap.size, j, none⟩ = c1[j]?) ∧ (∀ j, wr.frozen? ⟨w.heap.size, j, none⟩ = false) ∧ (∀ j, wr.cell? ⟨w.heap.size + 1, j, none⟩ = c2[j]?) ∧ (∀ j, wr.frozen? ⟨w.heap.size + 1, j, none⟩ = false) ∧ (∀ j, wr.cell? ⟨w.heap.size + 1 + 1, j, none⟩ = c3[j]?) ∧ (∀ j, wr.frozen? ⟨w.heap.size + 1 + 1, j, none⟩ = false) ∧ (∀ j, wr.cell? ⟨w.heap.size + 1 + 1 + 1, j, none⟩ = c4[j]?) ∧ (∀ j, wr.frozen? ⟨w.heap.size + 1 + 1 + 1, j, none⟩ = false) ∧ (∀ b j, b < w.heap.size → wr.cell? ⟨b, j, none⟩ = w.cell? ⟨b, j, none⟩) ∧ Below w.heap.size w wr ∧ w.heap.size + 1 + 1 + 1 + 1 ≤ wr.heap.size := by
  have h0 := h.mono (B' := (((w.alloc (.cells c1 t1)).alloc (.cells c2 t2)).alloc (.cells c3 t3)).heap.size + 1) (by simp)
  obtain ⟨a1, a2, a3, a4, a5⟩ := bx1 h0
  rw [World.size_alloc, World.size_alloc, World.size_alloc] at a1 a2 a3 a4 a5
  obtain ⟨b1, b2, b3, b4, b5, b6, b7, b8, b9⟩ := bx3 (wr := wr) a4
  exact ⟨b1, b2, b3, b4, b5, b6, a1, a2, b7, b8, a5⟩
end Go.Proofs.YtnniimfinakioaaGreatDoor
namespace Go.Proofs.YtnniimfinakioaaGreatDoor
open Go.RowKit

/-! A region that draws its order: what only reads is taken first, in every world of a class; what is left comes up in one order. The class must hold till the last operation comes up. -/
section
variable {P : Program} {ops : Array Oper} {Q : Exit → Act → World → Prop} {C : World → Prop} {L : Nat}

/-- Operations that yield a value and nothing else. -/
def lightOp : Op → Bool
  | .move _ | .assign _ | .load .. | .binOp .. | .unOp .. | .fieldAddr .. | .field .. | .indexAddr .. | .index .. | .build .. | .slice .. | .extract .. | .pick .. | .nilCheck .. => true
  | .call { callee := .builtin .len, .. } => true
  | .call { callee := .builtin .cap, .. } => true
  | _ => false

theorem val_run {α : Type} (f : α → Value) (s : Sem α) (w w' : World) (n : Next) (hr : (s >>= fun v => pure (Next.value (f v))).run P w = .ok n w') : ∃ v, n = .value v := by
  rw [Sem.run_bind] at hr
  generalize s.run P w = r at hr
  cases r with
  | ok v w2 =>
    simp only [Result.andThen_ok, Sem.run_pure, Result.ok.injEq] at hr
    exact ⟨_, hr.1.symm⟩
  | halt h w2 => simp [Result.andThen] at hr

theorem nilcheck_run (x : Value) (w w' : World) (n : Next) (o : Oper) (y : Operand) (ρ : Operand → Value) (ho : o.op = .nilCheck y) (hx : ρ y = x) (hr : (execOp ρ o).run P w = .ok n w') : ∃ v, n = .value v := by
  unfold execOp at hr
  simp only [ho, hx] at hr
  split at hr
  · simp [runtimePanic] at hr
  · simp [runtimePanic] at hr
  · simp [runtimePanic] at hr
  · split at hr
    · simp [runtimePanic] at hr
    · simp only [Sem.run_bind, run_program, Result.andThen_ok] at hr
      generalize (nilAhead (P.types.size + Made.depth) _ _ _).run P w = r at hr
      cases r with
      | ok v w2 =>
        simp only [Result.andThen_ok] at hr
        split at hr
        · simp [unsupported] at hr
        · simp only [Sem.run_pure, Result.ok.injEq] at hr
          exact ⟨_, hr.1.symm⟩
      | halt h w2 => simp [Result.andThen] at hr
    · simp only [Sem.run_pure, Result.ok.injEq] at hr
      exact ⟨_, hr.1.symm⟩
  · simp only [Sem.run_pure, Result.ok.injEq] at hr
    exact ⟨_, hr.1.symm⟩

theorem light_value {o : Oper} (h : lightOp o.op = true) (ρ : Operand → Value) (w w' : World) (n : Next) (hr : (execOp ρ o).run P w = .ok n w') : ∃ v, n = .value v := by
  cases ho : o.op with
  | pick c a b =>
    unfold execOp at hr
    simp only [ho] at hr
    exact val_run (P := P) (fun x : Bool => if x then ρ a else ρ b) _ w w' n hr
  | nilCheck y => exact nilcheck_run _ w w' n o y ρ ho rfl hr
  | call c =>
    rw [ho] at h
    obtain ⟨callee, args, tys⟩ := c
    cases callee with
    | builtin b =>
      cases b <;> first | (simp [lightOp] at h; done) | skip
      all_goals
        unfold execOp at hr
        simp only [ho, resolve, invoke, builtin, Sem.run_bind, Sem.run_pure, Result.andThen_ok] at hr
        exact val_run (P := P) id _ w w' n (by rw [Sem.run_bind]; exact hr)
    | _ => simp [lightOp] at h
  | _ =>
    first
      | (rw [ho] at h; simp [lightOp] at h; done)
      | (unfold execOp at hr; simp only [ho] at hr; exact val_run (P := P) id _ w w' n hr)
      | (unfold execOp at hr; simp only [ho, Sem.run_pure, Result.ok.injEq] at hr; exact ⟨_, hr.1.symm⟩)

/-- As 'wpAny', and the class holds as long as operation number L is to come. -/
def wpC (P : Program) (ops : Array Oper) (Q : Exit → Act → World → Prop) (C : World → Prop) (L : Nat) : Nat → Array Bool → Act → World → Prop
  | 0, listed, a, w => Region.ready .any ops listed = [] ∧ (listed.getD L true = false → C w) ∧ Q .normal a w
  | f + 1, listed, a, w => (Region.ready .any ops listed = [] → Q .normal a w) ∧ (listed.getD L true = false → C w) ∧
      ∀ i ∈ Region.ready .any ops listed, wpOp P ops Q i (wpC P ops Q C L f (listed.setIfInBounds i true)) a w

theorem wpAny_of_wpC : ∀ (f : Nat) (listed : Array Bool) (a : Act) (w : World), wpC P ops Q C L f listed a w → wpAny P .any ops Q f listed a w
  | 0, _, _, _, h => ⟨h.1, h.2.2⟩
  | f + 1, _, _, _, h => ⟨h.1, fun i hi => wpOp_mono (fun a' w' h' => wpAny_of_wpC f _ a' w' h') (h.2.2 i hi)⟩

def waitsB (ops : Array Oper) (j i : Nat) : Bool := match ops[j]? with
  | some o => o.after.any fun e => Region.binds .any e && e.on == i
  | none => false

theorem unlisted_both {listed : Array Bool} {i : Nat} (h : listed.getD i true = false) : listed.getD i false = false := by
  rcases Nat.lt_or_ge i listed.size with h' | h'
  · simp [h'] at h ⊢; exact h
  · simp [Array.getElem?_eq_none h'] at h

theorem not_ready_of_waits {listed : Array Bool} {j i : Nat} (h : waitsB ops j i = true) (hi : listed.getD i true = false) : ¬ j ∈ Region.ready .any ops listed := by
  intro hj
  obtain ⟨_, oj, hoj, hall⟩ := mem_ready.1 hj
  unfold waitsB at h
  rw [hoj] at h
  obtain ⟨e, he, hb⟩ := Array.any_eq_true'.1 h
  simp only [Bool.and_eq_true, beq_iff_eq] at hb
  have := hall e he hb.1
  rw [hb.2, unlisted_both hi] at this
  cases this

/-- L comes behind i, through others that have not come yet. -/
def Held (ops : Array Oper) (listed : Array Bool) (i k : Nat) : Prop :=
  ∀ Q : Nat → Prop, (∀ k, waitsB ops k i = true → Q k) → (∀ m k, Q m → listed.getD m true = false → waitsB ops k m = true → Q k) → Q k
theorem Held.one {listed : Array Bool} {i k : Nat} (h : waitsB ops k i = true) : Held ops listed i k := fun _ h1 _ => h1 k h
theorem Held.more {listed : Array Bool} {i m k : Nat} (hm : Held ops listed i m) (hu : listed.getD m true = false) (hw : waitsB ops k m = true) : Held ops listed i k := fun Q h1 h2 => h2 m k (hm Q h1 h2) hu hw
theorem Held.not_ready {listed : Array Bool} {i k : Nat} (h : Held ops listed i k) (hi : listed.getD i true = false) : ¬ k ∈ Region.ready .any ops listed :=
  h (fun k => ¬ k ∈ Region.ready .any ops listed) (fun _ hk => not_ready_of_waits hk hi) (fun _ _ _ hm hw => not_ready_of_waits hw hm)
theorem Held.step {listed : Array Bool} {i j k : Nat} (h : Held ops listed i k) (hi : listed.getD i true = false) (hj : j ∈ Region.ready .any ops listed) : Held ops (listed.setIfInBounds j true) i k := by
  refine (h (fun k => Held ops listed i k ∧ Held ops (listed.setIfInBounds j true) i k) (fun k hk => ⟨.one hk, .one hk⟩) (fun m k hm hu hw => ⟨hm.1.more hu hw, hm.2.more ?_ hw⟩)).2
  rw [getD_set_ne true]
  · exact hu
  · rintro rfl
    exact hm.1.not_ready hi hj
def heldB (ops : Array Oper) (listed : Array Bool) (i : Nat) : Nat → Nat → Bool
  | 0, k => waitsB ops k i
  | f + 1, k => waitsB ops k i || (List.range ops.size).any fun m => waitsB ops k m && !(listed.getD m true) && heldB ops listed i f m
theorem heldB_spec {listed : Array Bool} {i : Nat} : ∀ (f k : Nat), heldB ops listed i f k = true → Held ops listed i k
  | 0, _, h => .one h
  | f + 1, k, h => by
    simp only [heldB, Bool.or_eq_true, List.any_eq_true, Bool.and_eq_true, Bool.not_eq_true'] at h
    rcases h with h | ⟨m, _, ⟨h1, h2⟩, h3⟩
    · exact .one h
    · exact .more (heldB_spec f m h3) h2 h1

theorem wpC_first {i : Nat} {oi : Oper} {v : Value} (hi : ops[i]? = some oi) (hsel : ∀ (j : Nat) (o : Oper) cs b, ops[j]? = some o → o.op ≠ .select cs b)
    (hQ : ∀ c a w, Q (.panic c) (a.put oi.dst v) w → Q (.panic c) a w) (hLi : L ≠ i) :
    ∀ (f : Nat) (listed : Array Bool) (a : Act) (w : World),
      (∀ j oj, ops[j]? = some oj → j ≠ i → listed.getD j true = false → (∀ e ∈ oj.after, Region.binds .any e = true → e.on ≠ i) → oi.apart ops oj = true) →
      i ∈ Region.ready .any ops listed → Held ops listed i L → listed.getD L true = false → YieldsIf P ops C oi v a → C w →
      wpC P ops Q C L f (listed.setIfInBounds i true) (a.put oi.dst v) w → wpC P ops Q C L (f + 1) listed a w := by
  intro f
  induction f with
  | zero =>
    intro listed a w _ hr _ _ hy hC H
    refine ⟨fun h => (by rw [h] at hr; cases hr), fun _ => hC, fun j hj => ?_⟩
    by_cases hji : j = i
    · subst hji; exact hy.wpOp hi hC H
    · have := ready_mono hj hji
      rw [H.1] at this
      cases this
  | succ f ih =>
    intro listed a w hfree hr hL hun hy hC H
    have hiun := (mem_ready.1 hr).1
    refine ⟨fun h => (by rw [h] at hr; cases hr), fun _ => hC, fun j hj => ?_⟩
    by_cases hji : j = i
    · subst hji; exact hy.wpOp hi hC H
    · have hjL : j ≠ L := by
        rintro rfl
        exact hL.not_ready hiun hj
      obtain ⟨hjun, oj, hoj, hall⟩ := mem_ready.1 hj
      have hap := hfree j oj hoj hji hjun (fun e he hb heq => by
        have h1 := hall e he hb
        rw [heq, unlisted_both hiun] at h1
        cases h1)
      have h2 := wpOp_putIf hoj hap (fun cs b => hsel i oi cs b hi) (fun cs b => hsel j oj cs b hoj) hQ hy (H.2.2 j (ready_mono hj hji))
      refine wpOp_mono (fun a' w' ⟨hy', h3⟩ => ?_) h2
      have hLun : (listed.setIfInBounds j true).getD L true = false := by rw [getD_set_ne true hjL]; exact hun
      have hLun' : ((listed.setIfInBounds i true).setIfInBounds j true).getD L true = false := by rw [getD_set_ne true hjL, getD_set_ne true (Ne.symm hLi)]; exact hun
      have hC' : C w' := by
        cases f with
        | zero => exact h3.2.1 hLun'
        | succ f => exact h3.2.1 hLun'
      refine ih (listed.setIfInBounds j true) a' w' (fun k ok hk hki hkun hno => ?_) (ready_mono hr (Ne.symm hji)) (hL.step hiun hj) hLun hy' hC' ?_
      · refine hfree k ok hk hki ?_ hno
        by_cases hjk : j = k
        · subst hjk; exact hjun
        · rw [getD_set_ne true hjk] at hkun; exact hkun
      · rw [Array.setIfInBounds_comm _ _ hji]
        exact h3

theorem upon_monoQ {o : Oper} {a : Act} {K K' : Act → World → Prop} {Q Q' : Exit → Act → World → Prop} (hK : ∀ a w, K a w → K' a w) (hp : ∀ c a w, Q (.panic c) a w → Q' (.panic c) a w) (ho : LetsOut Q → LetsOut Q') (r : Result Next)
    (h : o.upon P a K Q r) : o.upon P a K' Q' r := by
  cases r with
  | ok n w' =>
    cases n <;> simp only [Oper.upon] at h ⊢ <;>
      first
        | exact hK _ _ h
        | exact Calls.mono h (fun e w'' he => by cases e <;> first | exact hK _ _ he | exact hp _ _ _ he | exact ho he)
        | exact Rows.mono h (fun _ _ he => hK _ _ he)
  | halt x w' => cases x <;> simp only [Oper.upon] at h ⊢ <;> exact hp _ _ _ h

/-- One operation, as the walk has it: what follows is K. -/
theorem wpOp_of_list {i : Nat} {o : Oper} {a : Act} {w : World} {K K' : Act → World → Prop} (hi : ops[i]? = some o) (hK : ∀ a w, K a w → K' a w)
    (h : wpList P ops (Exit.then K Q) [o] a w) : wpOp P ops Q i K' a w := by
  unfold wpOp
  simp only [hi]
  unfold wpList at h
  split
  · rename_i hw
    rw [if_pos hw] at h
    rcases h with h | ⟨h1, h2⟩
    · exact .inl (upon_monoQ (fun a w h => hK a w h) (fun _ _ _ h => h) (fun h => h) _ h)
    · exact .inr ⟨h1, h2⟩
  · rename_i hw
    rw [if_neg hw] at h
    exact hK _ _ h

def wpFin (P : Program) (ops : Array Oper) (Q : Exit → Act → World → Prop) (C : World → Prop) : List Nat → Act → World → Prop
  | [], a, w => Q .normal a w
  | i :: r, a, w => ∃ o, ops[i]? = some o ∧ wpList P ops (Exit.then (fun a' w' => (r ≠ [] → C w') ∧ wpFin P ops Q C r a' w') Q) [o] a w

def chainB (ops : Array Oper) (L : Nat) : Array Bool → List Nat → Bool
  | listed, [] => (Region.ready .any ops listed).isEmpty && listed.getD L true
  | listed, i :: r => (Region.ready .any ops listed == [i]) && chainB ops L (listed.setIfInBounds i true) r

theorem wpC_of_fin : ∀ (rs : List Nat) (listed : Array Bool) (a : Act) (w : World), chainB ops L listed rs = true → (rs ≠ [] → C w) → wpFin P ops Q C rs a w → wpC P ops Q C L rs.length listed a w := by
  intro rs
  induction rs with
  | nil =>
    intro listed a w hB _ h
    simp only [chainB, Bool.and_eq_true, List.isEmpty_iff] at hB
    exact ⟨hB.1, fun hx => absurd (hx.symm.trans hB.2) (by decide), h⟩
  | cons i r ih =>
    intro listed a w hB hC h
    simp only [chainB, Bool.and_eq_true, beq_iff_eq] at hB
    obtain ⟨o, ho, hl⟩ := h
    refine ⟨fun hx => absurd (hB.1.symm.trans hx) (by simp), fun _ => hC (by simp), fun j hj => ?_⟩
    rw [hB.1] at hj
    simp only [List.mem_singleton] at hj
    subst hj
    exact wpOp_of_list ho (fun a' w' ⟨h1, h2⟩ => ih _ a' w' hB.2 h1 h2) hl

def pickOps (l : List Oper) : List Nat → List Oper
  | [] => []
  | i :: r => match l[i]? with | some o => o :: pickOps l r | none => []

def lightsB (ops : Array Oper) (L : Nat) : Array Bool → List Nat → List Nat → Bool
  | listed, [], rs => chainB ops L listed rs
  | listed, i :: r, rs => (match ops[i]? with | some o => lightOp o.op | none => false) && Region.free .any ops listed i && (Region.ready .any ops listed).contains i && heldB ops listed i 3 L && (L != i) && !(listed.getD L true) && lightsB ops L (listed.setIfInBounds i true) r rs

theorem yields_of_quiet {o : Oper} {a : Act} {v : Value} (hl : lightOp o.op = true) (hw : Region.wanted o (yielded ops a.tmps) = true) (h : ∀ w, C w → o.quietAt P a C w v) : YieldsIf P ops C o v a := by
  refine .inl ⟨hw, fun w hC => ?_⟩
  have h1 := h w hC
  unfold Oper.quietAt at h1
  cases hr : (execOp a.eval o).run P w with
  | ok n w' =>
    obtain ⟨u, rfl⟩ := light_value hl a.eval w w' n hr
    rw [hr] at h1
    simp only [Oper.quietUpon] at h1
    rw [h1.1, h1.2]
  | halt x w' =>
    rw [hr] at h1
    simp only [Oper.quietUpon] at h1

theorem wpC_of_quiet {l : List Oper} (hs : Region.noSelect l.toArray = true) (hQ : ∀ (c : List PanicEntry) (a : Act) (d : Option Tmp) (v : Value) (w : World), Q (.panic c) (a.put d v) w → Q (.panic c) a w) (w : World) (hC : C w) (rs : List Nat) :
    ∀ (ls : List Nat) (listed : Array Bool) (a : Act), lightsB l.toArray L listed ls rs = true →
      wpQuiet P l.toArray C (fun a' => wpFin P l.toArray Q C rs a' w) (pickOps l ls) a → wpC P l.toArray Q C L (ls.length + rs.length) listed a w := by
  intro ls
  induction ls with
  | nil =>
    intro listed a hB h
    simp only [List.length_nil, Nat.zero_add]
    exact wpC_of_fin rs listed a w hB (fun _ => hC) h
  | cons i r ih =>
    intro listed a hB h
    simp only [lightsB, Bool.and_eq_true, Bool.not_eq_true', bne_iff_ne, ne_eq] at hB
    obtain ⟨⟨⟨⟨⟨⟨h1, h2⟩, h3⟩, h4⟩, h5⟩, h6⟩, h7⟩ := hB
    cases ho : l.toArray[i]? with
    | none => rw [ho] at h1; cases h1
    | some o =>
      rw [ho] at h1
      have ho' : l[i]? = some o := by simpa using ho
      simp only [pickOps, ho'] at h
      rw [show (i :: r).length + rs.length = (r.length + rs.length) + 1 by simp; omega]
      unfold wpQuiet at h
      by_cases hw : Region.wanted o (yielded l.toArray a.tmps) = true
      · rw [if_pos hw] at h
        obtain ⟨v, hv, hn⟩ := h
        exact wpC_first ho (Region.noSelect_spec hs) (fun c a w => hQ c a o.dst v w) h5 _ listed a w (Region.free_spec ho h2) (by simpa using h3) (heldB_spec 3 L h4) h6 (yields_of_quiet h1 hw hv) hC (ih _ _ h7 hn)
      · rw [if_neg hw] at h
        exact wpC_first ho (Region.noSelect_spec hs) (fun c a w => hQ c a o.dst undef w) h5 _ listed a w (Region.free_spec ho h2) (by simpa using h3) (heldB_spec 3 L h4) h6 (.inr ⟨by simpa using hw, rfl⟩) hC (ih _ _ h7 h)

def fltB (ops : Array Oper) (ls rs : List Nat) : Bool := Region.noSelect ops && lightsB ops (rs.getLastD 0) (Array.replicate ops.size false) ls rs && (ls.length + rs.length == ops.size)

theorem wp_region_flt {id : Nat} {l : List Oper} {a : Act} {w : World} (ls rs : List Nat) (C : World → Prop) (hm : P.follows .mixedOrders = true) (hB : fltB l.toArray ls rs = true)
    (hQ : ∀ (c : List PanicEntry) (a : Act) (d : Option Tmp) (v : Value) (w : World), Q (.panic c) (a.put d v) w → Q (.panic c) a w) (hC : C w.drew)
    (h : wpQuiet P l.toArray C (fun a' => wpFin P l.toArray Q C rs a' w.drew) (pickOps l ls) a) : (Code.region id l.toArray true).wp P Q a w := by
  simp only [fltB, Bool.and_eq_true, beq_iff_eq] at hB
  obtain ⟨⟨h1, h2⟩, h3⟩ := hB
  refine wp_region_any hm (wpAny_of_wpC (C := C) (L := rs.getLastD 0) _ _ _ _ ?_)
  have := wpC_of_quiet h1 hQ w.drew hC rs ls _ a h2 h
  rw [h3] at this
  exact this
end
end Go.Proofs.YtnniimfinakioaaGreatDoor
namespace Go.Proofs.YtnniimfinakioaaGreatDoor
open Go.RowKit

/-- Behind an append of 'news': each cell holds what it held, or one of the news. -/
def Over (w w' : World) (news : List Value) : Prop := ∀ (b j : Nat) (x : Value), w.cell? ⟨b, j, none⟩ = some x → w'.cell? ⟨b, j, none⟩ = some x ∨ ∃ u ∈ news, w'.cell? ⟨b, j, none⟩ = some u

theorem Over.below {w w' : World} {news : List Value} (h : Below w.heap.size w w') : Over w w' news := fun b j x hx => Or.inl (by
  rw [h.cell (p := ⟨b, j, none⟩) (World.block_lt_of_cell? w ⟨b, j, none⟩ hx)]; exact hx)

section
variable {P : Program} (w : World)
theorem run_app3 {t e size bytes : Nat} (E : ElemT P t e size bytes) (ty : TypeId) (v : Value) (n : Nat) (xs : List Value) (hown : w.ownsRow 0 e size v n xs)
    (vs : Value) (m : Nat) (news : List Value) (hsrc : Src w size vs m news) (h63 : n + m ≤ maxLen) (hbytes : (n + m) * bytes ≤ 140737488355328) :
    ∃ v' w', (Builtin.append_ #[t, t] ty #[v, vs]).run P w = .ok v' w' ∧ w'.ownsRow 0 e size v' (n + m) (xs ++ news) ∧ w.grownBy w' v.ownBlock ∧
      (v'.ownBlock = v.ownBlock ∨ v'.ownBlock = some w.heap.size) ∧ w'.ownsRow 0 e size v n xs ∧ Over w w' news := by
  obtain ⟨v', w', hr, h1, h2, h3⟩ := run_app (P := P) w E ty v n xs hown vs m news hsrc h63 hbytes
  refine ⟨v', w', hr, h1, h2, h3, ?_⟩
  obtain ⟨hu, ⟨i, z, hi, hz, hsize, hby, hzs⟩, hsz⟩ := E
  obtain ⟨hl, ho, hs⟩ := hsrc
  subst hsize
  subst hby
  rcases hs with ⟨rfl, rfl⟩ | ⟨ad, c, rfl, hc⟩
  · have hr2 := run_append_owned_none (P := P) (w := w) 0 t ty e i i.size hu hi v n xs hown
    rw [hr2] at hr
    simp only [Result.ok.injEq] at hr
    obtain ⟨rfl, rfl⟩ := hr
    exact ⟨hown, fun b j x hx => Or.inl hx⟩
  · rcases hown.2 with ⟨rfl, rfl⟩ | ⟨g, cap, cur, rfl, hbg, hg, hnc, hcm, hcs, htake⟩
    · have hx : xs = [] := List.eq_nil_of_length_eq_zero (by simpa using hown.1)
      subst hx
      refine ⟨World.ownsRow_nil _ _ _ _, fun b j x hx => Or.inl ?_⟩
      rw [World.cell?_of_block (w := w) (h2.block b (World.block_lt_of_cell? w ⟨b, j, none⟩ hx) (by simp [Value.ownBlock]))]
      exact hx
    · have hsmall : n + m ≤ 9223372036854775807 := by simp only [maxLen] at h63; omega
      by_cases hroom : n + m ≤ cap
      · have hfit : n * i.size + news.length ≤ cur.size := by rw [hl, hcs, ← Nat.add_mul]; exact Nat.mul_le_mul_right _ hroom
        have hr2 := run_append_room (P := P) w t ty e i hu hi g n cap cur hg ad m c news hl hc ho hroom hfit
        rw [hr2] at hr
        simp only [Result.ok.injEq] at hr
        obtain ⟨_, rfl⟩ := hr
        have hset := setRow_heap w g cur (cur.toList.take (n * i.size) ++ news ++ cur.toList.drop (n * i.size + news.length)).toArray e (0, 0) hg
        refine ⟨⟨hown.1, .inr ⟨g, cap, _, rfl, hbg, hset, hnc, hcm, ?_, ?_⟩⟩, fun b j x hx => ?_⟩
        · simp only [List.size_toArray, List.length_append, List.length_take, List.length_drop, Array.length_toList]
          omega
        · have hlx := hown.1
          have : (cur.toList.take (n * i.size)).length = n * i.size := by rw [htake, hlx]
          simp only [List.append_assoc]
          rw [List.take_append_of_le_length (by omega), List.take_of_length_le (by omega), htake]
        · by_cases hb : b = g
          · subst hb
            rw [cell_of_row _ _ _ _ e (0, 0) hset]
            rw [cell_of_row _ _ _ _ e (0, 0) hg] at hx
            have hj : j < cur.size := (Array.getElem?_eq_some_iff.1 hx).1
            have hx' : cur.toList[j]? = some x := by simpa using hx
            have hlt : (cur.toList.take (n * i.size)).length = n * i.size := by rw [htake, hown.1]
            simp only [List.getElem?_toArray, List.append_assoc]
            rcases Nat.lt_or_ge j (n * i.size) with h | h
            · left
              rw [List.getElem?_append_left (by omega), List.getElem?_take_of_lt h]
              exact hx'
            · rw [List.getElem?_append_right (by omega), hlt]
              rcases Nat.lt_or_ge (j - n * i.size) news.length with h' | h'
              · right
                rw [List.getElem?_append_left h', List.getElem?_eq_getElem h']
                exact ⟨_, List.getElem_mem h', rfl⟩
              · left
                rw [List.getElem?_append_right h', List.getElem?_drop]
                rw [show n * i.size + news.length + (j - n * i.size - news.length) = j by omega]
                exact hx'
          · left
            rw [World.cell?_of_block (w := w) (setRow_other w g b _ hb)]
            exact hx
      · have holds : ∀ j u, xs[j]? = some u → w.cell? ((⟨g, 0, none⟩ : Addr).add j) = some u := hown.cells (g := g) rfl
        have hr2 := run_append_grow (P := P) w t ty e i z hu hi hz ⟨g, 0, none⟩ n cap xs hown.1 holds ad m c news hl hc (by omega) (by omega) (growslice_fits (by omega) hbytes)
        rw [hr2] at hr
        simp only [Result.ok.injEq] at hr
        obtain ⟨_, rfl⟩ := hr
        have hbel : Below w.heap.size w (w.drew.alloc (.cells (xs.toArray ++ news.toArray ++ Builtin.zeroCells z.cells (grownCap w (n + m) cap e - (n + m))) e)) := ((Below.refl w.heap.size w).drew).alloc (Nat.le_refl _) _
        exact ⟨own_below hown hbel, Over.below hbel⟩

theorem wp_app3 {t e size bytes : Nat} (E : ElemT P t e size bytes) {o : Oper} {a : Act} {K : Act → World → Prop} {Q : Exit → Act → World → Prop} (s x : Operand)
    (ho : o.op = .call { callee := .builtin .append, args := #[s, x], argTypes := #[t, t] })
    (v : Value) (n : Nat) (xs : List Value) (hs : a.eval s = v) (hown : w.ownsRow 0 e size v n xs)
    (vs : Value) (m : Nat) (news : List Value) (hx : a.eval x = vs) (hsrc : Src w size vs m news) (h63 : n + m ≤ maxLen) (hbytes : (n + m) * bytes ≤ 140737488355328)
    (h : ∀ v' w', w'.ownsRow 0 e size v' (n + m) (xs ++ news) → w.grownBy w' v.ownBlock → (v'.ownBlock = v.ownBlock ∨ v'.ownBlock = some w.heap.size) → w'.ownsRow 0 e size v n xs → Over w w' news → K (a.put o.dst v') w') : o.wp P a w K Q := by
  obtain ⟨v', w', hr, h2, h3, h4, h5, h6⟩ := run_app3 (P := P) w E o.type v n xs hown vs m news hsrc h63 hbytes
  unfold Oper.wp execOp
  simp only [ho, resolve, invoke, builtin, Sem.run_bind, Sem.run_pure, Result.andThen_ok, List.map_toArray, List.map_cons, List.map_nil, hs, hx, hr]
  exact h v' w' h2 h3 h4 h5 h6
theorem wpList_app3 {t e size bytes : Nat} (E : ElemT P t e size bytes) {ops : Array Oper} {rest : List Oper} {o : Oper} {a : Act} {Q : Exit → Act → World → Prop} (hgd : o.guard = none) (s x : Operand)
    (ho : o.op = .call { callee := .builtin .append, args := #[s, x], argTypes := #[t, t] })
    (v : Value) (n : Nat) (xs : List Value) (hs : a.eval s = v) (hown : w.ownsRow 0 e size v n xs)
    (vs : Value) (m : Nat) (news : List Value) (hx : a.eval x = vs) (hsrc : Src w size vs m news) (h63 : n + m ≤ maxLen) (hbytes : (n + m) * bytes ≤ 140737488355328)
    (h : ∀ v' w', w'.ownsRow 0 e size v' (n + m) (xs ++ news) → w.grownBy w' v.ownBlock → (v'.ownBlock = v.ownBlock ∨ v'.ownBlock = some w.heap.size) → w'.ownsRow 0 e size v n xs → Over w w' news → wpList P ops Q rest (a.put o.dst v') w') : wpList P ops Q (o :: rest) a w :=
  wpList_plain hgd fun _ hK => wp_app3 w E s x ho v n xs hs hown vs m news hx hsrc h63 hbytes fun v' w' h2 h3 h4 h5 h6 => hK _ _ (h v' w' h2 h3 h4 h5 h6)
end
end Go.Proofs.YtnniimfinakioaaGreatDoor
namespace Go.Proofs.YtnniimfinakioaaGreatDoor
open Go.RowKit

/-- Behind an append of 'news' at the cells from k on: each cell holds what it held, or the news that belong there. -/
def OverAt (w w' : World) (k : Nat) (news : List Value) : Prop := ∀ (b j : Nat) (x : Value), w.cell? ⟨b, j, none⟩ = some x → w'.cell? ⟨b, j, none⟩ = some x ∨ (k ≤ j ∧ w'.cell? ⟨b, j, none⟩ = news[j - k]? ∧ j - k < news.length)
theorem OverAt.below {w w' : World} {k : Nat} {news : List Value} (h : Below w.heap.size w w') : OverAt w w' k news := fun b j x hx => Or.inl (by
  rw [h.cell (p := ⟨b, j, none⟩) (World.block_lt_of_cell? w ⟨b, j, none⟩ hx)]; exact hx)

section
variable {P : Program} (w : World)
theorem run_app4 {t e size bytes : Nat} (E : ElemT P t e size bytes) (ty : TypeId) (v : Value) (n : Nat) (xs : List Value) (hown : w.ownsRow 0 e size v n xs)
    (vs : Value) (m : Nat) (news : List Value) (hsrc : Src w size vs m news) (h63 : n + m ≤ maxLen) (hbytes : (n + m) * bytes ≤ 140737488355328) :
    ∃ v' w', (Builtin.append_ #[t, t] ty #[v, vs]).run P w = .ok v' w' ∧ w'.ownsRow 0 e size v' (n + m) (xs ++ news) ∧ w.grownBy w' v.ownBlock ∧
      (v'.ownBlock = v.ownBlock ∨ v'.ownBlock = some w.heap.size) ∧ w'.ownsRow 0 e size v n xs ∧ OverAt w w' (n * size) news := by
  obtain ⟨v', w', hr, h1, h2, h3⟩ := run_app (P := P) w E ty v n xs hown vs m news hsrc h63 hbytes
  refine ⟨v', w', hr, h1, h2, h3, ?_⟩
  obtain ⟨hu, ⟨i, z, hi, hz, hsize, hby, hzs⟩, hsz⟩ := E
  obtain ⟨hl, ho, hs⟩ := hsrc
  subst hsize
  subst hby
  rcases hs with ⟨rfl, rfl⟩ | ⟨ad, c, rfl, hc⟩
  · have hr2 := run_append_owned_none (P := P) (w := w) 0 t ty e i i.size hu hi v n xs hown
    rw [hr2] at hr
    simp only [Result.ok.injEq] at hr
    obtain ⟨rfl, rfl⟩ := hr
    exact ⟨hown, fun b j x hx => Or.inl hx⟩
  · rcases hown.2 with ⟨rfl, rfl⟩ | ⟨g, cap, cur, rfl, hbg, hg, hnc, hcm, hcs, htake⟩
    · have hx : xs = [] := List.eq_nil_of_length_eq_zero (by simpa using hown.1)
      subst hx
      refine ⟨World.ownsRow_nil _ _ _ _, fun b j x hx => Or.inl ?_⟩
      rw [World.cell?_of_block (w := w) (h2.block b (World.block_lt_of_cell? w ⟨b, j, none⟩ hx) (by simp [Value.ownBlock]))]
      exact hx
    · have hsmall : n + m ≤ 9223372036854775807 := by simp only [maxLen] at h63; omega
      by_cases hroom : n + m ≤ cap
      · have hfit : n * i.size + news.length ≤ cur.size := by rw [hl, hcs, ← Nat.add_mul]; exact Nat.mul_le_mul_right _ hroom
        have hr2 := run_append_room (P := P) w t ty e i hu hi g n cap cur hg ad m c news hl hc ho hroom hfit
        rw [hr2] at hr
        simp only [Result.ok.injEq] at hr
        obtain ⟨_, rfl⟩ := hr
        have hset := setRow_heap w g cur (cur.toList.take (n * i.size) ++ news ++ cur.toList.drop (n * i.size + news.length)).toArray e (0, 0) hg
        refine ⟨⟨hown.1, .inr ⟨g, cap, _, rfl, hbg, hset, hnc, hcm, ?_, ?_⟩⟩, fun b j x hx => ?_⟩
        · simp only [List.size_toArray, List.length_append, List.length_take, List.length_drop, Array.length_toList]
          omega
        · have hlx := hown.1
          have : (cur.toList.take (n * i.size)).length = n * i.size := by rw [htake, hlx]
          simp only [List.append_assoc]
          rw [List.take_append_of_le_length (by omega), List.take_of_length_le (by omega), htake]
        · by_cases hb : b = g
          · subst hb
            rw [cell_of_row _ _ _ _ e (0, 0) hset]
            rw [cell_of_row _ _ _ _ e (0, 0) hg] at hx
            have hj : j < cur.size := (Array.getElem?_eq_some_iff.1 hx).1
            have hx' : cur.toList[j]? = some x := by simpa using hx
            have hlt : (cur.toList.take (n * i.size)).length = n * i.size := by rw [htake, hown.1]
            simp only [List.getElem?_toArray, List.append_assoc]
            rcases Nat.lt_or_ge j (n * i.size) with h | h
            · left
              rw [List.getElem?_append_left (by omega), List.getElem?_take_of_lt h]
              exact hx'
            · rw [List.getElem?_append_right (by omega), hlt]
              rcases Nat.lt_or_ge (j - n * i.size) news.length with h' | h'
              · right
                rw [List.getElem?_append_left h']
                exact ⟨h, rfl, h'⟩
              · left
                rw [List.getElem?_append_right h', List.getElem?_drop]
                rw [show n * i.size + news.length + (j - n * i.size - news.length) = j by omega]
                exact hx'
          · left
            rw [World.cell?_of_block (w := w) (setRow_other w g b _ hb)]
            exact hx
      · have holds : ∀ j u, xs[j]? = some u → w.cell? ((⟨g, 0, none⟩ : Addr).add j) = some u := hown.cells (g := g) rfl
        have hr2 := run_append_grow (P := P) w t ty e i z hu hi hz ⟨g, 0, none⟩ n cap xs hown.1 holds ad m c news hl hc (by omega) (by omega) (growslice_fits (by omega) hbytes)
        rw [hr2] at hr
        simp only [Result.ok.injEq] at hr
        obtain ⟨_, rfl⟩ := hr
        have hbel : Below w.heap.size w (w.drew.alloc (.cells (xs.toArray ++ news.toArray ++ Builtin.zeroCells z.cells (grownCap w (n + m) cap e - (n + m))) e)) := ((Below.refl w.heap.size w).drew).alloc (Nat.le_refl _) _
        exact ⟨own_below hown hbel, OverAt.below hbel⟩

theorem wp_app4 {t e size bytes : Nat} (E : ElemT P t e size bytes) {o : Oper} {a : Act} {K : Act → World → Prop} {Q : Exit → Act → World → Prop} (s x : Operand)
    (ho : o.op = .call { callee := .builtin .append, args := #[s, x], argTypes := #[t, t] })
    (v : Value) (n : Nat) (xs : List Value) (hs : a.eval s = v) (hown : w.ownsRow 0 e size v n xs)
    (vs : Value) (m : Nat) (news : List Value) (hx : a.eval x = vs) (hsrc : Src w size vs m news) (h63 : n + m ≤ maxLen) (hbytes : (n + m) * bytes ≤ 140737488355328)
    (h : ∀ v' w', w'.ownsRow 0 e size v' (n + m) (xs ++ news) → w.grownBy w' v.ownBlock → (v'.ownBlock = v.ownBlock ∨ v'.ownBlock = some w.heap.size) → w'.ownsRow 0 e size v n xs → OverAt w w' (n * size) news → K (a.put o.dst v') w') : o.wp P a w K Q := by
  obtain ⟨v', w', hr, h2, h3, h4, h5, h6⟩ := run_app4 (P := P) w E o.type v n xs hown vs m news hsrc h63 hbytes
  unfold Oper.wp execOp
  simp only [ho, resolve, invoke, builtin, Sem.run_bind, Sem.run_pure, Result.andThen_ok, List.map_toArray, List.map_cons, List.map_nil, hs, hx, hr]
  exact h v' w' h2 h3 h4 h5 h6
theorem wpList_app4 {t e size bytes : Nat} (E : ElemT P t e size bytes) {ops : Array Oper} {rest : List Oper} {o : Oper} {a : Act} {Q : Exit → Act → World → Prop} (hgd : o.guard = none) (s x : Operand)
    (ho : o.op = .call { callee := .builtin .append, args := #[s, x], argTypes := #[t, t] })
    (v : Value) (n : Nat) (xs : List Value) (hs : a.eval s = v) (hown : w.ownsRow 0 e size v n xs)
    (vs : Value) (m : Nat) (news : List Value) (hx : a.eval x = vs) (hsrc : Src w size vs m news) (h63 : n + m ≤ maxLen) (hbytes : (n + m) * bytes ≤ 140737488355328)
    (h : ∀ v' w', w'.ownsRow 0 e size v' (n + m) (xs ++ news) → w.grownBy w' v.ownBlock → (v'.ownBlock = v.ownBlock ∨ v'.ownBlock = some w.heap.size) → w'.ownsRow 0 e size v n xs → OverAt w w' (n * size) news → wpList P ops Q rest (a.put o.dst v') w') : wpList P ops Q (o :: rest) a w :=
  wpList_plain hgd fun _ hK => wp_app4 w E s x ho v n xs hs hown vs m news hx hsrc h63 hbytes fun v' w' h2 h3 h4 h5 h6 => hK _ _ (h v' w' h2 h3 h4 h5 h6)
end
end Go.Proofs.YtnniimfinakioaaGreatDoor
namespace Go.Proofs.YtnniimfinakioaaGreatDoor
open Go.RowKit

abbrev Tok := Int × Int
abbrev Nm := List UInt8
abbrev Ent := Nm × Tok
abbrev strV (s : Nm) : Value := .string ⟨s.toArray⟩
abbrev tokV (t : Tok) : Value := .agg #[.int .i64 t.1, .int .i64 t.2]
abbrev entV (e : Ent) : Value := .agg #[strV e.1, .int .i64 e.2.1, .int .i64 e.2.2]
def tokC (ts : List Tok) : List Value := ts.flatMap fun t => [.int .i64 t.1, .int .i64 t.2]
def entC (es : List Ent) : List Value := es.flatMap fun e => [strV e.1, .int .i64 e.2.1, .int .i64 e.2.2]

theorem eTok : ElemT Tryz.prog 163 192 2 16 := ElemT.mk' (z := .agg #[.int .i64 0, .int .i64 0]) (by kernel_rfl) (by kernel_rfl) rfl (by decide)
theorem eEnt : ElemT Tryz.prog 162 194 3 32 := ElemT.mk' (z := .agg #[.string ByteArray.empty, .int .i64 0, .int .i64 0]) (by kernel_rfl) (by kernel_rfl) rfl (by decide)
theorem eInt : ElemT Tryz.prog 44 3 1 8 := ElemT.mk' (z := .int .i64 0) (by kernel_rfl) (by kernel_rfl) rfl (by decide)
theorem eStr : ElemT Tryz.prog 53 9 1 16 := ElemT.mk' (z := .string ByteArray.empty) (by kernel_rfl) (by kernel_rfl) rfl (by decide)
theorem eNews : ElemT Tryz.prog 166 196 3 56 := ElemT.mk' (z := .agg #[.int .i64 0, .slice none 0 0, .slice none 0 0]) (by kernel_rfl) (by kernel_rfl) rfl (by decide)
theorem eNode : ElemT Tryz.prog 158 168 6 112 := ElemT.mk' (z := .agg #[.slice none 0 0, .slice none 0 0, .int .i64 0, .slice none 0 0, .slice none 0 0, .int .i64 0]) (by kernel_rfl) (by kernel_rfl) rfl (by decide)

theorem eqTokD (k : Nat) (a b c d : Int) (w : World) : (Op.equalIn (k + 1 + 1) 192 (.agg #[.int .i64 a, .int .i64 b]) (.agg #[.int .i64 c, .int .i64 d])).run Tryz.prog w = .ok (a == c && b == d) w := by
  have u3 := Tryz.underlying3
  have a3 := Tryz.isAgg3
  have z3 := Tryz.sizeOf3
  have hS : Tryz.prog.underlying 192 = some (.struct (Tryz.prog.fieldsOf 192)) := by kernel_rfl
  have hp : Tryz.prog.stoodInHeld 192 = false := by kernel_rfl
  rw [run_equalIn_agg w (k + 1) 192 _ _ hS hp]
  simp only [Program.fieldsOf, Tryz.underlying192]
  go_simp
  by_cases h1 : a = c <;> by_cases h2 : b = d <;> simp [h1, h2]
theorem eqTok (a b c d : Int) (w : World) : (Op.equalIn 10000 192 (.agg #[.int .i64 a, .int .i64 b]) (.agg #[.int .i64 c, .int .i64 d])).run Tryz.prog w = .ok (a == c && b == d) w := eqTokD 9998 a b c d w

theorem eqEntD (k : Nat) (s r : ByteArray) (a b c d : Int) (w : World) : (Op.equalIn (k + 1 + 1 + 1) 194 (.agg #[.string s, .int .i64 a, .int .i64 b]) (.agg #[.string r, .int .i64 c, .int .i64 d])).run Tryz.prog w = .ok (s.toList == r.toList && (a == c && b == d)) w := by
  have hS : Tryz.prog.underlying 194 = some (.struct (Tryz.prog.fieldsOf 194)) := by kernel_rfl
  have hp : Tryz.prog.stoodInHeld 194 = false := by kernel_rfl
  have hT := eqTokD k a b c d
  have u9 := Tryz.underlying9
  have a9 := Tryz.isAgg9
  have z9 := Tryz.sizeOf9
  have a1 := Tryz.isAgg192
  have z1 := Tryz.sizeOf192
  rw [run_equalIn_agg w (k + 1 + 1) 194 _ _ hS hp]
  simp only [Program.fieldsOf, Tryz.underlying194]
  clear hS hp
  go_simp
  by_cases h0 : s.toList = r.toList <;> by_cases h1 : a = c <;> by_cases h2 : b = d <;> simp [h0, h1, h2]
theorem eqEnt (s r : ByteArray) (a b c d : Int) (w : World) : (Op.equalIn 10000 194 (.agg #[.string s, .int .i64 a, .int .i64 b]) (.agg #[.string r, .int .i64 c, .int .i64 d])).run Tryz.prog w = .ok (s.toList == r.toList && (a == c && b == d)) w := eqEntD 9997 s r a b c d w

theorem tokC_length (ts : List Tok) : (tokC ts).length = ts.length * 2 := by
  induction ts with
  | nil => rfl
  | cons t ts ih => simp [tokC] at ih ⊢; omega
theorem entC_length (es : List Ent) : (entC es).length = es.length * 3 := by
  induction es with
  | nil => rfl
  | cons t ts ih => simp [entC] at ih ⊢; omega
theorem tokC_get (ts : List Tok) (k : Nat) (t : Tok) (h : ts[k]? = some t) : (tokC ts)[k * 2]? = some (.int .i64 t.1) ∧ (tokC ts)[k * 2 + 1]? = some (.int .i64 t.2) := by
  induction ts generalizing k with
  | nil => simp at h
  | cons x ts ih =>
    cases k with
    | zero => simp at h; subst h; simp [tokC]
    | succ k =>
      have := ih k (by simpa using h)
      simp only [tokC, List.flatMap_cons] at this ⊢
      rw [List.getElem?_append_right (by simp; omega), List.getElem?_append_right (by simp; omega)]
      simp only [List.length_cons, List.length_nil]
      rw [show (k + 1) * 2 - (0 + 1 + 1) = k * 2 by omega, show (k + 1) * 2 + 1 - (0 + 1 + 1) = k * 2 + 1 by omega]
      exact this
theorem entC_get (ts : List Ent) (k : Nat) (t : Ent) (h : ts[k]? = some t) : (entC ts)[k * 3]? = some (strV t.1) ∧ (entC ts)[k * 3 + 1]? = some (.int .i64 t.2.1) ∧ (entC ts)[k * 3 + 2]? = some (.int .i64 t.2.2) := by
  induction ts generalizing k with
  | nil => simp at h
  | cons x ts ih =>
    cases k with
    | zero => simp at h; subst h; simp [entC]
    | succ k =>
      have := ih k (by simpa using h)
      simp only [entC, List.flatMap_cons] at this ⊢
      rw [List.getElem?_append_right (by simp; omega), List.getElem?_append_right (by simp; omega), List.getElem?_append_right (by simp; omega)]
      simp only [List.length_cons, List.length_nil]
      rw [show (k + 1) * 3 - (0 + 1 + 1 + 1) = k * 3 by omega, show (k + 1) * 3 + 1 - (0 + 1 + 1 + 1) = k * 3 + 1 by omega, show (k + 1) * 3 + 2 - (0 + 1 + 1 + 1) = k * 3 + 2 by omega]
      exact this
theorem tokC_app (a b : List Tok) : tokC (a ++ b) = tokC a ++ tokC b := by simp [tokC]
theorem entC_app (a b : List Ent) : entC (a ++ b) = entC a ++ entC b := by simp [entC]
theorem tokC_one (ts : List Tok) : ∀ u ∈ tokC ts, u.oneCell' = true := by
  intro u hu
  simp only [tokC, List.mem_flatMap] at hu
  obtain ⟨t, _, ht⟩ := hu
  simp at ht
  rcases ht with rfl | rfl <;> rfl
theorem entC_one (ts : List Ent) : ∀ u ∈ entC ts, u.oneCell' = true := by
  intro u hu
  simp only [entC, List.mem_flatMap] at hu
  obtain ⟨t, _, ht⟩ := hu
  simp at ht
  rcases ht with rfl | rfl | rfl <;> rfl

/-- A row of tokens, of entries: the value v reads so. -/
def TokR (w : World) (v : Value) (ts : List Tok) : Prop := w.ownsRow 0 192 2 v ts.length (tokC ts)
def EntR (w : World) (v : Value) (es : List Ent) : Prop := w.ownsRow 0 194 3 v es.length (entC es)

theorem TokR.at {w : World} {o : Option Addr} {n c : Nat} {ts : List Tok} (h : TokR w (.slice o n c) ts) {k : Nat} {t : Tok} (hk : ts[k]? = some t) :
    ∃ g, o = some ⟨g, 0, none⟩ ∧ g < w.heap.size ∧ w.cell? ⟨g, k * 2, none⟩ = some (.int .i64 t.1) ∧ w.cell? ⟨g, k * 2 + 1, none⟩ = some (.int .i64 t.2) := by
  obtain ⟨g1, g2⟩ := tokC_get ts k t hk
  have hk' : k < ts.length := by
    rcases Nat.lt_or_ge k ts.length with h | h
    · exact h
    · rw [List.getElem?_eq_none h] at hk; cases hk
  obtain ⟨g, cap, e, _, hlt⟩ := World.ownsRow.form h (by omega)
  simp only [Value.slice.injEq] at e
  obtain ⟨rfl, _, _⟩ := e
  exact ⟨g, rfl, hlt, own_cell h rfl g1, own_cell h rfl g2⟩
theorem EntR.at {w : World} {o : Option Addr} {n c : Nat} {ts : List Ent} (h : EntR w (.slice o n c) ts) {k : Nat} {t : Ent} (hk : ts[k]? = some t) :
    ∃ g, o = some ⟨g, 0, none⟩ ∧ g < w.heap.size ∧ w.cell? ⟨g, k * 3, none⟩ = some (strV t.1) ∧ w.cell? ⟨g, k * 3 + 1, none⟩ = some (.int .i64 t.2.1) ∧ w.cell? ⟨g, k * 3 + 2, none⟩ = some (.int .i64 t.2.2) := by
  obtain ⟨g1, g2, g3⟩ := entC_get ts k t hk
  have hk' : k < ts.length := by
    rcases Nat.lt_or_ge k ts.length with h | h
    · exact h
    · rw [List.getElem?_eq_none h] at hk; cases hk
  obtain ⟨g, cap, e, _, hlt⟩ := World.ownsRow.form h (by omega)
  simp only [Value.slice.injEq] at e
  obtain ⟨rfl, _, _⟩ := e
  exact ⟨g, rfl, hlt, own_cell h rfl g1, own_cell h rfl g2, own_cell h rfl g3⟩
theorem TokR.form {w : World} {v : Value} {ts : List Tok} (h : TokR w v ts) : ∃ o c, v = .slice o ts.length c ∧ ts.length ≤ c ∧ c ≤ maxLen := own_form h
theorem EntR.form {w : World} {v : Value} {ts : List Ent} (h : EntR w v ts) : ∃ o c, v = .slice o ts.length c ∧ ts.length ≤ c ∧ c ≤ maxLen := own_form h
theorem TokR.below {w w' : World} {v : Value} {ts : List Tok} (h : TokR w v ts) (k : Below w.heap.size w w') : TokR w' v ts := own_below h k
theorem EntR.below {w w' : World} {v : Value} {ts : List Ent} (h : EntR w v ts) (k : Below w.heap.size w w') : EntR w' v ts := own_below h k

theorem toList_nm (s : Nm) : (ByteArray.mk s.toArray).toList = s := by rw [ByteArray.toList_eq]
theorem nm_of (s : ByteArray) : ∃ l : Nm, s = ⟨l.toArray⟩ := ⟨s.data.toList, by simp⟩
theorem app_nm (a b : Nm) : (ByteArray.mk a.toArray) ++ (ByteArray.mk b.toArray) = ByteArray.mk (a ++ b).toArray := by
  apply WideShapes.bytes_inj
  simp
theorem size_nm (a : Nm) : (ByteArray.mk a.toArray).size = a.length := by simp [ByteArray.size]
theorem ret_bool {a b : Bool} (h : a = b) : Ending.returned (.bool a) = .returned (.bool b) := by rw [h]
theorem below2 (w : World) (o1 o2 : Obj) : Below w.heap.size w ((w.alloc o1).alloc o2) :=
  ((Below.refl _ _).alloc (Nat.le_refl _) _).alloc (by simp) _
theorem get_some {α : Type} {l : List α} {k : Nat} (h : k < l.length) : ∃ x, l[k]? = some x := ⟨_, List.getElem?_eq_getElem h⟩
end Go.Proofs.YtnniimfinakioaaGreatDoor
