import Derived.StillTailTactics
import Derived.Laws.IdiomStrings
import Derived.Test.YtnniimfinakioaaGreatDoorXa
namespace Go.Proofs.YtnniimfinakioaaGreatDoor
open Go.RowKit
attribute [local go_sem ↓] eqTok eqEnt
attribute [local go_sem] toList_nm

def beforeB (a b : Tok) : Bool := decide (a.1 < b.1) || (a.1 == b.1 && decide (a.2 < b.2))
def aheadB (a b : Ent) : Bool := if a.1 = b.1 then beforeB a.2 b.2 else Op.bytesLess a.1 b.1

set_option maxHeartbeats 400000 in
theorem before_any (a b : Tok) (w : World) :
    Calls Tryz.prog 158 #[tokV a, tokV b] w fun e w' => e = .returned (.bool (beforeB a b)) ∧ Below w.heap.size w w' := by
  obtain ⟨a1, a2⟩ := a
  obtain ⟨b1, b2⟩ := b
  dsimp only [tokV]
  by_cases h1 : a1 < b1
  · go_enter Tryz.func158, Tryz.ntmps158
    go_wp2
    go_ret
    exact ⟨ret_bool (by simp [beforeB, h1]), below2 _ _ _⟩
  · have h1' : decide (a1 < b1) = false := by simpa using h1
    by_cases h2 : a1 = b1
    · subst h2
      go_enter Tryz.func158, Tryz.ntmps158
      go_wp2
      go_ret
      exact ⟨ret_bool (by simp [beforeB]), below2 _ _ _⟩
    · have h2' : (a1 == b1) = false := by simpa using h2
      go_enter Tryz.func158, Tryz.ntmps158
      go_wp2
      go_ret
      exact ⟨ret_bool (by simp [beforeB, h2, h1]), below2 _ _ _⟩

set_option maxHeartbeats 400000 in
theorem ahead_any (a b : Ent) (w : World) :
    Calls Tryz.prog 159 #[entV a, entV b] w fun e w' => e = .returned (.bool (aheadB a b)) ∧ Below w.heap.size w w' := by
  obtain ⟨s, a1, a2⟩ := a
  obtain ⟨r, b1, b2⟩ := b
  dsimp only [entV]
  by_cases h1 : s = r
  · subst h1
    go_enter Tryz.func159, Tryz.ntmps159
    go_wp2_with fail
    refine (before_any (a1, a2) (b1, b2) _).mono ?_
    rintro e w1 ⟨rfl, hb⟩
    go_wp2_with fail
    go_ret
    exact ⟨ret_bool (by simp [aheadB]), (below2 w _ _).trans (hb.mono (by simp; omega))⟩
  · have h1' : (s == r) = false := by simpa using h1
    go_enter Tryz.func159, Tryz.ntmps159
    go_wp2_with fail
    go_ret
    exact ⟨ret_bool (by simp [aheadB, h1]), below2 _ _ _⟩

theorem take_snoc' {α : Type} {l : List α} {k : Nat} {x : α} (h : l[k]? = some x) : l.take (k + 1) = l.take k ++ [x] := by
  rw [List.take_add_one, h]; rfl

set_option maxHeartbeats 400000 in
theorem knows_any (vL vK : Value) (ts : List Tok) (t : Tok) (w : World) (hK : TokR w vK ts) (hbd : ts.length ≤ 1000000) :
    Calls Tryz.prog 157 #[.agg #[vL, vK], tokV t] w fun e w' => e = .returned (.bool (decide (t ∈ ts))) ∧ Below w.heap.size w w' := by
  obtain ⟨o, c, rfl, hc1, hc2⟩ := hK.form
  dsimp only [tokV]
  go_enter Tryz.func157, Tryz.ntmps157
  go_wp2
  go_loopw [5] (fun i wr => ∃ k : Nat, k ≤ ts.length ∧ i = .int .i64 k ∧ ¬ t ∈ ts.take k ∧ Below (w.heap.size + 1 + 1) ((w.alloc (.cells #[vL, .slice o ts.length c] 165)).alloc (.cells #[.int .i64 t.1, .int .i64 t.2] 192)) wr) (fun i _ => ts.length - (intOf i).toNat)
  case atStart => exact ⟨0, Nat.zero_le _, rfl, by simp, Below.refl _ _⟩
  case round =>
    obtain ⟨k, hk, rfl, hnin, hbel⟩ := hrel
    obtain ⟨e1, _, e2, _, e3, e4, e5⟩ := bx2 hbel
    have Hnin : Hid (¬ t ∈ ts.take k) := hnin
    clear hnin hc1 hc2
    by_cases hlt : k < ts.length
    · obtain ⟨x, hx⟩ := get_some hlt
      have Hx : Hid (ts[k]? = some x) := hx
      obtain ⟨g, rfl, hg, c1, c2⟩ := hK.at hx
      clear hx hK
      by_cases heq : x = t
      · subst heq
        go_wp2
        go_quiet (fail)
        go_wp2
        go_ret
        exact ⟨ret_bool (by simp [List.mem_of_getElem? Hx.out]), ⟨e4.os, e4.tape, e4.output, e4.size, e4.block⟩⟩
      · have hne : (x.1 == t.1 && x.2 == t.2) = false := by
          rcases x with ⟨x1, x2⟩
          rcases t with ⟨t1, t2⟩
          simp only [Prod.mk.injEq] at heq
          simpa using heq
        have Heq : Hid (¬ x = t) := heq
        clear heq
        go_wp2
        go_quiet (fail)
        go_wp2
        go_roundw
        case rel => exact ⟨k + 1, by omega, by go_num, by rw [take_snoc' Hx.out]; simp; exact ⟨Hnin.out, fun h => Heq.out h.symm⟩, ⟨hbel.os, hbel.tape, hbel.output, hbel.size, hbel.block⟩⟩
        case measure => simp [intOf]; omega
    · go_wp2
      go_ret
      exact ⟨ret_bool (by have := Hnin.out; rw [List.take_of_length_le (by omega)] at this; simp [this]), e4⟩

set_option maxHeartbeats 400000 in
theorem has_any (vL vK : Value) (ts : List Ent) (t : Ent) (w : World) (hL : EntR w vL ts) (hbd : ts.length ≤ 1000000) :
    Calls Tryz.prog 177 #[.agg #[vL, vK], entV t] w fun e w' => e = .returned (.bool (decide (t ∈ ts))) ∧ Below w.heap.size w w' := by
  obtain ⟨o, c, rfl, hc1, hc2⟩ := hL.form
  dsimp only [entV]
  go_enter Tryz.func177, Tryz.ntmps177
  go_wp2
  go_loopw [5] (fun i wr => ∃ k : Nat, k ≤ ts.length ∧ i = .int .i64 k ∧ ¬ t ∈ ts.take k ∧ Below (w.heap.size + 1 + 1) ((w.alloc (.cells #[.slice o ts.length c, vK] 165)).alloc (.cells #[strV t.1, .int .i64 t.2.1, .int .i64 t.2.2] 194)) wr) (fun i _ => ts.length - (intOf i).toNat)
  case atStart => exact ⟨0, Nat.zero_le _, rfl, by simp, Below.refl _ _⟩
  case round =>
    obtain ⟨k, hk, rfl, hnin, hbel⟩ := hrel
    obtain ⟨e1, _, e2, _, e3, e4, e5⟩ := bx2 hbel
    have Hnin : Hid (¬ t ∈ ts.take k) := hnin
    clear hnin hc1 hc2
    by_cases hlt : k < ts.length
    · obtain ⟨x, hx⟩ := get_some hlt
      have Hx : Hid (ts[k]? = some x) := hx
      obtain ⟨g, rfl, hg, c1, c2, c3⟩ := hL.at hx
      clear hx hL
      by_cases heq : x = t
      · subst heq
        go_wp2
        go_quiet (fail)
        go_wp2
        go_ret
        exact ⟨ret_bool (by simp [List.mem_of_getElem? Hx.out]), ⟨e4.os, e4.tape, e4.output, e4.size, e4.block⟩⟩
      · have hne : (x.1 == t.1 && (x.2.1 == t.2.1 && x.2.2 == t.2.2)) = false := by
          rcases x with ⟨x0, x1, x2⟩
          rcases t with ⟨t0, t1, t2⟩
          simp only [Prod.mk.injEq] at heq
          simpa using heq
        have Heq : Hid (¬ x = t) := heq
        clear heq
        go_wp2
        go_quiet (fail)
        go_wp2
        go_roundw
        case rel => exact ⟨k + 1, by omega, by go_num, by rw [take_snoc' Hx.out]; simp; exact ⟨Hnin.out, fun h => Heq.out h.symm⟩, ⟨hbel.os, hbel.tape, hbel.output, hbel.size, hbel.block⟩⟩
        case measure => simp [intOf]; omega
    · go_wp2
      go_ret
      exact ⟨ret_bool (by have := Hnin.out; rw [List.take_of_length_le (by omega)] at this; simp [this]), e4⟩
end Go.Proofs.YtnniimfinakioaaGreatDoor
namespace Go.Proofs.YtnniimfinakioaaGreatDoor
open Go.RowKit
attribute [local go_sem ↓] eqTok eqEnt
attribute [local go_sem] toList_nm

/-- Where the code's own search from behind stops. -/
def IsPos {α : Type} (bef : α → α → Bool) (l : List α) (t : α) (a : Nat) : Prop := a ≤ l.length ∧ (∀ i x, a ≤ i → l[i]? = some x → bef x t = false) ∧ (a = 0 ∨ ∃ x, l[a - 1]? = some x ∧ bef x t = true)

/-- The first k tokens of a row that is still there. -/
theorem src_take {w wr : World} {g c k : Nat} {K : List Tok} (hK : TokR w (.slice (some ⟨g, 0, none⟩) K.length c) K) (hb : Below w.heap.size w wr) (hk : k ≤ K.length) : Src wr 2 (.slice (some ⟨g, 0, none⟩) k c) k (tokC (K.take k)) := by
  refine ⟨by rw [tokC_length, List.length_take]; omega, tokC_one _, Or.inr ⟨_, _, rfl, fun j u hu => ?_⟩⟩
  rw [World.addr_add, Nat.zero_add, hb.cell (p := ⟨g, j, none⟩) (hK.lt g rfl).2]
  refine own_cell hK rfl ?_
  have : tokC K = tokC (K.take k) ++ tokC (K.drop k) := by rw [← tokC_app, List.take_append_drop]
  rw [this, List.getElem?_append_left (by
    rcases Nat.lt_or_ge j (tokC (K.take k)).length with h | h
    · exact h
    · rw [List.getElem?_eq_none h] at hu; cases hu)]
  exact hu
theorem src_drop {w wr : World} {g c k m c' : Nat} {K : List Tok} (hK : TokR w (.slice (some ⟨g, 0, none⟩) K.length c) K) (hb : Below w.heap.size w wr) (hk : k + m = K.length) : Src wr 2 (.slice (some ⟨g, k * 2, none⟩) m c') m (tokC (K.drop k)) := by
  refine ⟨by rw [tokC_length, List.length_drop]; omega, tokC_one _, Or.inr ⟨_, _, rfl, fun j u hu => ?_⟩⟩
  rw [World.addr_add, hb.cell (p := ⟨g, k * 2 + j, none⟩) (hK.lt g rfl).2]
  refine own_cell hK rfl ?_
  have h1 : tokC K = tokC (K.take k) ++ tokC (K.drop k) := by rw [← tokC_app, List.take_append_drop]
  have h2 : (tokC (K.take k)).length = k * 2 := by rw [tokC_length, List.length_take]; omega
  rw [h1, List.getElem?_append_right (by omega), h2, Nat.add_sub_cancel_left]
  exact hu
theorem before_val (a b : Tok) (w : World) {v : Bool} (h : beforeB a b = v) : Calls Tryz.prog 158 #[tokV a, tokV b] w fun e w' => e = .returned (.bool v) ∧ Below w.heap.size w w' := by
  subst h; exact before_any a b w
theorem own_cap {w : World} {e size n c : Nat} {o : Option Addr} {xs : List Value} (h : w.ownsRow 0 e size (.slice o n c) n xs) : n ≤ c := by
  obtain ⟨o', c', e, h1, _⟩ := own_form h
  simp only [Value.slice.injEq] at e
  omega
theorem src_drop0 {wr : World} {ad : Addr} {m c' : Nat} {K : List Tok} (hk : K = []) (hm : m = 0) : Src wr 2 (.slice (some ad) m c') m (tokC K) := by
  subst hk; subst hm
  exact ⟨rfl, tokC_one _, Or.inr ⟨_, _, rfl, fun j u hu => by simp [tokC] at hu⟩⟩
theorem learn_row {wc : World} {o3 : Option Addr} {c3 k N b1 b2 : Nat} {K : List Tok} {t : Tok} {x y z : Value} {i1 i2 i3 : Nat} (hk : k ≤ K.length)
    (h : wc.ownsRow 0 192 2 (.slice o3 (k + 1 + (K.length - k)) c3) (k + 1 + (K.length - k)) (tokC (K.take k) ++ (tokC [t] ++ tokC (K.drop k))))
    (hv : ∀ g, (Value.slice o3 (k + 1 + (K.length - k)) c3).ownBlock = some g → N ≤ g) (h1 : b1 < N) (h2 : b2 < N) :
    TokR (((wc.setCell ⟨b1, i1, none⟩ x).setCell ⟨b2, i2, none⟩ y).setCell ⟨b2, i3, none⟩ z) (.slice o3 (k + 1 + (K.length - k)) c3) (K.take k ++ t :: K.drop k) := by
  have hl : (K.take k ++ t :: K.drop k).length = k + 1 + (K.length - k) := by simp; omega
  unfold TokR
  rw [hl, tokC_app, show t :: K.drop k = [t] ++ K.drop k from rfl, tokC_app]
  exact own_mono (ownsRow_setCell_below (ownsRow_setCell_below (ownsRow_setCell_below (own_raise h hv) h1 _) h2 _) h2 _) (Nat.zero_le _)
theorem src_new (w : World) (K : List Tok) {n c : Nat} {ty : TypeId} (hn : K.length = n) : Src (w.alloc (.cells (tokC K).toArray ty)) 2 (.slice (some ⟨w.heap.size, 0, none⟩) n c) n (tokC K) := by
  refine ⟨by rw [tokC_length, hn], tokC_one _, Or.inr ⟨_, _, rfl, ?_⟩⟩
  exact World.news_of_block (cs := (tokC K).toArray) (heap_alloc_new w _)

def posB {α : Type} (bef : α → α → Bool) (l : List α) (t : α) : Nat := (l.reverse.dropWhile fun x => !bef x t).length
theorem posB_snoc {α : Type} (bef : α → α → Bool) (l : List α) (y t : α) : posB bef (l ++ [y]) t = if bef y t then l.length + 1 else posB bef l t := by
  unfold posB
  rw [List.reverse_append, List.reverse_singleton, List.singleton_append, List.dropWhile_cons]
  cases bef y t <;> simp
theorem isPos_eq {α : Type} (bef : α → α → Bool) (t : α) : ∀ (l : List α) (a : Nat), IsPos bef l t a → a = posB bef l t := by
  intro l
  induction hn : l.length generalizing l with
  | zero =>
    intro a h
    have : l = [] := List.eq_nil_of_length_eq_zero hn
    subst this
    have := h.1
    simp at this
    subst this
    rfl
  | succ n ih =>
    intro a h
    obtain ⟨l', y, rfl⟩ : ∃ l' y, l = l' ++ [y] := by
      refine ⟨l.dropLast, l.getLast (by intro e; subst e; simp at hn), ?_⟩
      exact (List.dropLast_concat_getLast _).symm
    have hl : l'.length = n := by simpa using hn
    rw [posB_snoc]
    obtain ⟨h1, h2, h3⟩ := h
    simp at h1
    have hy : (l' ++ [y])[l'.length]? = some y := by simp
    by_cases hb : bef y t = true
    · rw [if_pos hb]
      rcases Nat.lt_or_ge l'.length a with h | h
      · omega
      · have := h2 _ _ h hy
        rw [this] at hb; cases hb
    · rw [if_neg hb]
      have ha : a ≤ l'.length := by
        rcases Nat.lt_or_ge l'.length a with h | h
        · rcases h3 with h3 | ⟨x, h3, h4⟩
          · omega
          · have e : a - 1 = l'.length := by omega
            rw [e, hy] at h3
            simp only [Option.some.injEq] at h3
            rw [← h3] at h4
            exact absurd h4 hb
        · exact h
      refine ih l' hl a ⟨ha, fun i x hi hx => ?_, ?_⟩
      · refine h2 i x hi ?_
        have hlt : i < l'.length := by
          rcases Nat.lt_or_ge i l'.length with h | h
          · exact h
          · rw [List.getElem?_eq_none h] at hx; cases hx
        rw [List.getElem?_append_left hlt]; exact hx
      · rcases h3 with h3 | ⟨x, h3, h4⟩
        · exact Or.inl h3
        · by_cases ha0 : a = 0
          · exact Or.inl ha0
          · refine Or.inr ⟨x, ?_, h4⟩
            rw [List.getElem?_append_left (by omega)] at h3
            exact h3
def insB {α : Type} (bef : α → α → Bool) (l : List α) (t : α) : List α := l.take (posB bef l t) ++ t :: l.drop (posB bef l t)
def learnL (K : List Tok) (t : Tok) : List Tok := if t ∈ K then K else insB beforeB K t
theorem insB_length {α : Type} (bef : α → α → Bool) (l : List α) (t : α) : (insB bef l t).length = l.length + 1 := by
  have : posB bef l t ≤ l.length := by
    unfold posB
    have := (List.dropWhile_suffix (fun x => !bef x t) (l := l.reverse)).length_le
    simpa using this
  simp [insB]; omega
theorem learnL_length (K : List Tok) (t : Tok) : (learnL K t).length ≤ K.length + 1 := by
  unfold learnL
  split
  · omega
  · rw [insB_length]; omega

set_option maxHeartbeats 400000 in
theorem learn_new (oL : Option Addr) (nL cL g c : Nat) (K : List Tok) (t : Tok) (w : World) (hK : TokR w (.slice (some ⟨g, 0, none⟩) K.length c) K) (hbd : K.length ≤ 1000000) (hnin : ¬ t ∈ K) :
    Calls Tryz.prog 136 #[.agg #[.slice oL nL cL, .slice (some ⟨g, 0, none⟩) K.length c], tokV t] w fun e w' => ∃ a vK', IsPos beforeB K t a ∧ e = .returned (.agg #[.slice oL nL cL, vK']) ∧ TokR w' vK' (K.take a ++ t :: K.drop a) ∧ (∀ g, vK'.ownBlock = some g → w.heap.size ≤ g) ∧ Below w.heap.size w w' := by
  have hg : g < w.heap.size := (hK.lt g rfl).2
  have hcap : K.length ≤ c := own_cap hK
  have hdn : decide (t ∈ K) = false := by simpa using hnin
  have Hnin : Hid (¬ t ∈ K) := hnin
  clear hnin
  have hK3 : ∀ (o1 o2 o3 : Obj), TokR (((w.alloc o1).alloc o2).alloc o3) (.slice (some ⟨g, 0, none⟩) K.length c) K := fun o1 o2 o3 => ((hK.alloc o1).alloc o2).alloc o3
  dsimp only [tokV]
  go_enter Tryz.func136, Tryz.ntmps136
  go_wp2_with fail
  refine (knows_any _ _ K t _ (hK3 _ _ _) hbd).mono ?_
  rintro e w1 ⟨rfl, hb⟩
  have hb' : Below (w.heap.size + 1 + 1 + 1) (((w.alloc (.cells #[.slice oL nL cL, .slice (some ⟨g, 0, none⟩) K.length c] 165)).alloc (.cells #[.int .i64 t.1, .int .i64 t.2] 192)).alloc (.cells #[.slice none 0 0, .slice none 0 0] 165)) w1 := by simpa using hb
  clear hb
  obtain ⟨e1, f1, e2, f2, e3, f3, e4, e5, e6⟩ := bx3 hb'
  clear hK3
  go_wp2_with fail
  clear e1 e2 e3 e4 e5 e6 f1 f2 f3
  go_loopw [6] (fun i wr => ∃ k : Nat, k ≤ K.length ∧ i = .int .i64 k ∧ (∀ j x, k ≤ j → K[j]? = some x → beforeB x t = false) ∧ Below (w.heap.size + 1 + 1 + 1) (((w.alloc (.cells #[.slice oL nL cL, .slice (some ⟨g, 0, none⟩) K.length c] 165)).alloc (.cells #[.int .i64 t.1, .int .i64 t.2] 192)).alloc (.cells #[.slice none 0 0, .slice none 0 0] 165)) wr) (fun i _ => (intOf i).toNat)
  case atStart =>
    refine ⟨K.length, Nat.le_refl _, rfl, ?_, hb'⟩
    intro j x hj hx
    rw [List.getElem?_eq_none hj] at hx
    cases hx
  case round =>
    obtain ⟨k, hk, rfl, hpos, hbel⟩ := hrel
    have Hpos : Hid (∀ j x, k ≤ j → K[j]? = some x → beforeB x t = false) := hpos
    clear hpos
    obtain ⟨e1, f1, e2, f2, e3, f3, e4, e5, e6⟩ := bx3 hbel
    by_cases hk0 : k = 0
    · have hpos0 : ¬ (0 : Int) < (k : Int) := by omega
      have Hend : Hid (IsPos beforeB K t k) := ⟨hk, Hpos.out, Or.inl hk0⟩
      clear hk0
      go_wp2_with (first | (at_builtin; refine wpList_app (t := 163) _ eTok (by rfl) _ _ (by rfl) (.slice none 0 0) 0 [] (by rfl) (World.ownsRow_nil _ _ _ _) _ k (tokC (K.take k)) (by rfl) ?src ?h63 ?hby ?next))
      case src => exact src_take hK e5 hk
      case h63 => simp only [maxLen]; omega
      case hby => omega
      case next =>
        intro v1 wa hown1 hgr1 hat1
        have hb1 := hbel.grown hgr1 e6 (by simp [Value.ownBlock])
        have hv1 := at_ge (N := w.heap.size + 1 + 1 + 1) hat1 (by simp [Value.ownBlock]) e6
        obtain ⟨o1, c1, rfl, _, _⟩ := own_form hown1
        obtain ⟨e1', f1', e2', f2', e3', f3', e4', e5', e6'⟩ := bx3 hb1
        clear hat1 hgr1
        go_wp2_with (first | (at_builtin; refine wpList_app (t := 163) _ eTok (by rfl) _ _ (by rfl) (.slice o1 k c1) k (tokC (K.take k)) (by rfl) ?own _ 1 (tokC [t]) (by rfl) ?src ?h63 ?hby ?next))
        case own => exact hown1.alloc _
        case src => exact src_new _ [t] rfl
        case h63 => simp only [maxLen]; omega
        case hby => omega
        case next =>
          intro v2 wb hown2 hgr2 hat2
          have hb2 := (hb1.alloc e6' _).grown hgr2 (by simp; omega) hv1
          have hv2 := at_ge (N := w.heap.size + 1 + 1 + 1) hat2 hv1 (by omega)
          obtain ⟨o2, c2, rfl, _, _⟩ := own_form hown2
          clear e1' f1' e2' f2' e3' f3' e4' e5' hat2 hgr2 hb1 hown1 hv1 e6'
          obtain ⟨e1', f1', e2', f2', e3', f3', e4', e5', e6'⟩ := bx3 hb2
          by_cases hck : c = k
          · have hlk : Hid (K.length - k = 0) := by show K.length - k = 0; omega
            go_wp2_with (first | (at_builtin; refine wpList_app (t := 163) _ eTok (by rfl) _ _ (by rfl) (.slice o2 (k + 1) c2) (k + 1) (tokC (K.take k) ++ tokC [t]) (by rfl) hown2 _ (K.length - k) (tokC (K.drop k)) (by rfl) ?src ?h63 ?hby ?next))
            case src => exact src_drop0 (by rw [List.drop_of_length_le (by have := hlk.out; omega)]) hlk.out
            case h63 => simp only [maxLen]; omega
            case hby => omega
            case next =>
              intro v3 wc hown3 hgr3 hat3
              have hb3 := hb2.grown hgr3 e6' hv2
              have hv3 := at_ge (N := w.heap.size + 1 + 1 + 1) hat3 hv2 (by omega)
              obtain ⟨o3, c3, rfl, _, _⟩ := own_form hown3
              clear e1' f1' e2' f2' e3' f3' e4' e5' hat3 hgr3 hb2 hown2 hv2 e6'
              obtain ⟨e1', f1', e2', f2', e3', f3', e4', e5', e6'⟩ := bx3 hb3
              go_wp2
              refine bodyPost_ret (v := .agg #[.slice oL nL cL, .slice o3 (k + 1 + (K.length - k)) c3]) (by simp [results, Tryz.results136, go_sem, e3']) rfl ⟨k, _, Hend.out, rfl, learn_row (N := w.heap.size + 1 + 1 + 1) (b1 := w.heap.size) (b2 := w.heap.size + 1 + 1) hk hown3 hv3 (by omega) (by omega), fun x hx => by have := hv3 x hx; omega, ?_⟩
              exact ((e5'.setCell (by simp) _).setCell (by simp; omega) _).setCell (by simp; omega) _
          ·
            go_wp2_with (first | (at_builtin; refine wpList_app (t := 163) _ eTok (by rfl) _ _ (by rfl) (.slice o2 (k + 1) c2) (k + 1) (tokC (K.take k) ++ tokC [t]) (by rfl) hown2 _ (K.length - k) (tokC (K.drop k)) (by rfl) ?src ?h63 ?hby ?next))
            case src => exact src_drop hK e5' (by omega)
            case h63 => simp only [maxLen]; omega
            case hby => omega
            case next =>
              intro v3 wc hown3 hgr3 hat3
              have hb3 := hb2.grown hgr3 e6' hv2
              have hv3 := at_ge (N := w.heap.size + 1 + 1 + 1) hat3 hv2 (by omega)
              obtain ⟨o3, c3, rfl, _, _⟩ := own_form hown3
              clear e1' f1' e2' f2' e3' f3' e4' e5' hat3 hgr3 hb2 hown2 hv2 e6'
              obtain ⟨e1', f1', e2', f2', e3', f3', e4', e5', e6'⟩ := bx3 hb3
              go_wp2
              refine bodyPost_ret (v := .agg #[.slice oL nL cL, .slice o3 (k + 1 + (K.length - k)) c3]) (by simp [results, Tryz.results136, go_sem, e3']) rfl ⟨k, _, Hend.out, rfl, learn_row (N := w.heap.size + 1 + 1 + 1) (b1 := w.heap.size) (b2 := w.heap.size + 1 + 1) hk hown3 hv3 (by omega) (by omega), fun x hx => by have := hv3 x hx; omega, ?_⟩
              exact ((e5'.setCell (by simp) _).setCell (by simp; omega) _).setCell (by simp; omega) _
    · obtain ⟨k, rfl⟩ : ∃ m, k = m + 1 := ⟨k - 1, by omega⟩
      obtain ⟨x, hx⟩ := get_some (l := K) (k := k) (by omega)
      have Hx : Hid (K[k]? = some x) := hx
      obtain ⟨g', hgg, _, c1, c2⟩ := TokR.at hK hx
      simp only [Option.some.injEq, Addr.mk.injEq, and_true] at hgg
      subst hgg
      have hG := Grw.cell wr
      have hGn := Grw.some wr
      have hgr : g < wr.heap.size := by omega
      have hwr : w.heap.size < wr.heap.size := by omega
      have hwr1 : w.heap.size + 1 < wr.heap.size := by omega
      clear hx hk0
      rcases hb : beforeB x t with _ | _
      ·
        have HB : Hid (beforeB x t = false) := hb
        clear hb
        go_wp2_with fail
        refine wp_region_grw (by kernel_rfl) (by kernel_rfl) ?_
        repeat (go_big_quiet_step ((go_at_call 158; exact Calls.grw_of (before_val x t _ HB.out))))
        refine wpQuiet_nil ?_
        rintro _ ⟨y, rfl⟩
        go_wp2_with fail
        go_roundw
        case rel =>
          refine ⟨k, by omega, rfl, ?_, hbel.trans (y.h.mono e6)⟩
          intro j z hj hz
          rcases Nat.lt_or_ge k j with h | h
          · exact Hpos.out j z (by omega) hz
          · obtain rfl : j = k := by omega
            rw [Hx.out] at hz
            simp only [Option.some.injEq] at hz
            rw [← hz]; exact HB.out
        case measure => simp [intOf]
      · have Hend : Hid (IsPos beforeB K t (k + 1)) := ⟨hk, Hpos.out, Or.inr ⟨x, Hx.out, hb⟩⟩
        have HB : Hid (beforeB x t = true) := hb
        clear hb
        go_wp2_with fail
        refine wp_region_grw (by kernel_rfl) (by kernel_rfl) ?_
        repeat (go_big_quiet_step ((go_at_call 158; exact Calls.grw_of (before_val x t _ HB.out))))
        refine wpQuiet_nil ?_
        rintro _ ⟨y, rfl⟩
        have hbel' := hbel.trans (y.h.mono e6)
        clear e1 e2 e3 e4 e5 f1 f2 f3 hG hGn hbel hgr hwr hwr1
        obtain ⟨e1, f1, e2, f2, e3, f3, e4, e5, e6''⟩ := bx3 hbel'
        generalize hkk : k + 1 = q at hk Hend ⊢
        clear hkk Hpos
        go_wp2_with (first | (at_builtin; refine wpList_app (t := 163) _ eTok (by rfl) _ _ (by rfl) (.slice none 0 0) 0 [] (by rfl) (World.ownsRow_nil _ _ _ _) _ q (tokC (K.take q)) (by rfl) ?src ?h63 ?hby ?next))
        case src => exact src_take hK e5 hk
        case h63 => simp only [maxLen]; omega
        case hby => omega
        case next =>
          intro v1 wa hown1 hgr1 hat1
          have hb1 := hbel'.grown hgr1 e6'' (by simp [Value.ownBlock])
          have hv1 := at_ge (N := w.heap.size + 1 + 1 + 1) hat1 (by simp [Value.ownBlock]) e6''
          obtain ⟨o1, c1, rfl, _, _⟩ := own_form hown1
          obtain ⟨e1', f1', e2', f2', e3', f3', e4', e5', e6'⟩ := bx3 hb1
          clear hat1 hgr1
          go_wp2_with (first | (at_builtin; refine wpList_app (t := 163) _ eTok (by rfl) _ _ (by rfl) (.slice o1 q c1) q (tokC (K.take q)) (by rfl) ?own _ 1 (tokC [t]) (by rfl) ?src ?h63 ?hby ?next))
          case own => exact hown1.alloc _
          case src => exact src_new _ [t] rfl
          case h63 => simp only [maxLen]; omega
          case hby => omega
          case next =>
            intro v2 wb hown2 hgr2 hat2
            have hb2 := (hb1.alloc e6' _).grown hgr2 (by simp; omega) hv1
            have hv2 := at_ge (N := w.heap.size + 1 + 1 + 1) hat2 hv1 (by omega)
            obtain ⟨o2, c2, rfl, _, _⟩ := own_form hown2
            clear e1' f1' e2' f2' e3' f3' e4' e5' hat2 hgr2 hb1 hown1 hv1 e6'
            obtain ⟨e1', f1', e2', f2', e3', f3', e4', e5', e6'⟩ := bx3 hb2
            by_cases hck : c = q
            · have hlk : Hid (K.length - q = 0) := by show K.length - q = 0; omega
              go_wp2_with (first | (at_builtin; refine wpList_app (t := 163) _ eTok (by rfl) _ _ (by rfl) (.slice o2 (q + 1) c2) (q + 1) (tokC (K.take q) ++ tokC [t]) (by rfl) hown2 _ (K.length - q) (tokC (K.drop q)) (by rfl) ?src ?h63 ?hby ?next))
              case src => exact src_drop0 (by rw [List.drop_of_length_le (by have := hlk.out; omega)]) hlk.out
              case h63 => simp only [maxLen]; omega
              case hby => omega
              case next =>
                intro v3 wc hown3 hgr3 hat3
                have hb3 := hb2.grown hgr3 e6' hv2
                have hv3 := at_ge (N := w.heap.size + 1 + 1 + 1) hat3 hv2 (by omega)
                obtain ⟨o3, c3, rfl, _, _⟩ := own_form hown3
                clear e1' f1' e2' f2' e3' f3' e4' e5' hat3 hgr3 hb2 hown2 hv2 e6'
                obtain ⟨e1', f1', e2', f2', e3', f3', e4', e5', e6'⟩ := bx3 hb3
                go_wp2
                refine bodyPost_ret (v := .agg #[.slice oL nL cL, .slice o3 (q + 1 + (K.length - q)) c3]) (by simp [results, Tryz.results136, go_sem, e3']) rfl ⟨q, _, Hend.out, rfl, learn_row (N := w.heap.size + 1 + 1 + 1) (b1 := w.heap.size) (b2 := w.heap.size + 1 + 1) hk hown3 hv3 (by omega) (by omega), fun x hx => by have := hv3 x hx; omega, ?_⟩
                exact ((e5'.setCell (by simp) _).setCell (by simp; omega) _).setCell (by simp; omega) _
            ·
              go_wp2_with (first | (at_builtin; refine wpList_app (t := 163) _ eTok (by rfl) _ _ (by rfl) (.slice o2 (q + 1) c2) (q + 1) (tokC (K.take q) ++ tokC [t]) (by rfl) hown2 _ (K.length - q) (tokC (K.drop q)) (by rfl) ?src ?h63 ?hby ?next))
              case src => exact src_drop hK e5' (by omega)
              case h63 => simp only [maxLen]; omega
              case hby => omega
              case next =>
                intro v3 wc hown3 hgr3 hat3
                have hb3 := hb2.grown hgr3 e6' hv2
                have hv3 := at_ge (N := w.heap.size + 1 + 1 + 1) hat3 hv2 (by omega)
                obtain ⟨o3, c3, rfl, _, _⟩ := own_form hown3
                clear e1' f1' e2' f2' e3' f3' e4' e5' hat3 hgr3 hb2 hown2 hv2 e6'
                obtain ⟨e1', f1', e2', f2', e3', f3', e4', e5', e6'⟩ := bx3 hb3
                go_wp2
                refine bodyPost_ret (v := .agg #[.slice oL nL cL, .slice o3 (q + 1 + (K.length - q)) c3]) (by simp [results, Tryz.results136, go_sem, e3']) rfl ⟨q, _, Hend.out, rfl, learn_row (N := w.heap.size + 1 + 1 + 1) (b1 := w.heap.size) (b2 := w.heap.size + 1 + 1) hk hown3 hv3 (by omega) (by omega), fun x hx => by have := hv3 x hx; omega, ?_⟩
                exact ((e5'.setCell (by simp) _).setCell (by simp; omega) _).setCell (by simp; omega) _

set_option maxHeartbeats 400000 in
theorem learn_nil (oL : Option Addr) (nL cL : Nat) (t : Tok) (w : World) :
    Calls Tryz.prog 136 #[.agg #[.slice oL nL cL, .slice none 0 0], tokV t] w fun e w' => ∃ vK', e = .returned (.agg #[.slice oL nL cL, vK']) ∧ TokR w' vK' [t] ∧ (∀ g, vK'.ownBlock = some g → w.heap.size ≤ g) ∧ Below w.heap.size w w' := by
  have hK : TokR w (.slice none 0 0) [] := World.ownsRow_nil _ _ _ _
  have hK3 : ∀ (o1 o2 o3 : Obj), TokR (((w.alloc o1).alloc o2).alloc o3) (.slice none 0 0) [] := fun o1 o2 o3 => World.ownsRow_nil _ _ _ _
  dsimp only [tokV]
  go_enter Tryz.func136, Tryz.ntmps136
  go_wp2_with fail
  refine (knows_any _ _ [] t _ (hK3 _ _ _) (by simp)).mono ?_
  rintro e w1 ⟨rfl, hb⟩
  have hbel : Below (w.heap.size + 1 + 1 + 1) (((w.alloc (.cells #[.slice oL nL cL, .slice none 0 0] 165)).alloc (.cells #[.int .i64 t.1, .int .i64 t.2] 192)).alloc (.cells #[.slice none 0 0, .slice none 0 0] 165)) w1 := by simpa using hb
  clear hb hK3
  obtain ⟨e1, f1, e2, f2, e3, f3, e4, e5, e6⟩ := bx3 hbel
  have hdn : decide (t ∈ ([] : List Tok)) = false := by simp
  go_wp2_with fail
  refine wp_loop_once ?_
  go_wp2_with (first | (at_builtin; refine wpList_app (t := 163) _ eTok (by rfl) _ _ (by rfl) (.slice none 0 0) 0 [] (by rfl) (World.ownsRow_nil _ _ _ _) _ 0 (tokC []) (by rfl) ?src ?h63 ?hby ?next))
  case src => exact ⟨rfl, tokC_one _, Or.inl ⟨rfl, rfl⟩⟩
  case h63 => simp [maxLen]
  case hby => omega
  case next =>
    intro v1 wa hown1 hgr1 hat1
    have hb1 := hbel.grown hgr1 e6 (by simp [Value.ownBlock])
    have hv1 := at_ge (N := w.heap.size + 1 + 1 + 1) hat1 (by simp [Value.ownBlock]) e6
    obtain ⟨o1, c1, rfl, _, _⟩ := own_form hown1
    clear e1 e2 e3 e4 e5 f1 f2 f3 hat1 hgr1
    obtain ⟨e1', f1', e2', f2', e3', f3', e4', e5', e6'⟩ := bx3 hb1
    go_wp2_with (first | (at_builtin; refine wpList_app (t := 163) _ eTok (by rfl) _ _ (by rfl) (.slice o1 0 c1) 0 (tokC []) (by rfl) ?own _ 1 (tokC [t]) (by rfl) ?src ?h63 ?hby ?next))
    case own => exact hown1.alloc _
    case src => exact src_new _ [t] rfl
    case h63 => simp only [maxLen]; omega
    case hby => omega
    case next =>
      intro v2 wb hown2 hgr2 hat2
      have hb2 := (hb1.alloc e6' _).grown hgr2 (by simp; omega) hv1
      have hv2 := at_ge (N := w.heap.size + 1 + 1 + 1) hat2 hv1 (by omega)
      obtain ⟨o2, c2, rfl, _, _⟩ := own_form hown2
      clear e1' f1' e2' f2' e3' f3' e4' e5' hat2 hgr2 hb1 hown1 hv1 e6'
      obtain ⟨e1', f1', e2', f2', e3', f3', e4', e5', e6'⟩ := bx3 hb2
      go_wp2_with (first | (at_builtin; refine wpList_app (t := 163) _ eTok (by rfl) _ _ (by rfl) (.slice o2 1 c2) 1 (tokC [] ++ tokC [t]) (by rfl) hown2 _ 0 (tokC []) (by rfl) ?src ?h63 ?hby ?next))
      case src => exact ⟨rfl, tokC_one _, Or.inl ⟨rfl, rfl⟩⟩
      case h63 => simp only [maxLen]; omega
      case hby => omega
      case next =>
        intro v3 wc hown3 hgr3 hat3
        have hb3 := hb2.grown hgr3 e6' hv2
        have hv3 := at_ge (N := w.heap.size + 1 + 1 + 1) hat3 hv2 (by omega)
        obtain ⟨o3, c3, rfl, _, _⟩ := own_form hown3
        clear e1' f1' e2' f2' e3' f3' e4' e5' hat3 hgr3 hb2 hown2 hv2 e6'
        obtain ⟨e1', f1', e2', f2', e3', f3', e4', e5', e6'⟩ := bx3 hb3
        go_wp2
        refine bodyPost_ret (v := .agg #[.slice oL nL cL, .slice o3 1 c3]) (by simp [results, Tryz.results136, go_sem, e3']) rfl ⟨_, rfl, learn_row (k := 0) (K := []) (N := w.heap.size + 1 + 1 + 1) (b1 := w.heap.size) (b2 := w.heap.size + 1 + 1) (Nat.le_refl _) hown3 hv3 (by omega) (by omega), fun x hx => by have := hv3 x hx; omega, ?_⟩
        exact ((e5'.setCell (by simp) _).setCell (by simp; omega) _).setCell (by simp; omega) _

set_option maxHeartbeats 400000 in
theorem learn_known (oL : Option Addr) (nL cL : Nat) (vK : Value) (K : List Tok) (t : Tok) (w : World) (hK : TokR w vK K) (hbd : K.length ≤ 1000000) (hin : t ∈ K) :
    Calls Tryz.prog 136 #[.agg #[.slice oL nL cL, vK], tokV t] w fun e w' => e = .returned (.agg #[.slice oL nL cL, vK]) ∧ Below w.heap.size w w' := by
  obtain ⟨oK, cK, rfl, _, _⟩ := hK.form
  have hK3 : ∀ (o1 o2 o3 : Obj), TokR (((w.alloc o1).alloc o2).alloc o3) (.slice oK K.length cK) K := fun o1 o2 o3 => ((hK.alloc o1).alloc o2).alloc o3
  dsimp only [tokV]
  go_enter Tryz.func136, Tryz.ntmps136
  go_wp2_with fail
  refine (knows_any _ _ K t _ (hK3 _ _ _) hbd).mono ?_
  rintro e w1 ⟨rfl, hb⟩
  have hbel : Below (w.heap.size + 1 + 1 + 1) (((w.alloc (.cells #[.slice oL nL cL, .slice oK K.length cK] 165)).alloc (.cells #[.int .i64 t.1, .int .i64 t.2] 192)).alloc (.cells #[.slice none 0 0, .slice none 0 0] 165)) w1 := by simpa using hb
  clear hb hK3
  obtain ⟨e1, f1, e2, f2, e3, f3, e4, e5, e6⟩ := bx3 hbel
  have hdn : decide (t ∈ K) = true := by simpa using hin
  go_wp2_with fail
  refine bodyPost_ret (v := .agg #[.slice oL nL cL, .slice oK K.length cK]) (by simp [results, Tryz.results136, go_sem, e3]) rfl ⟨rfl, ?_⟩
  exact (e5.setCell (by simp; omega) _).setCell (by simp; omega) _

theorem learn_any (oL : Option Addr) (nL cL : Nat) (vK : Value) (K : List Tok) (t : Tok) (w : World) (hK : TokR w vK K) (hbd : K.length ≤ 1000000) :
    Calls Tryz.prog 136 #[.agg #[.slice oL nL cL, vK], tokV t] w fun e w' => ∃ vK', e = .returned (.agg #[.slice oL nL cL, vK']) ∧ TokR w' vK' (learnL K t) ∧ (∀ g, vK'.ownBlock = some g → vK.ownBlock = some g ∨ w.heap.size ≤ g) ∧ Below w.heap.size w w' := by
  by_cases hin : t ∈ K
  · refine (learn_known oL nL cL vK K t w hK hbd hin).mono ?_
    rintro e w' ⟨rfl, hb⟩
    exact ⟨vK, rfl, by rw [learnL, if_pos hin]; exact hK.below hb, fun g hg => Or.inl hg, hb⟩
  · rcases hK.2 with ⟨rfl, hz⟩ | ⟨g, c, cur, rfl, _⟩
    · have : K = [] := List.eq_nil_of_length_eq_zero hz
      subst this
      refine (learn_nil oL nL cL t w).mono ?_
      rintro e w' ⟨vK', rfl, h1, h2, h3⟩
      exact ⟨vK', rfl, by simpa [learnL, insB, posB] using h1, fun g hg => Or.inr (h2 g hg), h3⟩
    · refine (learn_new oL nL cL g c K t w hK hbd hin).mono ?_
      rintro e w' ⟨a, vK', ha, rfl, h1, h2, h3⟩
      have hp := isPos_eq _ _ _ _ ha
      exact ⟨vK', rfl, by rw [learnL, if_neg hin, insB, ← hp]; exact h1, fun g hg => Or.inr (h2 g hg), h3⟩
end Go.Proofs.YtnniimfinakioaaGreatDoor
namespace Go.Proofs.YtnniimfinakioaaGreatDoor
open Go.RowKit
attribute [local go_sem ↓] eqTok eqEnt
attribute [local go_sem] toList_nm

/-- The first k tokens of a row that is still there. -/
theorem srcE_take {w wr : World} {g c k : Nat} {K : List Ent} (hK : EntR w (.slice (some ⟨g, 0, none⟩) K.length c) K) (hb : Below w.heap.size w wr) (hk : k ≤ K.length) : Src wr 3 (.slice (some ⟨g, 0, none⟩) k c) k (entC (K.take k)) := by
  refine ⟨by rw [entC_length, List.length_take]; omega, entC_one _, Or.inr ⟨_, _, rfl, fun j u hu => ?_⟩⟩
  rw [World.addr_add, Nat.zero_add, hb.cell (p := ⟨g, j, none⟩) (hK.lt g rfl).2]
  refine own_cell hK rfl ?_
  have : entC K = entC (K.take k) ++ entC (K.drop k) := by rw [← entC_app, List.take_append_drop]
  rw [this, List.getElem?_append_left (by
    rcases Nat.lt_or_ge j (entC (K.take k)).length with h | h
    · exact h
    · rw [List.getElem?_eq_none h] at hu; cases hu)]
  exact hu
theorem srcE_drop {w wr : World} {g c k m c' : Nat} {K : List Ent} (hK : EntR w (.slice (some ⟨g, 0, none⟩) K.length c) K) (hb : Below w.heap.size w wr) (hk : k + m = K.length) : Src wr 3 (.slice (some ⟨g, k * 3, none⟩) m c') m (entC (K.drop k)) := by
  refine ⟨by rw [entC_length, List.length_drop]; omega, entC_one _, Or.inr ⟨_, _, rfl, fun j u hu => ?_⟩⟩
  rw [World.addr_add, hb.cell (p := ⟨g, k * 3 + j, none⟩) (hK.lt g rfl).2]
  refine own_cell hK rfl ?_
  have h1 : entC K = entC (K.take k) ++ entC (K.drop k) := by rw [← entC_app, List.take_append_drop]
  have h2 : (entC (K.take k)).length = k * 3 := by rw [entC_length, List.length_take]; omega
  rw [h1, List.getElem?_append_right (by omega), h2, Nat.add_sub_cancel_left]
  exact hu
theorem ahead_val (a b : Ent) (w : World) {v : Bool} (h : aheadB a b = v) : Calls Tryz.prog 159 #[entV a, entV b] w fun e w' => e = .returned (.bool v) ∧ Below w.heap.size w w' := by
  subst h; exact ahead_any a b w
theorem srcE_drop0 {wr : World} {ad : Addr} {m c' : Nat} {K : List Ent} (hk : K = []) (hm : m = 0) : Src wr 3 (.slice (some ad) m c') m (entC K) := by
  subst hk; subst hm
  exact ⟨rfl, entC_one _, Or.inr ⟨_, _, rfl, fun j u hu => by simp [entC] at hu⟩⟩
theorem put_row {wc : World} {o3 : Option Addr} {c3 k N b1 b2 : Nat} {K : List Ent} {t : Ent} {x y z : Value} {i1 i2 i3 : Nat} (hk : k ≤ K.length)
    (h : wc.ownsRow 0 194 3 (.slice o3 (k + 1 + (K.length - k)) c3) (k + 1 + (K.length - k)) (entC (K.take k) ++ (entC [t] ++ entC (K.drop k))))
    (hv : ∀ g, (Value.slice o3 (k + 1 + (K.length - k)) c3).ownBlock = some g → N ≤ g) (h1 : b1 < N) (h2 : b2 < N) :
    EntR (((wc.setCell ⟨b1, i1, none⟩ x).setCell ⟨b2, i2, none⟩ y).setCell ⟨b2, i3, none⟩ z) (.slice o3 (k + 1 + (K.length - k)) c3) (K.take k ++ t :: K.drop k) := by
  have hl : (K.take k ++ t :: K.drop k).length = k + 1 + (K.length - k) := by simp; omega
  unfold EntR
  rw [hl, entC_app, show t :: K.drop k = [t] ++ K.drop k from rfl, entC_app]
  exact own_mono (ownsRow_setCell_below (ownsRow_setCell_below (ownsRow_setCell_below (own_raise h hv) h1 _) h2 _) h2 _) (Nat.zero_le _)
theorem srcE_new (w : World) (K : List Ent) {n c : Nat} {ty : TypeId} (hn : K.length = n) : Src (w.alloc (.cells (entC K).toArray ty)) 3 (.slice (some ⟨w.heap.size, 0, none⟩) n c) n (entC K) := by
  refine ⟨by rw [entC_length, hn], entC_one _, Or.inr ⟨_, _, rfl, ?_⟩⟩
  exact World.news_of_block (cs := (entC K).toArray) (heap_alloc_new w _)

set_option maxHeartbeats 400000 in
theorem put_new (oL : Option Addr) (nL cL g c : Nat) (K : List Ent) (t : Ent) (w : World) (hK : EntR w (.slice (some ⟨g, 0, none⟩) K.length c) K) (hbd : K.length ≤ 1000000) :
    Calls Tryz.prog 137 #[.agg #[.slice (some ⟨g, 0, none⟩) K.length c, .slice oL nL cL], entV t] w fun e w' => ∃ a vK', IsPos aheadB K t a ∧ e = .returned (.agg #[vK', .slice oL nL cL]) ∧ EntR w' vK' (K.take a ++ t :: K.drop a) ∧ (∀ g, vK'.ownBlock = some g → w.heap.size ≤ g) ∧ Below w.heap.size w w' := by
  have hg : g < w.heap.size := (hK.lt g rfl).2
  have hcap : K.length ≤ c := own_cap hK
  dsimp only [entV]
  go_enter Tryz.func137, Tryz.ntmps137
  go_wp2_with fail
  go_loopw [5] (fun i wr => ∃ k : Nat, k ≤ K.length ∧ i = .int .i64 k ∧ (∀ j x, k ≤ j → K[j]? = some x → aheadB x t = false) ∧ Below (w.heap.size + 1 + 1 + 1) (((w.alloc (.cells #[.slice (some ⟨g, 0, none⟩) K.length c, .slice oL nL cL] 165)).alloc (.cells #[strV t.1, .int .i64 t.2.1, .int .i64 t.2.2] 194)).alloc (.cells #[.slice none 0 0, .slice none 0 0] 165)) wr) (fun i _ => (intOf i).toNat)
  case atStart =>
    refine ⟨K.length, Nat.le_refl _, rfl, ?_, Below.refl _ _⟩
    intro j x hj hx
    rw [List.getElem?_eq_none hj] at hx
    cases hx
  case round =>
    obtain ⟨k, hk, rfl, hpos, hbel⟩ := hrel
    have Hpos : Hid (∀ j x, k ≤ j → K[j]? = some x → aheadB x t = false) := hpos
    clear hpos
    obtain ⟨e1, f1, e2, f2, e3, f3, e4, e5, e6⟩ := bx3 hbel
    by_cases hk0 : k = 0
    · have hpos0 : ¬ (0 : Int) < (k : Int) := by omega
      have Hend : Hid (IsPos aheadB K t k) := ⟨hk, Hpos.out, Or.inl hk0⟩
      clear hk0
      go_wp2_with (first | (at_builtin; refine wpList_app (t := 162) _ eEnt (by rfl) _ _ (by rfl) (.slice none 0 0) 0 [] (by rfl) (World.ownsRow_nil _ _ _ _) _ k (entC (K.take k)) (by rfl) ?src ?h63 ?hby ?next))
      case src => exact srcE_take hK e5 hk
      case h63 => simp only [maxLen]; omega
      case hby => omega
      case next =>
        intro v1 wa hown1 hgr1 hat1
        have hb1 := hbel.grown hgr1 e6 (by simp [Value.ownBlock])
        have hv1 := at_ge (N := w.heap.size + 1 + 1 + 1) hat1 (by simp [Value.ownBlock]) e6
        obtain ⟨o1, c1, rfl, _, _⟩ := own_form hown1
        obtain ⟨e1', f1', e2', f2', e3', f3', e4', e5', e6'⟩ := bx3 hb1
        clear hat1 hgr1
        go_wp2_with (first | (at_builtin; refine wpList_app (t := 162) _ eEnt (by rfl) _ _ (by rfl) (.slice o1 k c1) k (entC (K.take k)) (by rfl) ?own _ 1 (entC [t]) (by rfl) ?src ?h63 ?hby ?next))
        case own => exact hown1.alloc _
        case src => exact srcE_new _ [t] rfl
        case h63 => simp only [maxLen]; omega
        case hby => omega
        case next =>
          intro v2 wb hown2 hgr2 hat2
          have hb2 := (hb1.alloc e6' _).grown hgr2 (by simp; omega) hv1
          have hv2 := at_ge (N := w.heap.size + 1 + 1 + 1) hat2 hv1 (by omega)
          obtain ⟨o2, c2, rfl, _, _⟩ := own_form hown2
          clear e1' f1' e2' f2' e3' f3' e4' e5' hat2 hgr2 hb1 hown1 hv1 e6'
          obtain ⟨e1', f1', e2', f2', e3', f3', e4', e5', e6'⟩ := bx3 hb2
          by_cases hck : c = k
          · have hlk : Hid (K.length - k = 0) := by show K.length - k = 0; omega
            go_wp2_with (first | (at_builtin; refine wpList_app (t := 162) _ eEnt (by rfl) _ _ (by rfl) (.slice o2 (k + 1) c2) (k + 1) (entC (K.take k) ++ entC [t]) (by rfl) hown2 _ (K.length - k) (entC (K.drop k)) (by rfl) ?src ?h63 ?hby ?next))
            case src => exact srcE_drop0 (by rw [List.drop_of_length_le (by have := hlk.out; omega)]) hlk.out
            case h63 => simp only [maxLen]; omega
            case hby => omega
            case next =>
              intro v3 wc hown3 hgr3 hat3
              have hb3 := hb2.grown hgr3 e6' hv2
              have hv3 := at_ge (N := w.heap.size + 1 + 1 + 1) hat3 hv2 (by omega)
              obtain ⟨o3, c3, rfl, _, _⟩ := own_form hown3
              clear e1' f1' e2' f2' e3' f3' e4' e5' hat3 hgr3 hb2 hown2 hv2 e6'
              obtain ⟨e1', f1', e2', f2', e3', f3', e4', e5', e6'⟩ := bx3 hb3
              go_wp2
              refine bodyPost_ret (v := .agg #[.slice o3 (k + 1 + (K.length - k)) c3, .slice oL nL cL]) (by simp [results, Tryz.results137, go_sem, e3']) rfl ⟨k, _, Hend.out, rfl, put_row (N := w.heap.size + 1 + 1 + 1) (b1 := w.heap.size) (b2 := w.heap.size + 1 + 1) hk hown3 hv3 (by omega) (by omega), fun x hx => by have := hv3 x hx; omega, ?_⟩
              exact ((e5'.setCell (by simp) _).setCell (by simp; omega) _).setCell (by simp; omega) _
          ·
            go_wp2_with (first | (at_builtin; refine wpList_app (t := 162) _ eEnt (by rfl) _ _ (by rfl) (.slice o2 (k + 1) c2) (k + 1) (entC (K.take k) ++ entC [t]) (by rfl) hown2 _ (K.length - k) (entC (K.drop k)) (by rfl) ?src ?h63 ?hby ?next))
            case src => exact srcE_drop hK e5' (by omega)
            case h63 => simp only [maxLen]; omega
            case hby => omega
            case next =>
              intro v3 wc hown3 hgr3 hat3
              have hb3 := hb2.grown hgr3 e6' hv2
              have hv3 := at_ge (N := w.heap.size + 1 + 1 + 1) hat3 hv2 (by omega)
              obtain ⟨o3, c3, rfl, _, _⟩ := own_form hown3
              clear e1' f1' e2' f2' e3' f3' e4' e5' hat3 hgr3 hb2 hown2 hv2 e6'
              obtain ⟨e1', f1', e2', f2', e3', f3', e4', e5', e6'⟩ := bx3 hb3
              go_wp2
              refine bodyPost_ret (v := .agg #[.slice o3 (k + 1 + (K.length - k)) c3, .slice oL nL cL]) (by simp [results, Tryz.results137, go_sem, e3']) rfl ⟨k, _, Hend.out, rfl, put_row (N := w.heap.size + 1 + 1 + 1) (b1 := w.heap.size) (b2 := w.heap.size + 1 + 1) hk hown3 hv3 (by omega) (by omega), fun x hx => by have := hv3 x hx; omega, ?_⟩
              exact ((e5'.setCell (by simp) _).setCell (by simp; omega) _).setCell (by simp; omega) _
    · obtain ⟨k, rfl⟩ : ∃ m, k = m + 1 := ⟨k - 1, by omega⟩
      obtain ⟨x, hx⟩ := get_some (l := K) (k := k) (by omega)
      have Hx : Hid (K[k]? = some x) := hx
      obtain ⟨g', hgg, _, c1, c2, c3⟩ := EntR.at hK hx
      simp only [Option.some.injEq, Addr.mk.injEq, and_true] at hgg
      subst hgg
      have hG := Grw.cell wr
      have hGn := Grw.some wr
      have hgr : g < wr.heap.size := by omega
      have hwr : w.heap.size < wr.heap.size := by omega
      have hwr1 : w.heap.size + 1 < wr.heap.size := by omega
      clear hx hk0
      rcases hb : aheadB x t with _ | _
      ·
        have HB : Hid (aheadB x t = false) := hb
        clear hb
        go_wp2_with fail
        refine wp_region_grw (by kernel_rfl) (by kernel_rfl) ?_
        repeat (go_big_quiet_step ((go_at_call 159; exact Calls.grw_of (ahead_val x t _ HB.out))))
        refine wpQuiet_nil ?_
        rintro _ ⟨y, rfl⟩
        go_wp2_with fail
        go_roundw
        case rel =>
          refine ⟨k, by omega, rfl, ?_, hbel.trans (y.h.mono e6)⟩
          intro j z hj hz
          rcases Nat.lt_or_ge k j with h | h
          · exact Hpos.out j z (by omega) hz
          · obtain rfl : j = k := by omega
            rw [Hx.out] at hz
            simp only [Option.some.injEq] at hz
            rw [← hz]; exact HB.out
        case measure => simp [intOf]
      · have Hend : Hid (IsPos aheadB K t (k + 1)) := ⟨hk, Hpos.out, Or.inr ⟨x, Hx.out, hb⟩⟩
        have HB : Hid (aheadB x t = true) := hb
        clear hb
        go_wp2_with fail
        refine wp_region_grw (by kernel_rfl) (by kernel_rfl) ?_
        repeat (go_big_quiet_step ((go_at_call 159; exact Calls.grw_of (ahead_val x t _ HB.out))))
        refine wpQuiet_nil ?_
        rintro _ ⟨y, rfl⟩
        have hbel' := hbel.trans (y.h.mono e6)
        clear e1 e2 e3 e4 e5 f1 f2 f3 hG hGn hbel hgr hwr hwr1
        obtain ⟨e1, f1, e2, f2, e3, f3, e4, e5, e6''⟩ := bx3 hbel'
        generalize hkk : k + 1 = q at hk Hend ⊢
        clear hkk Hpos
        go_wp2_with (first | (at_builtin; refine wpList_app (t := 162) _ eEnt (by rfl) _ _ (by rfl) (.slice none 0 0) 0 [] (by rfl) (World.ownsRow_nil _ _ _ _) _ q (entC (K.take q)) (by rfl) ?src ?h63 ?hby ?next))
        case src => exact srcE_take hK e5 hk
        case h63 => simp only [maxLen]; omega
        case hby => omega
        case next =>
          intro v1 wa hown1 hgr1 hat1
          have hb1 := hbel'.grown hgr1 e6'' (by simp [Value.ownBlock])
          have hv1 := at_ge (N := w.heap.size + 1 + 1 + 1) hat1 (by simp [Value.ownBlock]) e6''
          obtain ⟨o1, c1, rfl, _, _⟩ := own_form hown1
          obtain ⟨e1', f1', e2', f2', e3', f3', e4', e5', e6'⟩ := bx3 hb1
          clear hat1 hgr1
          go_wp2_with (first | (at_builtin; refine wpList_app (t := 162) _ eEnt (by rfl) _ _ (by rfl) (.slice o1 q c1) q (entC (K.take q)) (by rfl) ?own _ 1 (entC [t]) (by rfl) ?src ?h63 ?hby ?next))
          case own => exact hown1.alloc _
          case src => exact srcE_new _ [t] rfl
          case h63 => simp only [maxLen]; omega
          case hby => omega
          case next =>
            intro v2 wb hown2 hgr2 hat2
            have hb2 := (hb1.alloc e6' _).grown hgr2 (by simp; omega) hv1
            have hv2 := at_ge (N := w.heap.size + 1 + 1 + 1) hat2 hv1 (by omega)
            obtain ⟨o2, c2, rfl, _, _⟩ := own_form hown2
            clear e1' f1' e2' f2' e3' f3' e4' e5' hat2 hgr2 hb1 hown1 hv1 e6'
            obtain ⟨e1', f1', e2', f2', e3', f3', e4', e5', e6'⟩ := bx3 hb2
            by_cases hck : c = q
            · have hlk : Hid (K.length - q = 0) := by show K.length - q = 0; omega
              go_wp2_with (first | (at_builtin; refine wpList_app (t := 162) _ eEnt (by rfl) _ _ (by rfl) (.slice o2 (q + 1) c2) (q + 1) (entC (K.take q) ++ entC [t]) (by rfl) hown2 _ (K.length - q) (entC (K.drop q)) (by rfl) ?src ?h63 ?hby ?next))
              case src => exact srcE_drop0 (by rw [List.drop_of_length_le (by have := hlk.out; omega)]) hlk.out
              case h63 => simp only [maxLen]; omega
              case hby => omega
              case next =>
                intro v3 wc hown3 hgr3 hat3
                have hb3 := hb2.grown hgr3 e6' hv2
                have hv3 := at_ge (N := w.heap.size + 1 + 1 + 1) hat3 hv2 (by omega)
                obtain ⟨o3, c3, rfl, _, _⟩ := own_form hown3
                clear e1' f1' e2' f2' e3' f3' e4' e5' hat3 hgr3 hb2 hown2 hv2 e6'
                obtain ⟨e1', f1', e2', f2', e3', f3', e4', e5', e6'⟩ := bx3 hb3
                go_wp2
                refine bodyPost_ret (v := .agg #[.slice o3 (q + 1 + (K.length - q)) c3, .slice oL nL cL]) (by simp [results, Tryz.results137, go_sem, e3']) rfl ⟨q, _, Hend.out, rfl, put_row (N := w.heap.size + 1 + 1 + 1) (b1 := w.heap.size) (b2 := w.heap.size + 1 + 1) hk hown3 hv3 (by omega) (by omega), fun x hx => by have := hv3 x hx; omega, ?_⟩
                exact ((e5'.setCell (by simp) _).setCell (by simp; omega) _).setCell (by simp; omega) _
            ·
              go_wp2_with (first | (at_builtin; refine wpList_app (t := 162) _ eEnt (by rfl) _ _ (by rfl) (.slice o2 (q + 1) c2) (q + 1) (entC (K.take q) ++ entC [t]) (by rfl) hown2 _ (K.length - q) (entC (K.drop q)) (by rfl) ?src ?h63 ?hby ?next))
              case src => exact srcE_drop hK e5' (by omega)
              case h63 => simp only [maxLen]; omega
              case hby => omega
              case next =>
                intro v3 wc hown3 hgr3 hat3
                have hb3 := hb2.grown hgr3 e6' hv2
                have hv3 := at_ge (N := w.heap.size + 1 + 1 + 1) hat3 hv2 (by omega)
                obtain ⟨o3, c3, rfl, _, _⟩ := own_form hown3
                clear e1' f1' e2' f2' e3' f3' e4' e5' hat3 hgr3 hb2 hown2 hv2 e6'
                obtain ⟨e1', f1', e2', f2', e3', f3', e4', e5', e6'⟩ := bx3 hb3
                go_wp2
                refine bodyPost_ret (v := .agg #[.slice o3 (q + 1 + (K.length - q)) c3, .slice oL nL cL]) (by simp [results, Tryz.results137, go_sem, e3']) rfl ⟨q, _, Hend.out, rfl, put_row (N := w.heap.size + 1 + 1 + 1) (b1 := w.heap.size) (b2 := w.heap.size + 1 + 1) hk hown3 hv3 (by omega) (by omega), fun x hx => by have := hv3 x hx; omega, ?_⟩
                exact ((e5'.setCell (by simp) _).setCell (by simp; omega) _).setCell (by simp; omega) _

set_option maxHeartbeats 400000 in
theorem put_nil (oL : Option Addr) (nL cL : Nat) (t : Ent) (w : World) :
    Calls Tryz.prog 137 #[.agg #[.slice none 0 0, .slice oL nL cL], entV t] w fun e w' => ∃ vK', e = .returned (.agg #[vK', .slice oL nL cL]) ∧ EntR w' vK' [t] ∧ (∀ g, vK'.ownBlock = some g → w.heap.size ≤ g) ∧ Below w.heap.size w w' := by
  have hK : EntR w (.slice none 0 0) [] := World.ownsRow_nil _ _ _ _
  dsimp only [entV]
  go_enter Tryz.func137, Tryz.ntmps137
  go_wp2_with fail
  have hbel := Below.refl (w.heap.size + 1 + 1 + 1) (((w.alloc (.cells #[.slice none 0 0, .slice oL nL cL] 165)).alloc (.cells #[strV t.1, .int .i64 t.2.1, .int .i64 t.2.2] 194)).alloc (.cells #[.slice none 0 0, .slice none 0 0] 165))
  obtain ⟨e1, f1, e2, f2, e3, f3, e4, e5, e6⟩ := bx3 hbel
  refine wp_loop_once ?_
  go_wp2_with (first | (at_builtin; refine wpList_app (t := 162) _ eEnt (by rfl) _ _ (by rfl) (.slice none 0 0) 0 [] (by rfl) (World.ownsRow_nil _ _ _ _) _ 0 (entC []) (by rfl) ?src ?h63 ?hby ?next))
  case src => exact ⟨rfl, entC_one _, Or.inl ⟨rfl, rfl⟩⟩
  case h63 => simp [maxLen]
  case hby => omega
  case next =>
    intro v1 wa hown1 hgr1 hat1
    have hb1 := hbel.grown hgr1 e6 (by simp [Value.ownBlock])
    have hv1 := at_ge (N := w.heap.size + 1 + 1 + 1) hat1 (by simp [Value.ownBlock]) (Nat.le_refl _)
    obtain ⟨o1, c1, rfl, _, _⟩ := own_form hown1
    clear e1 e2 e3 e4 e5 f1 f2 f3 hat1 hgr1
    obtain ⟨e1', f1', e2', f2', e3', f3', e4', e5', e6'⟩ := bx3 hb1
    go_wp2_with (first | (at_builtin; refine wpList_app (t := 162) _ eEnt (by rfl) _ _ (by rfl) (.slice o1 0 c1) 0 (entC []) (by rfl) ?own _ 1 (entC [t]) (by rfl) ?src ?h63 ?hby ?next))
    case own => exact hown1.alloc _
    case src => exact srcE_new _ [t] rfl
    case h63 => simp only [maxLen]; omega
    case hby => omega
    case next =>
      intro v2 wb hown2 hgr2 hat2
      have hb2 := (hb1.alloc e6' _).grown hgr2 (by simp; omega) hv1
      have hv2 := at_ge (N := w.heap.size + 1 + 1 + 1) hat2 hv1 (by omega)
      obtain ⟨o2, c2, rfl, _, _⟩ := own_form hown2
      clear e1' f1' e2' f2' e3' f3' e4' e5' hat2 hgr2 hb1 hown1 hv1 e6'
      obtain ⟨e1', f1', e2', f2', e3', f3', e4', e5', e6'⟩ := bx3 hb2
      go_wp2_with (first | (at_builtin; refine wpList_app (t := 162) _ eEnt (by rfl) _ _ (by rfl) (.slice o2 1 c2) 1 (entC [] ++ entC [t]) (by rfl) hown2 _ 0 (entC []) (by rfl) ?src ?h63 ?hby ?next))
      case src => exact ⟨rfl, entC_one _, Or.inl ⟨rfl, rfl⟩⟩
      case h63 => simp only [maxLen]; omega
      case hby => omega
      case next =>
        intro v3 wc hown3 hgr3 hat3
        have hb3 := hb2.grown hgr3 e6' hv2
        have hv3 := at_ge (N := w.heap.size + 1 + 1 + 1) hat3 hv2 (by omega)
        obtain ⟨o3, c3, rfl, _, _⟩ := own_form hown3
        clear e1' f1' e2' f2' e3' f3' e4' e5' hat3 hgr3 hb2 hown2 hv2 e6'
        obtain ⟨e1', f1', e2', f2', e3', f3', e4', e5', e6'⟩ := bx3 hb3
        go_wp2
        refine bodyPost_ret (v := .agg #[.slice o3 1 c3, .slice oL nL cL]) (by simp [results, Tryz.results137, go_sem, e3']) rfl ⟨_, rfl, put_row (k := 0) (K := []) (N := w.heap.size + 1 + 1 + 1) (b1 := w.heap.size) (b2 := w.heap.size + 1 + 1) (Nat.le_refl _) hown3 hv3 (by omega) (by omega), fun x hx => by have := hv3 x hx; omega, ?_⟩
        exact ((e5'.setCell (by simp) _).setCell (by simp; omega) _).setCell (by simp; omega) _

theorem put_any (oL : Option Addr) (nL cL : Nat) (vK : Value) (K : List Ent) (t : Ent) (w : World) (hK : EntR w vK K) (hbd : K.length ≤ 1000000) :
    Calls Tryz.prog 137 #[.agg #[vK, .slice oL nL cL], entV t] w fun e w' => ∃ vK', e = .returned (.agg #[vK', .slice oL nL cL]) ∧ EntR w' vK' (insB aheadB K t) ∧ (∀ g, vK'.ownBlock = some g → w.heap.size ≤ g) ∧ Below w.heap.size w w' := by
  rcases hK.2 with ⟨rfl, hz⟩ | ⟨g, c, cur, rfl, _⟩
  · have : K = [] := List.eq_nil_of_length_eq_zero hz
    subst this
    refine (put_nil oL nL cL t w).mono ?_
    rintro e w' ⟨vK', rfl, h1, h2, h3⟩
    exact ⟨vK', rfl, by simpa [insB, posB] using h1, h2, h3⟩
  · refine (put_new oL nL cL g c K t w hK hbd).mono ?_
    rintro e w' ⟨a, vK', ha, rfl, h1, h2, h3⟩
    have hp := isPos_eq _ _ _ _ ha
    exact ⟨vK', rfl, by rw [insB, ← hp]; exact h1, h2, h3⟩
end Go.Proofs.YtnniimfinakioaaGreatDoor
namespace Go.Proofs.YtnniimfinakioaaGreatDoor
open Go.RowKit
attribute [local go_sem ↓] eqTok eqEnt
attribute [local go_sem] toList_nm

theorem setCell_row {w : World} {b j : Nat} {c : Array Value} {t : TypeId} {fz : Nat × Nat} (h : w.heap[b]? = some (.cells c t fz)) (v : Value) : (w.setCell ⟨b, j, none⟩ v).heap[b]? = some (.cells (c.setIfInBounds j v) t fz) := by
  simp [World.setCell, Array.getElem?_modify, h]

/-- The world while 'joined' makes its piece: the two arguments and the result lie boxed; what is made so far lies in the fourth block. -/
structure JSt (w : World) (ca cb : Array Value) (vL vK : Value) (L : List Ent) (K : List Tok) (wr : World) : Prop where
  bel : Below (w.heap.size + 1 + 1 + 1) (((w.alloc (.cells ca 165)).alloc (.cells cb 165)).alloc (.cells #[.slice none 0 0, .slice none 0 0] 165)) wr
  out : wr.heap[w.heap.size + 1 + 1 + 1]? = some (.cells #[vL, vK] 165 (0, 0))
  rowL : EntR wr vL L
  rowK : TokR wr vK K
  newL : ∀ g, vL.ownBlock = some g → w.heap.size + 1 + 1 + 1 + 1 ≤ g
  newK : ∀ g, vK.ownBlock = some g → w.heap.size + 1 + 1 + 1 + 1 ≤ g

theorem lt_of_heap {w : World} {b : Nat} {x : Obj} (h : w.heap[b]? = some x) : b < w.heap.size := (Array.getElem?_eq_some_iff.1 h).1

theorem JSt.set {w wr w1 : World} {ca cb : Array Value} {vL vK vL' vK' : Value} {L L' : List Ent} {K K' : List Tok} (h : JSt w ca cb vL vK L K wr) (hb : Below wr.heap.size wr w1)
    (hL : EntR w1 vL' L') (hK : TokR w1 vK' K') (nL : ∀ g, vL'.ownBlock = some g → vL.ownBlock = some g ∨ wr.heap.size ≤ g) (nK : ∀ g, vK'.ownBlock = some g → vK.ownBlock = some g ∨ wr.heap.size ≤ g) :
    JSt w ca cb vL' vK' L' K' ((w1.setCell ⟨w.heap.size + 1 + 1 + 1, 0, none⟩ vL').setCell ⟨w.heap.size + 1 + 1 + 1, 1, none⟩ vK') := by
  have hlt := lt_of_heap h.out
  have nL' : ∀ g, vL'.ownBlock = some g → w.heap.size + 1 + 1 + 1 + 1 ≤ g := fun g hg => by
    rcases nL g hg with x | x
    · exact h.newL g x
    · omega
  have nK' : ∀ g, vK'.ownBlock = some g → w.heap.size + 1 + 1 + 1 + 1 ≤ g := fun g hg => by
    rcases nK g hg with x | x
    · exact h.newK g x
    · omega
  have hout : w1.heap[w.heap.size + 1 + 1 + 1]? = some (.cells #[vL, vK] 165 (0, 0)) := (hb.block _ hlt).trans h.out
  refine ⟨((h.bel.trans (hb.mono (by omega))).setCell (by simp) _).setCell (by simp) _, ?_, ?_, ?_, nL', nK'⟩
  · have := setCell_row (j := 1) (setCell_row (j := 0) hout vL') vK'
    simpa using this
  · exact own_mono (ownsRow_setCell_below (ownsRow_setCell_below (own_raise hL nL') (Nat.lt_succ_self _) _) (Nat.lt_succ_self _) _) (Nat.zero_le _)
  · exact own_mono (ownsRow_setCell_below (ownsRow_setCell_below (own_raise hK nK') (Nat.lt_succ_self _) _) (Nat.lt_succ_self _) _) (Nat.zero_le _)

theorem JSt.below {w wr w1 : World} {ca cb : Array Value} {vL vK : Value} {L : List Ent} {K : List Tok} (h : JSt w ca cb vL vK L K wr) (hb : Below wr.heap.size wr w1) : JSt w ca cb vL vK L K w1 := by
  have h3 := h.bel.size
  simp at h3
  exact ⟨h.bel.trans (hb.mono (by omega)), (hb.block _ (lt_of_heap h.out)).trans h.out, h.rowL.below hb, h.rowK.below hb, h.newL, h.newK⟩
theorem JSt.out_below {w wr w1 : World} {ca cb : Array Value} {vL vK : Value} {L : List Ent} {K : List Tok} (h : JSt w ca cb vL vK L K wr) (hb : Below wr.heap.size wr w1) : w1.heap[w.heap.size + 1 + 1 + 1]? = some (.cells #[vL, vK] 165 (0, 0)) :=
  (h.below hb).out
theorem JSt.start (w : World) (ca cb : Array Value) : JSt w ca cb (.slice none 0 0) (.slice none 0 0) [] [] ((((w.alloc (.cells ca 165)).alloc (.cells cb 165)).alloc (.cells #[.slice none 0 0, .slice none 0 0] 165)).alloc (.cells #[.slice none 0 0, .slice none 0 0] 165)) := by
  refine ⟨(Below.refl _ _).alloc (by simp) _, ?_, World.ownsRow_nil _ _ _ _, World.ownsRow_nil _ _ _ _, by simp [Value.ownBlock], by simp [Value.ownBlock]⟩
  have := heap_alloc_new (((w.alloc (.cells ca 165)).alloc (.cells cb 165)).alloc (.cells #[.slice none 0 0, .slice none 0 0] 165)) (.cells #[.slice none 0 0, .slice none 0 0] 165)
  simpa using this

def keepA (bL : List Ent) (bK : List Tok) (e : Ent) : Bool := decide (e ∈ bL) || !decide (e.2 ∈ bK)
def putIf (p : Ent → Bool) (acc : List Ent) (e : Ent) : List Ent := if p e then insB aheadB acc e else acc
def joinK (aK bK : List Tok) : List Tok := bK.foldl learnL (aK.foldl learnL [])
def joinL (aL : List Ent) (aK : List Tok) (bL : List Ent) (bK : List Tok) : List Ent := bL.foldl (putIf fun e => !decide (e.2 ∈ aK)) (aL.foldl (putIf (keepA bL bK)) [])

theorem has_val (vL vK : Value) (ts : List Ent) (t : Ent) (w : World) (hL : EntR w vL ts) (hbd : ts.length ≤ 1000000) {v : Bool} (h : decide (t ∈ ts) = v) :
    Calls Tryz.prog 177 #[.agg #[vL, vK], entV t] w fun e w' => e = .returned (.bool v) ∧ Below w.heap.size w w' := by
  subst h; exact has_any vL vK ts t w hL hbd
theorem knows_val (vL vK : Value) (ts : List Tok) (t : Tok) (w : World) (hL : TokR w vK ts) (hbd : ts.length ≤ 1000000) {v : Bool} (h : decide (t ∈ ts) = v) :
    Calls Tryz.prog 157 #[.agg #[vL, vK], tokV t] w fun e w' => e = .returned (.bool v) ∧ Below w.heap.size w w' := by
  subst h; exact knows_any vL vK ts t w hL hbd
theorem foldl_take {α β : Type} (f : β → α → β) (acc : β) (l : List α) (k : Nat) (x : α) (h : l[k]? = some x) : (l.take (k + 1)).foldl f acc = f ((l.take k).foldl f acc) x := by
  rw [take_snoc' h, List.foldl_append]; rfl
theorem fold_learn_len (l : List Tok) : ∀ acc : List Tok, (l.foldl learnL acc).length ≤ acc.length + l.length := by
  induction l with
  | nil => intro acc; simp
  | cons x l ih => intro acc; have := ih (learnL acc x); have := learnL_length acc x; simp only [List.foldl_cons, List.length_cons]; omega
theorem fold_put_len (p : Ent → Bool) (l : List Ent) : ∀ acc : List Ent, (l.foldl (putIf p) acc).length ≤ acc.length + l.length := by
  induction l with
  | nil => intro acc; simp
  | cons x l ih =>
    intro acc
    have := ih (putIf p acc x)
    have h2 : (putIf p acc x).length ≤ acc.length + 1 := by
      unfold putIf; split
      · rw [insB_length]; omega
      · omega
    simp only [List.foldl_cons, List.length_cons]; omega

set_option maxHeartbeats 1000000 in
set_option maxRecDepth 100000 in
theorem joined_any (vaL vaK vbL vbK : Value) (aL bL : List Ent) (aK bK : List Tok) (w : World) (haL : EntR w vaL aL) (haK : TokR w vaK aK) (hbL : EntR w vbL bL) (hbK : TokR w vbK bK)
    (h1 : aL.length ≤ 100000) (h2 : aK.length ≤ 100000) (h3 : bL.length ≤ 100000) (h4 : bK.length ≤ 100000) :
    Calls Tryz.prog 160 #[.agg #[vaL, vaK], .agg #[vbL, vbK]] w fun e w' => ∃ vL vK, e = .returned (.agg #[vL, vK]) ∧ EntR w' vL (joinL aL aK bL bK) ∧ TokR w' vK (joinK aK bK) ∧ (∀ g, vL.ownBlock = some g → w.heap.size ≤ g) ∧ (∀ g, vK.ownBlock = some g → w.heap.size ≤ g) ∧ Below w.heap.size w w' := by
  obtain ⟨oaL, caL, rfl, _, _⟩ := haL.form
  obtain ⟨oaK, caK, rfl, _, _⟩ := haK.form
  obtain ⟨obL, cbL, rfl, _, _⟩ := hbL.form
  obtain ⟨obK, cbK, rfl, _, _⟩ := hbK.form
  go_enter Tryz.func160, Tryz.ntmps160
  go_wp2_with fail
  go_loopw [6] (fun i wr => ∃ (k : Nat) (vK : Value), k ≤ aK.length ∧ i = .int .i64 k ∧ JSt w #[.slice oaL aL.length caL, .slice oaK aK.length caK] #[.slice obL bL.length cbL, .slice obK bK.length cbK] (.slice none 0 0) vK [] ((aK.take k).foldl learnL []) wr) (fun i _ => aK.length - (intOf i).toNat)
  case atStart => exact ⟨0, _, Nat.zero_le _, rfl, JSt.start _ _ _⟩
  case round =>
    obtain ⟨k, vK, hk, rfl, hj⟩ := hrel
    have hlen := fold_learn_len (aK.take k) []
    have hlen2 := List.length_take_le k aK
    simp only [List.length_nil, Nat.zero_add] at hlen
    by_cases hlt : k < aK.length
    ·
      generalize hK : (aK.take k).foldl learnL [] = K at *
      have HK := hide hK
      clear hK
      obtain ⟨oK, cK, rfl, _, _⟩ := hj.rowK.form
      obtain ⟨e1, f1, e2, f2, e3, f3, e4, e5, e6⟩ := bx3 hj.bel
      obtain ⟨o1, o2⟩ := row_facts hj.out
      obtain ⟨x, hx⟩ := get_some hlt
      have Hx := hide hx
      obtain ⟨g, rfl, hg, c1, c2⟩ := haK.at hx
      clear hx
      go_wp2_with fail
      go_still_tail 6, (by kernel_rfl)
      go_wp2_with fail
      refine (learn_any none 0 0 _ K x wr.drew hj.rowK (by omega)).mono ?_
      rintro e w1 ⟨vK', rfl, hT, hv, hb⟩
      have hb' : Below wr.heap.size wr w1 := ⟨hb.os, hb.tape, hb.output, hb.size, hb.block⟩
      obtain ⟨oK', cK', rfl, _, _⟩ := hT.form
      clear e1 e2 e3 e4 e5 f1 f2 f3 o1 o2 hb
      obtain ⟨o1, o2⟩ := row_facts (hj.out_below hb')
      go_wp2_with fail
      go_roundw
      case rel =>
        refine ⟨k + 1, .slice oK' (learnL K x).length cK', by omega, by go_num, ?_⟩
        rw [foldl_take learnL [] aK k x Hx.out, HK.out]
        exact hj.set hb' (hj.rowL.below hb') hT (fun g hg => Or.inl hg) hv
      case measure => simp [intOf]; omega
    · have hka : k = aK.length := by omega
      subst hka
      rw [List.take_of_length_le (Nat.le_refl _)] at hj hlen
      obtain ⟨oK, cK, rfl, _, _⟩ := hj.rowK.form
      generalize hA : aK.foldl learnL [] = A at *
      have HA := hide hA
      clear hA
      obtain ⟨e1, f1, e2, f2, e3, f3, e4, e5, e6⟩ := bx3 hj.bel
      obtain ⟨o1, o2⟩ := row_facts hj.out
      go_wp2_with fail
      clear e1 e2 e3 e4 e5 f1 f2 f3 o1 o2
      go_loopw [7] (fun i wr => ∃ (k : Nat) (vK : Value), k ≤ bK.length ∧ i = .int .i64 k ∧ JSt w #[.slice oaL aL.length caL, .slice oaK aK.length caK] #[.slice obL bL.length cbL, .slice obK bK.length cbK] (.slice none 0 0) vK [] ((bK.take k).foldl learnL A) wr) (fun i _ => bK.length - (intOf i).toNat)
      case atStart => exact ⟨0, _, Nat.zero_le _, rfl, hj⟩
      case round =>
        clear hj
        obtain ⟨k, vK, hk, rfl, hj⟩ := hrel
        have hlen := fold_learn_len (bK.take k) A
        have hlen2 := List.length_take_le k bK
        by_cases hlt : k < bK.length
        ·
          generalize hK : (bK.take k).foldl learnL A = K at *
          have HK := hide hK
          clear hK
          obtain ⟨oK, cK, rfl, _, _⟩ := hj.rowK.form
          obtain ⟨e1, f1, e2, f2, e3, f3, e4, e5, e6⟩ := bx3 hj.bel
          obtain ⟨o1, o2⟩ := row_facts hj.out
          obtain ⟨x, hx⟩ := get_some hlt
          have Hx := hide hx
          obtain ⟨g, rfl, hg, c1, c2⟩ := hbK.at hx
          clear hx
          go_wp2_with fail
          go_still_tail 6, (by kernel_rfl)
          go_wp2_with fail
          refine (learn_any none 0 0 _ K x wr.drew hj.rowK (by omega)).mono ?_
          rintro e w1 ⟨vK', rfl, hT, hv, hb⟩
          have hb' : Below wr.heap.size wr w1 := ⟨hb.os, hb.tape, hb.output, hb.size, hb.block⟩
          obtain ⟨oK', cK', rfl, _, _⟩ := hT.form
          clear e1 e2 e3 e4 e5 f1 f2 f3 o1 o2 hb
          obtain ⟨o1, o2⟩ := row_facts (hj.out_below hb')
          go_wp2_with fail
          go_roundw
          case rel =>
            refine ⟨k + 1, .slice oK' (learnL K x).length cK', by omega, by go_num, ?_⟩
            rw [foldl_take learnL A bK k x Hx.out, HK.out]
            exact hj.set hb' (hj.rowL.below hb') hT (fun g hg => Or.inl hg) hv
          case measure => simp [intOf]; omega
        · have hka : k = bK.length := by omega
          subst hka
          rw [List.take_of_length_le (Nat.le_refl _)] at hj hlen
          generalize hB : bK.foldl learnL A = B at *
          have HB := hide hB
          clear hB
          obtain ⟨oK, cK, rfl, _, _⟩ := hj.rowK.form
          obtain ⟨e1, f1, e2, f2, e3, f3, e4, e5, e6⟩ := bx3 hj.bel
          obtain ⟨o1, o2⟩ := row_facts hj.out
          go_wp2_with fail
          clear e1 e2 e3 e4 e5 f1 f2 f3 o1 o2
          go_loopw [8] (fun i wr => ∃ (k : Nat) (vL : Value), k ≤ aL.length ∧ i = .int .i64 k ∧ JSt w #[.slice oaL aL.length caL, .slice oaK aK.length caK] #[.slice obL bL.length cbL, .slice obK bK.length cbK] vL (.slice oK B.length cK) ((aL.take k).foldl (putIf (keepA bL bK)) []) B wr) (fun i _ => aL.length - (intOf i).toNat)
          case atStart => exact ⟨0, _, Nat.zero_le _, rfl, hj⟩
          case round =>
            clear hj
            obtain ⟨k, vL, hk, rfl, hj⟩ := hrel
            have hlen := fold_put_len (keepA bL bK) (aL.take k) []
            have hlen2 := List.length_take_le k aL
            simp only [List.length_nil, Nat.zero_add] at hlen
            by_cases hlt : k < aL.length
            · generalize hL : (aL.take k).foldl (putIf (keepA bL bK)) [] = L at *
              have HL := hide hL
              clear hL
              obtain ⟨oL, cL, rfl, _, _⟩ := hj.rowL.form
              obtain ⟨e1, f1, e2, f2, e3, f3, e4, e5, e6⟩ := bx3 hj.bel
              obtain ⟨o1, o2⟩ := row_facts hj.out
              obtain ⟨x, hx⟩ := get_some hlt
              have Hx := hide hx
              obtain ⟨g, rfl, hg, c1, c2, c3⟩ := haL.at hx
              clear hx
              have hG := Grw.cell wr
              have hGn := Grw.some wr
              have hgr : g < wr.heap.size := by omega
              have hwr : w.heap.size < wr.heap.size := by omega
              have hwr1 : w.heap.size + 1 < wr.heap.size := by omega
              rcases hv1 : decide (x ∈ bL) with _ | _
              · rcases hv2 : decide (x.2 ∈ bK) with _ | _
                ·
                  have Hv1 := hide hv1
                  have Hv2 := hide hv2
                  clear hv1 hv2
                  go_wp2_with fail
                  refine wp_region_grw (by kernel_rfl) (by kernel_rfl) ?_
                  repeat (go_big_quiet_step ((go_at_call 177; exact Calls.grw_of (has_val _ _ bL x _ (hbL.below (e5.trans (Below.mono (Grw.h _) (by omega)))) (by omega) Hv1.out))))
                  refine wpQuiet_nil ?_
                  rintro _ ⟨y, rfl⟩
                  replace hj := hj.below y.h
                  obtain ⟨wr2, hwr2⟩ : ∃ wr2, wr2 = y.w := ⟨_, rfl⟩
                  rw [← hwr2] at hj ⊢
                  clear hwr2 e1 e2 e3 e4 e5 f1 f2 f3 o1 o2 hG hGn hgr hwr hwr1 e6
                  obtain ⟨e1, f1, e2, f2, e3, f3, e4, e5, e6⟩ := bx3 hj.bel
                  obtain ⟨o1, o2⟩ := row_facts hj.out
                  have hG := Grw.cell wr2
                  have hGn := Grw.some wr2
                  have hgr : g < wr2.heap.size := by omega
                  have hwr : w.heap.size < wr2.heap.size := by omega
                  have hwr1 : w.heap.size + 1 < wr2.heap.size := by omega
                  go_wp2_with fail
                  refine wp_region_grw (by kernel_rfl) (by kernel_rfl) ?_
                  repeat (go_big_quiet_step ((go_at_call 157; exact Calls.grw_of (knows_val _ _ bK x.2 _ (hbK.below (e5.trans (Below.mono (Grw.h _) (by omega)))) (by omega) Hv2.out))))
                  refine wpQuiet_nil ?_
                  rintro _ ⟨y2, rfl⟩
                  replace hj := hj.below y2.h
                  obtain ⟨wr3, hwr3⟩ : ∃ wr3, wr3 = y2.w := ⟨_, rfl⟩
                  rw [← hwr3] at hj ⊢
                  clear hwr3 e1 e2 e3 e4 e5 f1 f2 f3 o1 o2 hG hGn hgr hwr hwr1 e6
                  obtain ⟨e1, f1, e2, f2, e3, f3, e4, e5, e6⟩ := bx3 hj.bel
                  obtain ⟨o1, o2⟩ := row_facts hj.out
                  go_wp2_with fail
                  go_still_tail 6, (by kernel_rfl)
                  go_wp2_with fail
                  refine (put_any oK B.length cK _ L x wr3.drew hj.rowL (by omega)).mono ?_
                  rintro e w1 ⟨vL', rfl, hT, hv, hb⟩
                  have hb' : Below wr3.heap.size wr3 w1 := ⟨hb.os, hb.tape, hb.output, hb.size, hb.block⟩
                  obtain ⟨oL', cL', rfl, _, _⟩ := hT.form
                  clear e1 e2 e3 e4 e5 f1 f2 f3 o1 o2 hb
                  obtain ⟨o1, o2⟩ := row_facts (hj.out_below hb')
                  go_wp2_with fail
                  go_roundw
                  case rel =>
                    refine ⟨k + 1, .slice oL' (insB aheadB L x).length cL', by omega, by go_num, ?_⟩
                    rw [foldl_take _ [] aL k x Hx.out, HL.out, putIf, if_pos (by simp only [keepA, Hv1.out, Hv2.out]; first | decide | rfl)]
                    exact hj.set hb' hT (hj.rowK.below hb') (fun g hg => Or.inr (hv g hg)) (fun g hg => Or.inl hg)
                  case measure => simp [intOf]; omega
                ·
                  have Hv1 := hide hv1
                  have Hv2 := hide hv2
                  clear hv1 hv2
                  go_wp2_with fail
                  refine wp_region_grw (by kernel_rfl) (by kernel_rfl) ?_
                  repeat (go_big_quiet_step ((go_at_call 177; exact Calls.grw_of (has_val _ _ bL x _ (hbL.below (e5.trans (Below.mono (Grw.h _) (by omega)))) (by omega) Hv1.out))))
                  refine wpQuiet_nil ?_
                  rintro _ ⟨y, rfl⟩
                  replace hj := hj.below y.h
                  obtain ⟨wr2, hwr2⟩ : ∃ wr2, wr2 = y.w := ⟨_, rfl⟩
                  rw [← hwr2] at hj ⊢
                  clear hwr2 e1 e2 e3 e4 e5 f1 f2 f3 o1 o2 hG hGn hgr hwr hwr1 e6
                  obtain ⟨e1, f1, e2, f2, e3, f3, e4, e5, e6⟩ := bx3 hj.bel
                  obtain ⟨o1, o2⟩ := row_facts hj.out
                  have hG := Grw.cell wr2
                  have hGn := Grw.some wr2
                  have hgr : g < wr2.heap.size := by omega
                  have hwr : w.heap.size < wr2.heap.size := by omega
                  have hwr1 : w.heap.size + 1 < wr2.heap.size := by omega
                  go_wp2_with fail
                  refine wp_region_grw (by kernel_rfl) (by kernel_rfl) ?_
                  repeat (go_big_quiet_step ((go_at_call 157; exact Calls.grw_of (knows_val _ _ bK x.2 _ (hbK.below (e5.trans (Below.mono (Grw.h _) (by omega)))) (by omega) Hv2.out))))
                  refine wpQuiet_nil ?_
                  rintro _ ⟨y2, rfl⟩
                  replace hj := hj.below y2.h
                  obtain ⟨wr3, hwr3⟩ : ∃ wr3, wr3 = y2.w := ⟨_, rfl⟩
                  rw [← hwr3] at hj ⊢
                  clear hwr3 e1 e2 e3 e4 e5 f1 f2 f3 o1 o2 hG hGn hgr hwr hwr1 e6
                  obtain ⟨e1, f1, e2, f2, e3, f3, e4, e5, e6⟩ := bx3 hj.bel
                  obtain ⟨o1, o2⟩ := row_facts hj.out
                  go_wp2_with fail
                  go_roundw
                  case rel =>
                    refine ⟨k + 1, .slice oL L.length cL, by omega, by go_num, ?_⟩
                    rw [foldl_take _ [] aL k x Hx.out, HL.out, putIf, if_neg (by simp only [keepA, Hv1.out, Hv2.out]; decide)]
                    exact hj
                  case measure => simp [intOf]; omega
              · obtain ⟨v2, hv2⟩ : ∃ v2, decide (x.2 ∈ bK) = v2 := ⟨_, rfl⟩
                have Hv1 := hide hv1
                have Hv2 := hide hv2
                clear hv1 hv2
                go_wp2_with fail
                refine wp_region_grw (by kernel_rfl) (by kernel_rfl) ?_
                repeat (go_big_quiet_step ((go_at_call 177; exact Calls.grw_of (has_val _ _ bL x _ (hbL.below (e5.trans (Below.mono (Grw.h _) (by omega)))) (by omega) Hv1.out))))
                refine wpQuiet_nil ?_
                rintro _ ⟨y, rfl⟩
                replace hj := hj.below y.h
                obtain ⟨wr2, hwr2⟩ : ∃ wr2, wr2 = y.w := ⟨_, rfl⟩
                rw [← hwr2] at hj ⊢
                clear hwr2 e1 e2 e3 e4 e5 f1 f2 f3 o1 o2 hG hGn hgr hwr hwr1 e6
                obtain ⟨e1, f1, e2, f2, e3, f3, e4, e5, e6⟩ := bx3 hj.bel
                obtain ⟨o1, o2⟩ := row_facts hj.out
                have hG := Grw.cell wr2
                have hGn := Grw.some wr2
                have hgr : g < wr2.heap.size := by omega
                have hwr : w.heap.size < wr2.heap.size := by omega
                have hwr1 : w.heap.size + 1 < wr2.heap.size := by omega
                go_wp2_with fail
                refine wp_region_grw (by kernel_rfl) (by kernel_rfl) ?_
                repeat (go_big_quiet_step ((go_at_call 157; exact Calls.grw_of (knows_val _ _ bK x.2 _ (hbK.below (e5.trans (Below.mono (Grw.h _) (by omega)))) (by omega) Hv2.out))))
                refine wpQuiet_nil ?_
                rintro _ ⟨y2, rfl⟩
                replace hj := hj.below y2.h
                obtain ⟨wr3, hwr3⟩ : ∃ wr3, wr3 = y2.w := ⟨_, rfl⟩
                rw [← hwr3] at hj ⊢
                clear hwr3 e1 e2 e3 e4 e5 f1 f2 f3 o1 o2 hG hGn hgr hwr hwr1 e6
                obtain ⟨e1, f1, e2, f2, e3, f3, e4, e5, e6⟩ := bx3 hj.bel
                obtain ⟨o1, o2⟩ := row_facts hj.out
                go_wp2_with fail
                go_still_tail 6, (by kernel_rfl)
                go_wp2_with fail
                refine (put_any oK B.length cK _ L x wr3.drew hj.rowL (by omega)).mono ?_
                rintro e w1 ⟨vL', rfl, hT, hv, hb⟩
                have hb' : Below wr3.heap.size wr3 w1 := ⟨hb.os, hb.tape, hb.output, hb.size, hb.block⟩
                obtain ⟨oL', cL', rfl, _, _⟩ := hT.form
                clear e1 e2 e3 e4 e5 f1 f2 f3 o1 o2 hb
                obtain ⟨o1, o2⟩ := row_facts (hj.out_below hb')
                go_wp2_with fail
                go_roundw
                case rel =>
                  refine ⟨k + 1, .slice oL' (insB aheadB L x).length cL', by omega, by go_num, ?_⟩
                  rw [foldl_take _ [] aL k x Hx.out, HL.out, putIf, if_pos (by simp only [keepA, Hv1.out, Hv2.out]; first | decide | rfl)]
                  exact hj.set hb' hT (hj.rowK.below hb') (fun g hg => Or.inr (hv g hg)) (fun g hg => Or.inl hg)
                case measure => simp [intOf]; omega
            · have hka : k = aL.length := by omega
              subst hka
              rw [List.take_of_length_le (Nat.le_refl _)] at hj hlen
              generalize hC : aL.foldl (putIf (keepA bL bK)) [] = C at *
              have HC := hide hC
              clear hC
              obtain ⟨oL, cL, rfl, _, _⟩ := hj.rowL.form
              obtain ⟨e1, f1, e2, f2, e3, f3, e4, e5, e6⟩ := bx3 hj.bel
              obtain ⟨o1, o2⟩ := row_facts hj.out
              go_wp2_with fail
              clear e1 e2 e3 e4 e5 f1 f2 f3 o1 o2
              go_loopw [11] (fun i wr => ∃ (k : Nat) (vL : Value), k ≤ bL.length ∧ i = .int .i64 k ∧ JSt w #[.slice oaL aL.length caL, .slice oaK aK.length caK] #[.slice obL bL.length cbL, .slice obK bK.length cbK] vL (.slice oK B.length cK) ((bL.take k).foldl (putIf fun e => !decide (e.2 ∈ aK)) C) B wr) (fun i _ => bL.length - (intOf i).toNat)
              case atStart => exact ⟨0, _, Nat.zero_le _, rfl, hj⟩
              case round =>
                clear hj
                obtain ⟨k, vL, hk, rfl, hj⟩ := hrel
                have hlen := fold_put_len (fun e => !decide (e.2 ∈ aK)) (bL.take k) C
                have hlen2 := List.length_take_le k bL
                by_cases hlt : k < bL.length
                · generalize hL : (bL.take k).foldl (putIf fun e => !decide (e.2 ∈ aK)) C = L at *
                  have HL := hide hL
                  clear hL
                  obtain ⟨oL, cL, rfl, _, _⟩ := hj.rowL.form
                  obtain ⟨e1, f1, e2, f2, e3, f3, e4, e5, e6⟩ := bx3 hj.bel
                  obtain ⟨o1, o2⟩ := row_facts hj.out
                  obtain ⟨x, hx⟩ := get_some hlt
                  have Hx := hide hx
                  obtain ⟨g, rfl, hg, c1, c2, c3⟩ := hbL.at hx
                  clear hx
                  have hG := Grw.cell wr
                  have hGn := Grw.some wr
                  have hgr : g < wr.heap.size := by omega
                  have hwr : w.heap.size < wr.heap.size := by omega
                  have hwr1 : w.heap.size + 1 < wr.heap.size := by omega
                  rcases hv2 : decide (x.2 ∈ aK) with _ | _
                  ·
                    have Hv2 := hide hv2
                    clear hv2
                    go_wp2_with fail
                    refine wp_region_grw (by kernel_rfl) (by kernel_rfl) ?_
                    repeat (go_big_quiet_step ((go_at_call 157; exact Calls.grw_of (knows_val _ _ aK x.2 _ (haK.below (e5.trans (Below.mono (Grw.h _) (by omega)))) (by omega) Hv2.out))))
                    refine wpQuiet_nil ?_
                    rintro _ ⟨y, rfl⟩
                    replace hj := hj.below y.h
                    obtain ⟨wr2, hwr2⟩ : ∃ wr2, wr2 = y.w := ⟨_, rfl⟩
                    rw [← hwr2] at hj ⊢
                    clear hwr2 e1 e2 e3 e4 e5 f1 f2 f3 o1 o2 hG hGn hgr hwr hwr1 e6
                    obtain ⟨e1, f1, e2, f2, e3, f3, e4, e5, e6⟩ := bx3 hj.bel
                    obtain ⟨o1, o2⟩ := row_facts hj.out
                    go_wp2_with fail
                    go_still_tail 6, (by kernel_rfl)
                    go_wp2_with fail
                    refine (put_any oK B.length cK _ L x wr2.drew hj.rowL (by omega)).mono ?_
                    rintro e w1 ⟨vL', rfl, hT, hv, hb⟩
                    have hb' : Below wr2.heap.size wr2 w1 := ⟨hb.os, hb.tape, hb.output, hb.size, hb.block⟩
                    obtain ⟨oL', cL', rfl, _, _⟩ := hT.form
                    clear e1 e2 e3 e4 e5 f1 f2 f3 o1 o2 hb
                    obtain ⟨o1, o2⟩ := row_facts (hj.out_below hb')
                    go_wp2_with fail
                    go_roundw
                    case rel =>
                      refine ⟨k + 1, .slice oL' (insB aheadB L x).length cL', by omega, by go_num, ?_⟩
                      rw [foldl_take _ C bL k x Hx.out, HL.out, putIf, if_pos (by simp only [Hv2.out]; decide)]
                      exact hj.set hb' hT (hj.rowK.below hb') (fun g hg => Or.inr (hv g hg)) (fun g hg => Or.inl hg)
                    case measure => simp [intOf]; omega
                  ·
                    have Hv2 := hide hv2
                    clear hv2
                    go_wp2_with fail
                    refine wp_region_grw (by kernel_rfl) (by kernel_rfl) ?_
                    repeat (go_big_quiet_step ((go_at_call 157; exact Calls.grw_of (knows_val _ _ aK x.2 _ (haK.below (e5.trans (Below.mono (Grw.h _) (by omega)))) (by omega) Hv2.out))))
                    refine wpQuiet_nil ?_
                    rintro _ ⟨y, rfl⟩
                    replace hj := hj.below y.h
                    obtain ⟨wr2, hwr2⟩ : ∃ wr2, wr2 = y.w := ⟨_, rfl⟩
                    rw [← hwr2] at hj ⊢
                    clear hwr2 e1 e2 e3 e4 e5 f1 f2 f3 o1 o2 hG hGn hgr hwr hwr1 e6
                    obtain ⟨e1, f1, e2, f2, e3, f3, e4, e5, e6⟩ := bx3 hj.bel
                    obtain ⟨o1, o2⟩ := row_facts hj.out
                    go_wp2_with fail
                    go_roundw
                    case rel =>
                      refine ⟨k + 1, .slice oL L.length cL, by omega, by go_num, ?_⟩
                      rw [foldl_take _ C bL k x Hx.out, HL.out, putIf, if_neg (by simp only [Hv2.out]; decide)]
                      exact hj
                    case measure => simp [intOf]; omega
                · have hkb : k = bL.length := by omega
                  subst hkb
                  rw [List.take_of_length_le (Nat.le_refl _)] at hj hlen
                  obtain ⟨oL, cL, rfl, _, _⟩ := hj.rowL.form
                  obtain ⟨e1, f1, e2, f2, e3, f3, e4, e5, e6⟩ := bx3 hj.bel
                  obtain ⟨o1, o2⟩ := row_facts hj.out
                  generalize hD : bL.foldl (putIf fun e => !decide (e.2 ∈ aK)) C = D at *
                  have HD := hide hD
                  clear hD
                  go_wp2_with fail
                  refine bodyPost_ret (v := .agg #[.slice oL D.length cL, .slice oK B.length cK]) (by simp [results, Tryz.results160, go_sem, e3]) rfl ⟨_, _, rfl, ?_, ?_, fun g hg => by have := hj.newL g hg; omega, fun g hg => by have := hj.newK g hg; omega, ?_⟩
                  · have hD : joinL aL aK bL bK = D := by rw [joinL, HC.out, HD.out]
                    rw [hD]
                    exact own_mono (ownsRow_setCell_below (ownsRow_setCell_below (own_raise hj.rowL hj.newL) (by simp) _) (by simp) _) (Nat.zero_le _)
                  · have hD : joinK aK bK = B := by rw [joinK, HA.out, HB.out]
                    rw [hD]
                    exact own_mono (ownsRow_setCell_below (ownsRow_setCell_below (own_raise hj.rowK hj.newK) (by simp) _) (by simp) _) (Nat.zero_le _)
                  · exact (e5.setCell (by simp; omega) _).setCell (by simp; omega) _
end Go.Proofs.YtnniimfinakioaaGreatDoor
namespace Go.Proofs.YtnniimfinakioaaGreatDoor
open Go.RowKit
attribute [local go_sem ↓] eqTok eqEnt
attribute [local go_sem] toList_nm app_nm size_nm

def digB (n : Nat) : UInt8 := UInt8.ofNat (48 + n % 10)
def digF : Nat → Nat → Nm
  | 0, n => [digB n]
  | f + 1, n => if n < 10 then [digB n] else digF f (n / 10) ++ [digB n]
def digits (n : Nat) : Nm := digF n n

theorem conv_dig (n : Nat) (w : World) : (convert 122 9 (.slice (some ⟨w.heap.size, 0, none⟩) 1 1)).run Tryz.prog (w.alloc (.cells #[.int .u8 (48 + (n : Int) % 10)] 5)) = .ok (strV [digB n]) (w.alloc (.cells #[.int .u8 (48 + (n : Int) % 10)] 5)) := by
  refine run_convert_bytes_back _ 122 9 5 ⟨w.heap.size, 0, none⟩ 1 [digB n] (by kernel_rfl) (by kernel_rfl) (by kernel_rfl) ?_
  intro j hj
  obtain rfl : j = 0 := by simpa using hj
  rw [World.addr_add, cell_of_row _ _ _ _ _ (0, 0) (heap_alloc_new w _)]
  have h : ((digB n).toNat : Int) = 48 + (n : Int) % 10 := by
    simp only [digB, UInt8.toNat_ofNat']
    omega
  simp [h]
theorem lt_app {a b : Nm} {n m : Nat} (h1 : a.length ≤ n) (h2 : b.length ≤ m) : (a ++ b).length ≤ n + m := by simp; omega
theorem digF_len : ∀ (f n : Nat), (digF f n).length ≤ f + 1 := by
  intro f
  induction f with
  | zero => intro n; simp [digF]
  | succ f ih =>
    intro n
    simp only [digF]
    split
    · simp
    · have := ih (n / 10)
      simp; omega
theorem digF_len2 : ∀ (f n d : Nat), n < 10 ^ (d + 1) → (digF f n).length ≤ d + 1 := by
  intro f
  induction f with
  | zero => intro n d _; simp [digF]
  | succ f ih =>
    intro n d h
    simp only [digF]
    split
    · simp
    · cases d with
      | zero => simp at h; omega
      | succ d =>
        have := ih (n / 10) d (by rw [Nat.div_lt_iff_lt_mul (by decide)]; rw [Nat.pow_succ] at h; omega)
        simp; omega
theorem digits_len (n : Nat) (h : n < 10 ^ 19) : (digits n).length ≤ 19 := digF_len2 n n 18 h

set_option maxHeartbeats 400000 in
set_option maxRecDepth 100000 in
theorem digits_base (n : Nat) (w : World) (hn : n < 10) :
    Calls Tryz.prog 117 #[.int .i64 n] w fun e w' => e = .returned (strV [digB n]) ∧ Below w.heap.size w w' := by
  have hcv := conv_dig n
  go_enter Tryz.func117, Tryz.ntmps117
  go_wp2_with fail
  go_ret
  exact ⟨rfl, (Below.refl _ _).alloc (Nat.le_refl _) _⟩

set_option maxHeartbeats 400000 in
set_option maxRecDepth 100000 in
theorem digits_step (n : Nat) (w : World) (hn : ¬ n < 10) (hb : n ≤ 4000000000000000000) (s : Nm) (hs : s.length ≤ 100)
    (ih : ∀ w, Calls Tryz.prog 117 #[.int .i64 (n / 10 : Nat)] w fun e w' => e = .returned (strV s) ∧ Below w.heap.size w w') :
    Calls Tryz.prog 117 #[.int .i64 n] w fun e w' => e = .returned (strV (s ++ [digB n])) ∧ Below w.heap.size w w' := by
  have hcv := conv_dig n
  have IH := hide ih
  clear ih
  go_enter Tryz.func117, Tryz.ntmps117
  go_wp2_with fail
  have he : ((n : Int) / 10) = ((n / 10 : Nat) : Int) := by omega
  rw [he]
  refine (IH.out _).mono ?_
  rintro e w1 ⟨rfl, hb1⟩
  clear hcv he
  go_wp2_with fail
  go_ret
  exact ⟨by simp, ((Below.refl _ _).alloc (Nat.le_refl _) _).trans (hb1.mono (by simp))⟩

theorem digF_any : ∀ (f n : Nat) (w : World), n ≤ f → n ≤ 4000000000000000000 →
    Calls Tryz.prog 117 #[.int .i64 n] w fun e w' => e = .returned (strV (digF f n)) ∧ Below w.heap.size w w' := by
  intro f
  induction f with
  | zero =>
    intro n w h _
    obtain rfl : n = 0 := by omega
    exact digits_base 0 w (by decide)
  | succ f ih =>
    intro n w h hb
    simp only [digF]
    split
    · rename_i hn
      exact digits_base n w hn
    · rename_i hn
      refine digits_step n w hn hb _ ?_ (fun w' => ih (n / 10) w' (by omega) (by omega))
      have := digF_len2 f (n / 10) 18 (by omega)
      omega
theorem digits_any (n : Nat) (w : World) (h : n ≤ 4000000000000000000) :
    Calls Tryz.prog 117 #[.int .i64 n] w fun e w' => e = .returned (strV (digits n)) ∧ Below w.heap.size w w' := digF_any n n w (Nat.le_refl _) h

theorem digits_val (n : Nat) (w : World) (h : n ≤ 4000000000000000000) {s : Nm} (hs : digits n = s) :
    Calls Tryz.prog 117 #[.int .i64 n] w fun e w' => e = .returned (strV s) ∧ Below w.heap.size w w' := by
  subst hs; exact digits_any n w h

def tokT (t : Tok) : Nm := digits t.1.toNat ++ [46] ++ digits t.2.toNat
theorem tokT_len (t : Tok) (h1 : t.1.toNat ≤ 1000000) (h2 : t.2.toNat ≤ 1000000) : (tokT t).length ≤ 20 := by
  have := digF_len2 t.1.toNat t.1.toNat 6 (by omega)
  have := digF_len2 t.2.toNat t.2.toNat 6 (by omega)
  simp [tokT, digits]; omega

set_option maxHeartbeats 400000 in
theorem toktext_any (t : Tok) (w : World) (h1 : 0 ≤ t.1) (h2 : t.1 ≤ 1000000) (h3 : 0 ≤ t.2) (h4 : t.2 ≤ 1000000) :
    Calls Tryz.prog 156 #[tokV t] w fun e w' => e = .returned (strV (tokT t)) ∧ Below w.heap.size w w' := by
  obtain ⟨a, b⟩ := t
  dsimp only at h1 h2 h3 h4
  obtain ⟨a, rfl⟩ := Int.eq_ofNat_of_zero_le h1
  obtain ⟨b, rfl⟩ := Int.eq_ofNat_of_zero_le h3
  dsimp only [tokV]
  have l1 := digits_len a (by omega)
  have l2 := digits_len b (by omega)
  obtain ⟨A, hA⟩ : ∃ A, digits a = A := ⟨_, rfl⟩
  obtain ⟨B, hB⟩ : ∃ B, digits b = B := ⟨_, rfl⟩
  rw [hA] at l1
  rw [hB] at l2
  have HA := hide hA
  have HB := hide hB
  clear hA hB
  have hbel := Below.refl (w.heap.size + 1) (w.alloc (.cells #[.int .i64 (a : Int), .int .i64 (b : Int)] 192))
  have hG := Grw.cell (w.alloc (.cells #[.int .i64 (a : Int), .int .i64 (b : Int)] 192))
  have hGn := Grw.some (w.alloc (.cells #[.int .i64 (a : Int), .int .i64 (b : Int)] 192))
  go_enter Tryz.func156, Tryz.ntmps156
  go_wp2_with fail
  refine wp_region_grw (by kernel_rfl) (by kernel_rfl) ?_
  repeat (go_big_quiet_step ((first | (go_at_call_of 117 (Value.int IntKind.i64 (a : Int)); exact Calls.grw_of (digits_val a _ (by omega) HA.out)) | (go_at_call_of 117 (Value.int IntKind.i64 (b : Int)); exact Calls.grw_of (digits_val b _ (by omega) HB.out)))))
  refine wpQuiet_nil ?_
  rintro _ ⟨y, rfl⟩
  go_wp2_with fail
  go_ret
  refine ⟨?_, ((Below.refl _ _).alloc (Nat.le_refl _) _).trans (y.h.mono (by simp))⟩
  simp [tokT, HA.out, HB.out]
end Go.Proofs.YtnniimfinakioaaGreatDoor
namespace Go.Proofs.YtnniimfinakioaaGreatDoor
open Go.RowKit
attribute [local go_sem ↓] eqTok eqEnt
attribute [local go_sem] toList_nm app_nm size_nm

def TokOk (t : Tok) : Prop := 0 ≤ t.1 ∧ t.1 ≤ 1000000 ∧ 0 ≤ t.2 ∧ t.2 ≤ 1000000
def EntOk (e : Ent) : Prop := e.1.length ≤ 8 ∧ TokOk e.2
def entT (s : Nm) (e : Ent) : Nm := s ++ (e.1 ++ ([58] ++ (tokT e.2 ++ [32])))
def tkT (s : Nm) (t : Tok) : Nm := s ++ ([32] ++ tokT t)
def pieceT (L : List Ent) (K : List Tok) : Nm := K.foldl tkT (L.foldl entT [] ++ [124])

theorem TokOk.len {t : Tok} (h : TokOk t) : (tokT t).length ≤ 20 := by
  obtain ⟨a, b, c, d⟩ := h
  exact tokT_len t (by omega) (by omega)
theorem entT_len (L : List Ent) (h : ∀ e ∈ L, EntOk e) : ∀ s : Nm, (L.foldl entT s).length ≤ s.length + 30 * L.length := by
  induction L with
  | nil => intro s; simp
  | cons e L ih =>
    intro s
    have h1 := h e (by simp)
    have h2 := h1.2.len
    have h3 := h1.1
    have := ih (fun x hx => h x (by simp [hx])) (entT s e)
    have h4 : (entT s e).length ≤ s.length + 30 := by simp [entT]; omega
    simp only [List.foldl_cons, List.length_cons]; omega
theorem tkT_len (L : List Tok) (h : ∀ e ∈ L, TokOk e) : ∀ s : Nm, (L.foldl tkT s).length ≤ s.length + 30 * L.length := by
  induction L with
  | nil => intro s; simp
  | cons e L ih =>
    intro s
    have h2 := (h e (by simp)).len
    have := ih (fun x hx => h x (by simp [hx])) (tkT s e)
    have h4 : (tkT s e).length ≤ s.length + 30 := by simp [tkT]; omega
    simp only [List.foldl_cons, List.length_cons]; omega
theorem toktext_val (t : Tok) (w : World) (h : TokOk t) {s : Nm} (hs : tokT t = s) :
    Calls Tryz.prog 156 #[tokV t] w fun e w' => e = .returned (strV s) ∧ Below w.heap.size w w' := by
  subst hs; exact toktext_any t w h.1 h.2.1 h.2.2.1 h.2.2.2

set_option maxHeartbeats 1000000 in
set_option maxRecDepth 100000 in
theorem ptext_any (vL vK : Value) (L : List Ent) (K : List Tok) (w : World) (hL : EntR w vL L) (hK : TokR w vK K) (h1 : L.length ≤ 100000) (h2 : K.length ≤ 100000) (h3 : ∀ e ∈ L, EntOk e) (h4 : ∀ t ∈ K, TokOk t) :
    Calls Tryz.prog 133 #[.agg #[vL, vK]] w fun e w' => e = .returned (strV (pieceT L K)) ∧ Below w.heap.size w w' := by
  obtain ⟨oL, cL, rfl, _, _⟩ := hL.form
  obtain ⟨oK, cK, rfl, _, _⟩ := hK.form
  have H3 := hide h3
  have H4 := hide h4
  clear h3 h4
  go_enter Tryz.func133, Tryz.ntmps133
  go_wp2_with fail
  go_loopw [3, 4] (fun s i wr => ∃ (k : Nat) (S : Nm), k ≤ L.length ∧ i = .int .i64 k ∧ s = strV S ∧ Hid (S = (L.take k).foldl entT []) ∧ Below (w.heap.size + 1) (w.alloc (.cells #[.slice oL L.length cL, .slice oK K.length cK] 165)) wr) (fun _ i _ => L.length - (intOf i).toNat)
  case atStart => exact ⟨0, [], Nat.zero_le _, rfl, rfl, rfl, Below.refl _ _⟩
  case round =>
    obtain ⟨k, S, hk, rfl, rfl, HS, hbel⟩ := hrel
    have hlen := entT_len (L.take k) (fun e he => H3.out e (List.mem_of_mem_take he)) []
    rw [← HS.out] at hlen
    have hlen2 := List.length_take_le k L
    simp only [List.length_nil, Nat.zero_add] at hlen
    obtain ⟨e1, f1, e3, e4, e5⟩ := bx1 hbel
    by_cases hlt : k < L.length
    · obtain ⟨x, hx⟩ := get_some hlt
      have Hx := hide hx
      obtain ⟨g, rfl, hg, c1, c2, c3⟩ := hL.at hx
      have hok := H3.out x (List.mem_of_getElem? hx)
      have hT := hok.2.len
      have hN := hok.1
      have Hok := hide hok
      obtain ⟨T, hTT⟩ : ∃ T, tokT x.2 = T := ⟨_, rfl⟩
      rw [hTT] at hT
      have HT := hide hTT
      clear hx hok hTT
      have hG := Grw.cell wr
      have hGn := Grw.some wr
      have hgr : g < wr.heap.size := by omega
      have hwr : w.heap.size < wr.heap.size := by omega
      go_wp2_with fail
      refine wp_region_grw (by kernel_rfl) (by kernel_rfl) ?_
      repeat (go_big_quiet_step ((go_at_call 156; exact Calls.grw_of (toktext_val x.2 _ Hok.out.2 HT.out))))
      refine wpQuiet_nil ?_
      rintro _ ⟨y, rfl⟩
      go_wp2_with fail
      refine ⟨⟨k + 1, _, by omega, by go_num, rfl, ?_, hbel.trans (y.h.mono e5)⟩, by simp [intOf]; omega⟩
      show _ = (L.take (k + 1)).foldl entT []
      rw [foldl_take _ _ _ _ _ Hx.out, ← HS.out, entT, HT.out]
      simp
    · have hkl : k = L.length := by omega
      subst hkl
      have HS2 : Hid (S = L.foldl entT []) := by have := HS.out; rw [List.take_of_length_le (Nat.le_refl _)] at this; exact this
      clear HS
      go_wp2_with fail
      clear e1 f1 e3 e4 e5
      go_loopw [3, 5] (fun s i wr => ∃ (k : Nat) (R : Nm), k ≤ K.length ∧ i = .int .i64 k ∧ s = strV R ∧ Hid (R = (K.take k).foldl tkT (S ++ [124])) ∧ Below (w.heap.size + 1) (w.alloc (.cells #[.slice oL L.length cL, .slice oK K.length cK] 165)) wr) (fun _ i _ => K.length - (intOf i).toNat)
      case atStart => exact ⟨0, _, Nat.zero_le _, rfl, rfl, rfl, hbel⟩
      case round =>
        clear hbel
        obtain ⟨k, R, hk, rfl, rfl, HR, hbel⟩ := hrel
        have hlen3 := tkT_len (K.take k) (fun e he => H4.out e (List.mem_of_mem_take he)) (S ++ [124])
        rw [← HR.out] at hlen3
        have hlen4 := List.length_take_le k K
        simp only [List.length_append, List.length_cons, List.length_nil] at hlen3
        obtain ⟨e1, f1, e3, e4, e5⟩ := bx1 hbel
        by_cases hlt : k < K.length
        · obtain ⟨x, hx⟩ := get_some hlt
          have Hx := hide hx
          obtain ⟨g, rfl, hg, c1, c2⟩ := hK.at hx
          have hok := H4.out x (List.mem_of_getElem? hx)
          have hT := hok.len
          have Hok := hide hok
          obtain ⟨T, hTT⟩ : ∃ T, tokT x = T := ⟨_, rfl⟩
          rw [hTT] at hT
          have HT := hide hTT
          clear hx hok hTT
          have hG := Grw.cell wr
          have hGn := Grw.some wr
          have hgr : g < wr.heap.size := by omega
          have hwr : w.heap.size < wr.heap.size := by omega
          go_wp2_with (first | (go_at_call 156; refine (toktext_val x _ Hok.out HT.out).mono ?_; rintro e w1 ⟨rfl, hb1⟩))
          refine ⟨⟨k + 1, _, by omega, by go_num, rfl, ?_, hbel.trans (hb1.mono e5)⟩, by simp [intOf]; omega⟩
          show _ = (K.take (k + 1)).foldl tkT (S ++ [124])
          rw [foldl_take _ _ _ _ _ Hx.out, ← HR.out, tkT, HT.out]
          simp
        · have hkl : k = K.length := by omega
          subst hkl
          have HR2 := HR.out
          rw [List.take_of_length_le (Nat.le_refl _)] at HR2
          have HR3 := hide HR2
          clear HR HR2
          go_wp2_with fail
          go_ret
          refine ⟨?_, e4⟩
          rw [HR3.out, HS2.out]
          rfl
end Go.Proofs.YtnniimfinakioaaGreatDoor
