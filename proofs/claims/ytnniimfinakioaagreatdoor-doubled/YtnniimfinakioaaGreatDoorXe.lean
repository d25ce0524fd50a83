import Derived.Sort.Walk0
import Derived.Test.YtnniimfinakioaaGreatDoorXd
namespace Go.Proofs.YtnniimfinakioaaGreatDoor
open Go.RowKit
attribute [local go_sem ↓] eqTok eqEnt
attribute [local go_sem] toList_nm app_nm size_nm

theorem num_any (n : Int) (w : World) (_h1 : -1000000 ≤ n) (_h2 : n ≤ 1000000) : Calls Tryz.prog 72 #[.int .i64 n] w fun e w' => e = .returned (.int .i64 n) ∧ w = w' := by
  go_enter Tryz.func72, Tryz.ntmps72
  go_wp2_with fail
  go_ret
  exact ⟨rfl, rfl⟩

def pickN (c : Int) (n : Nat) : Nat := (if c < 0 then -(c + 1) else c).toNat % n

set_option maxHeartbeats 400000 in
theorem pick_any (c : Int) (n : Nat) (w : World) (hn : 0 < n) (hn2 : n ≤ 1000000000) (h1 : -9223372036854775808 ≤ c) (h2 : c ≤ 9223372036854775807) : Calls Tryz.prog 73 #[.int .i64 c, .int .i64 n] w fun e w' => e = .returned (.int .i64 (pickN c n)) ∧ w = w' := by
  by_cases hc : c < 0
  · go_enter Tryz.func73, Tryz.ntmps73
    go_wp2_with fail
    go_ret
    refine ⟨?_, rfl⟩
    obtain ⟨m, hm⟩ := Int.eq_ofNat_of_zero_le (a := -(c + 1)) (by omega)
    have e1 : c + 1 = -(m : Int) := by omega
    have e2 : pickN c n = m % n := by rw [pickN, if_pos hc, hm]; rfl
    rw [e2]
    show Ending.returned (.int .i64 (-(c + 1).tmod (n : Int))) = _
    rw [e1, Int.neg_tmod, Int.neg_neg, Int.ofNat_tmod]
  · go_enter Tryz.func73, Tryz.ntmps73
    go_wp2_with fail
    go_ret
    refine ⟨?_, rfl⟩
    obtain ⟨m, rfl⟩ := Int.eq_ofNat_of_zero_le (a := c) (by omega)
    have e2 : pickN (m : Int) n = m % n := by rw [pickN, if_neg (by omega)]; rfl
    rw [e2]
    rfl

def markT (n : Nat) : Nm := [109, 97, 114, 107] ++ digits n
set_option maxHeartbeats 400000 in
theorem mark_any (n : Nat) (w : World) (h : n ≤ 1000000000000) : Calls Tryz.prog 76 #[.int .i64 n] w fun e w' => e = .returned (strV (markT n)) ∧ Below w.heap.size w w' := by
  have hl := digits_len n (by omega)
  obtain ⟨D, hD⟩ : ∃ D, digits n = D := ⟨_, rfl⟩
  rw [hD] at hl
  have HD := hide hD
  clear hD
  go_enter Tryz.func76, Tryz.ntmps76
  go_wp2_with fail
  refine (digits_val n w (by omega) HD.out).mono ?_
  rintro e w1 ⟨rfl, hb⟩
  go_wp2_with fail
  go_ret
  refine ⟨?_, hb⟩
  rw [markT, HD.out]
  rfl


set_option maxHeartbeats 400000 in
theorem sameTexts_any (va vb : Value) (la lb : List Nm) (w : World) (ha : StrR w va la) (hb : StrR w vb lb) (hs : la.length ≤ 1000000000) (_hs2 : lb.length ≤ 1000000000) :
    Calls Tryz.prog 98 #[va, vb] w fun e w' => e = .returned (.bool (decide (la = lb))) ∧ Below w.heap.size w w' := by
  unfold StrR at ha hb
  obtain ⟨oa, ca, rfl, _, _⟩ := own_form ha
  obtain ⟨ob, cb, rfl, _, _⟩ := own_form hb
  by_cases hlen : la.length = lb.length
  · have hl : ((la.length : Int) != (lb.length : Int)) = false := by simp [hlen]
    have Hlen := hide hlen
    clear hlen
    go_enter Tryz.func98, Tryz.ntmps98
    go_wp2_with fail
    go_loopw [5] (fun i wr => ∃ k : Nat, k ≤ la.length ∧ i = .int .i64 k ∧ Hid (la.take k = lb.take k) ∧ Below w.heap.size w wr) (fun i _ => la.length - (intOf i).toNat)
    case atStart => exact ⟨0, Nat.zero_le _, rfl, rfl, Below.refl _ _⟩
    case round =>
      obtain ⟨k, hk, rfl, HE, hbel⟩ := hrel
      have hcl : ∀ b j, b < w.heap.size → wr.cell? ⟨b, j, none⟩ = w.cell? ⟨b, j, none⟩ := fun b j hb => hbel.cell (p := ⟨b, j, none⟩) hb
      by_cases hlt : k < la.length
      · obtain ⟨x, hx⟩ := get_some hlt
        obtain ⟨y, hy⟩ := get_some (l := lb) (k := k) (by have := Hlen.out; omega)
        have Hx := hide hx
        have Hy := hide hy
        obtain ⟨ga, rfl, hga, cx, _⟩ := own1_at ha (u := strV x) (by rw [strC, List.getElem?_map, hx]; rfl)
        obtain ⟨gb, rfl, hgb, cy, _⟩ := own1_at hb (u := strV y) (by rw [strC, List.getElem?_map, hy]; rfl)
        have hlb : (k : Int) < (lb.length : Int) := by have := Hlen.out; omega
        clear hx hy
        by_cases hxy : x = y
        · subst hxy
          go_wp2_with fail
          go_quiet (fail)
          go_wp2_with fail
          refine ⟨⟨k + 1, by omega, by go_num, ?_, ⟨hbel.os, hbel.tape, hbel.output, hbel.size, hbel.block⟩⟩, by simp [intOf]; omega⟩
          show la.take (k + 1) = lb.take (k + 1)
          rw [take_snoc' Hx.out, take_snoc' Hy.out, HE.out]
        · have hne : (x == y) = false := by simpa using hxy
          have hne2 : (x != y) = true := by simpa using hxy
          have Hxy := hide hxy
          clear hxy
          go_wp2_with fail
          go_quiet (fail)
          go_wp2_with fail
          go_ret
          refine ⟨ret_bool ?_, ⟨hbel.os, hbel.tape, hbel.output, hbel.size, hbel.block⟩⟩
          have : ¬ la = lb := fun e => by
            have e1 := Hx.out
            rw [e, Hy.out] at e1
            simp only [Option.some.injEq] at e1
            exact Hxy.out e1.symm
          simp [this]
      · go_wp2_with fail
        go_ret
        refine ⟨ret_bool ?_, hbel⟩
        have e := HE.out
        rw [List.take_of_length_le (by omega), List.take_of_length_le (by have := Hlen.out; omega)] at e
        simp [e]
  · have hl : ((la.length : Int) != (lb.length : Int)) = true := by simp; omega
    go_enter Tryz.func98, Tryz.ntmps98
    go_wp2_with fail
    go_ret
    refine ⟨ret_bool ?_, Below.refl _ _⟩
    have : ¬ la = lb := fun e => hlen (by rw [e])
    simp [this]

set_option maxHeartbeats 400000 in
theorem sameNumbers_any (va vb : Value) (la lb : List Int) (w : World) (ha : IntR w va la) (hb : IntR w vb lb) (hs : la.length ≤ 1000000000) (_hs2 : lb.length ≤ 1000000000) :
    Calls Tryz.prog 102 #[va, vb] w fun e w' => e = .returned (.bool (decide (la = lb))) ∧ Below w.heap.size w w' := by
  unfold IntR at ha hb
  obtain ⟨oa, ca, rfl, _, _⟩ := own_form ha
  obtain ⟨ob, cb, rfl, _, _⟩ := own_form hb
  by_cases hlen : la.length = lb.length
  · have hl : ((la.length : Int) != (lb.length : Int)) = false := by simp [hlen]
    have Hlen := hide hlen
    clear hlen
    go_enter Tryz.func102, Tryz.ntmps102
    go_wp2_with fail
    go_loopw [5] (fun i wr => ∃ k : Nat, k ≤ la.length ∧ i = .int .i64 k ∧ Hid (la.take k = lb.take k) ∧ Below w.heap.size w wr) (fun i _ => la.length - (intOf i).toNat)
    case atStart => exact ⟨0, Nat.zero_le _, rfl, rfl, Below.refl _ _⟩
    case round =>
      obtain ⟨k, hk, rfl, HE, hbel⟩ := hrel
      have hcl : ∀ b j, b < w.heap.size → wr.cell? ⟨b, j, none⟩ = w.cell? ⟨b, j, none⟩ := fun b j hb => hbel.cell (p := ⟨b, j, none⟩) hb
      by_cases hlt : k < la.length
      · obtain ⟨x, hx⟩ := get_some hlt
        obtain ⟨y, hy⟩ := get_some (l := lb) (k := k) (by have := Hlen.out; omega)
        have Hx := hide hx
        have Hy := hide hy
        obtain ⟨ga, rfl, hga, cx, _⟩ := own1_at ha (u := .int .i64 x) (by rw [List.getElem?_map, hx]; rfl)
        obtain ⟨gb, rfl, hgb, cy, _⟩ := own1_at hb (u := .int .i64 y) (by rw [List.getElem?_map, hy]; rfl)
        have hlb : (k : Int) < (lb.length : Int) := by have := Hlen.out; omega
        clear hx hy
        by_cases hxy : x = y
        · subst hxy
          go_wp2_with fail
          go_quiet (fail)
          go_wp2_with fail
          refine ⟨⟨k + 1, by omega, by go_num, ?_, ⟨hbel.os, hbel.tape, hbel.output, hbel.size, hbel.block⟩⟩, by simp [intOf]; omega⟩
          show la.take (k + 1) = lb.take (k + 1)
          rw [take_snoc' Hx.out, take_snoc' Hy.out, HE.out]
        · have hne : (x == y) = false := by simpa using hxy
          have hne2 : (x != y) = true := by simpa using hxy
          have Hxy := hide hxy
          clear hxy
          go_wp2_with fail
          go_quiet (fail)
          go_wp2_with fail
          go_ret
          refine ⟨ret_bool ?_, ⟨hbel.os, hbel.tape, hbel.output, hbel.size, hbel.block⟩⟩
          have : ¬ la = lb := fun e => by
            have e1 := Hx.out
            rw [e, Hy.out] at e1
            simp only [Option.some.injEq] at e1
            exact Hxy.out e1.symm
          simp [this]
      · go_wp2_with fail
        go_ret
        refine ⟨ret_bool ?_, hbel⟩
        have e := HE.out
        rw [List.take_of_length_le (by omega), List.take_of_length_le (by have := Hlen.out; omega)] at e
        simp [e]
  · have hl : ((la.length : Int) != (lb.length : Int)) = true := by simp; omega
    go_enter Tryz.func102, Tryz.ntmps102
    go_wp2_with fail
    go_ret
    refine ⟨ret_bool ?_, Below.refl _ _⟩
    have : ¬ la = lb := fun e => hlen (by rw [e])
    simp [this]
end Go.Proofs.YtnniimfinakioaaGreatDoor
namespace Go.Proofs.YtnniimfinakioaaGreatDoor
open Go.RowKit

/-! The document's answers, as functions of the model. -/
def nodeAt (W : Wd) (i : Int) : Option Nd := if i < 0 then none else W.nodes[i.toNat]?
def addN (d : Nd) (i : Nat) (s : Nm) : Nd := newsM { d with made := d.made + 1 } (addPc d.p.L i (d.made + 1) s)
def addM (W : Wd) (i : Int) (s : Nm) : Int × Wd := match nodeAt W i with
  | none => (1, W)
  | some d => if nameB s = false then (2, W) else if 30 ≤ W.adds then (4, W) else (0, { W with nodes := W.nodes.set i.toNat (addN d i.toNat s), adds := W.adds + 1 })
def takeM (W : Wd) (i : Int) (d : Nd) (es : List Ent) : Int × Wd := if es = [] then (3, W) else (0, { W with nodes := W.nodes.set i.toNat (newsM d ⟨[], ofK es⟩) })
def removeM (W : Wd) (i : Int) (s : Nm) : Int × Wd := match nodeAt W i with
  | none => (1, W)
  | some d => if nameB s = false then (2, W) else takeM W i d (named s d.p.L)
def clearM (W : Wd) (i : Int) : Int × Wd := match nodeAt W i with
  | none => (1, W)
  | some d => takeM W i d d.p.L
def itemsM (W : Wd) (i : Int) : Int × List Nm := match nodeAt W i with
  | none => (1, [])
  | some d => (0, itemsL d.p.L)
def textM (W : Wd) (i : Int) : Int × Nm := match nodeAt W i with
  | none => (1, [])
  | some d => (0, pieceT d.p.L d.p.K)
structure St where
  err : Int
  count : Nat
  kept : List Int
  acked : List Int
  tokens : List Int
def statusM (W : Wd) (i : Int) : St := match nodeAt W i with
  | none => ⟨1, 0, [], [], []⟩
  | some d => ⟨0, d.count, d.kept.map fun k => (k.1 : Int), ackL d.count d.acked i.toNat W.nodes.length, tokL d.p.K W.nodes.length⟩
def zW (n : Nat) : Wd := ⟨List.replicate n (zNd n), [], 0⟩

/-- What holds of a node of a world of n nodes whose nodes tell one another nothing. -/
structure NOk (n i : Nat) (d : Nd) : Prop where
  sL : d.p.L.Pairwise fun a b => aheadB a b = true
  sK : d.p.K = (List.range d.made).map fun (k : Nat) => ((i : Int), (k : Int) + 1)
  sub : ∀ e ∈ d.p.L, e.2 ∈ d.p.K
  nm : ∀ e ∈ d.p.L, nameB e.1 = true
  len : d.count + d.p.L.length ≤ 2 * d.made
  kept : d.kept.length = d.count
  acked : d.acked.length = n
  made : d.made ≤ 30
structure WOk (W : Wd) : Prop where
  one : 1 ≤ W.nodes.length
  five : W.nodes.length ≤ 5
  adds : W.adds ≤ 30
  sum : (W.nodes.map Nd.made).sum = W.adds
  node : ∀ (i : Nat) (d : Nd), W.nodes[i]? = some d → NOk W.nodes.length i d

/-- The calls of a world, of either kind, that lies in memory by the relation R. -/
structure Ops (fNew fAdd fRemove fClear fItems fText fStatus : FuncId) (R : World → (Nat → Prop) → Nat → Wd → Prop) : Prop where
  lt : ∀ {w : World} {S : Nat → Prop} {p : Nat} {W : Wd}, R w S p W → ∀ b, S b → b < w.heap.size
  kp : ∀ {w w' : World} {S S' : Nat → Prop} {B p : Nat} {W : Wd}, R w S p W → Kp B S' w w' → Off S B S' → R w' S p W
  newNo : ∀ (n : Int) (w : World), n < 1 ∨ 5 < n → Calls Tryz.prog fNew #[.int .i64 n] w fun e w' => e = .returned (.tuple #[.pointer none, err 1]) ∧ Below w.heap.size w w'
  newYes : ∀ (n : Nat) (w : World), 1 ≤ n → n ≤ 5 → Calls Tryz.prog fNew #[.int .i64 n] w fun e w' => ∃ q, e = .returned (.tuple #[ptr q, err 0]) ∧ R w' (Ext NoS w w') q (zW n) ∧ Below w.heap.size w w'
  add : ∀ (w : World) (S : Nat → Prop) (p : Nat) (W : Wd) (i : Int) (s : Nm), R w S p W → WOk W → s.length ≤ 2000000 →
    Calls Tryz.prog fAdd #[ptr p, .int .i64 i, strV s] w fun e w' => e = .returned (err (addM W i s).1) ∧ R w' (Ext S w w') p (addM W i s).2 ∧ Kp w.heap.size S w w'
  remove : ∀ (w : World) (S : Nat → Prop) (p : Nat) (W : Wd) (i : Int) (s : Nm), R w S p W → WOk W → s.length ≤ 2000000 →
    Calls Tryz.prog fRemove #[ptr p, .int .i64 i, strV s] w fun e w' => e = .returned (err (removeM W i s).1) ∧ R w' (Ext S w w') p (removeM W i s).2 ∧ Kp w.heap.size S w w'
  clear : ∀ (w : World) (S : Nat → Prop) (p : Nat) (W : Wd) (i : Int), R w S p W → WOk W →
    Calls Tryz.prog fClear #[ptr p, .int .i64 i] w fun e w' => e = .returned (err (clearM W i).1) ∧ R w' (Ext S w w') p (clearM W i).2 ∧ Kp w.heap.size S w w'
  items : ∀ (w : World) (S : Nat → Prop) (p : Nat) (W : Wd) (i : Int), R w S p W → WOk W →
    Calls Tryz.prog fItems #[ptr p, .int .i64 i] w fun e w' => ∃ v, e = .returned (.tuple #[v, err (itemsM W i).1]) ∧ StrR w' v (itemsM W i).2 ∧ (∀ g, v.ownBlock = some g → w.heap.size ≤ g) ∧ Below w.heap.size w w'
  text : ∀ (w : World) (S : Nat → Prop) (p : Nat) (W : Wd) (i : Int), R w S p W → WOk W →
    Calls Tryz.prog fText #[ptr p, .int .i64 i] w fun e w' => e = .returned (.tuple #[strV (textM W i).2, err (textM W i).1]) ∧ Below w.heap.size w w'
  status : ∀ (w : World) (S : Nat → Prop) (p : Nat) (W : Wd) (i : Int), R w S p W → WOk W →
    Calls Tryz.prog fStatus #[ptr p, .int .i64 i] w fun e w' => ∃ vK vA vT, e = .returned (.tuple #[.agg #[.int .i64 (statusM W i).count, vK, vA, vT], err (statusM W i).err]) ∧
      IntR w' vK (statusM W i).kept ∧ IntR w' vA (statusM W i).acked ∧ IntR w' vT (statusM W i).tokens ∧
      (∀ g, vK.ownBlock = some g → w.heap.size ≤ g) ∧ (∀ g, vA.ownBlock = some g → w.heap.size ≤ g) ∧ (∀ g, vT.ownBlock = some g → w.heap.size ≤ g) ∧
      (∀ g, vK.ownBlock = some g → vA.ownBlock = some g → False) ∧ (∀ g, vK.ownBlock = some g → vT.ownBlock = some g → False) ∧ (∀ g, vA.ownBlock = some g → vT.ownBlock = some g → False) ∧ Below w.heap.size w w'
end Go.Proofs.YtnniimfinakioaaGreatDoor
namespace Go.Proofs.YtnniimfinakioaaGreatDoor
open Go.RowKit

section
variable {α : Type} {bef : α → α → Bool}
structure Ordr (bef : α → α → Bool) : Prop where
  irr : ∀ a, bef a a = false
  tr : ∀ a b c, bef a b = true → bef b c = true → bef a c = true
  tot : ∀ a b, a ≠ b → bef a b = true ∨ bef b a = true
abbrev Sorted (bef : α → α → Bool) (l : List α) : Prop := l.Pairwise fun a b => bef a b = true

theorem insB_nil (t : α) : insB bef [] t = [t] := by simp [insB, posB]
theorem posB_le (l : List α) (t : α) : posB bef l t ≤ l.length := by
  unfold posB
  have := (List.dropWhile_suffix (fun x => !bef x t) (l := l.reverse)).length_le
  simpa using this
theorem insB_snoc (l : List α) (y t : α) : insB bef (l ++ [y]) t = if bef y t then l ++ [y] ++ [t] else insB bef l t ++ [y] := by
  unfold insB
  rw [posB_snoc]
  split
  · rw [List.take_of_length_le (by simp), List.drop_eq_nil_of_le (by simp)]
  · have := posB_le (bef := bef) l t
    rw [List.take_append_of_le_length this, List.drop_append_of_le_length this]
    simp
theorem mem_insB (l : List α) (t x : α) : x ∈ insB bef l t ↔ x ∈ l ∨ x = t := by
  unfold insB
  rw [List.mem_append, List.mem_cons]
  have h := List.take_append_drop (posB bef l t) l
  constructor
  · rintro (h1 | h1 | h1)
    · exact Or.inl (List.mem_of_mem_take h1)
    · exact Or.inr h1
    · exact Or.inl (List.mem_of_mem_drop h1)
  · rintro (h1 | h1)
    · rw [← h, List.mem_append] at h1
      rcases h1 with h1 | h1
      · exact Or.inl h1
      · exact Or.inr (Or.inr h1)
    · exact Or.inr (Or.inl h1)
theorem snoc_ind {P : List α → Prop} (h0 : P []) (h1 : ∀ l y, P l → P (l ++ [y])) (l : List α) : P l := by
  have : ∀ m : List α, P m.reverse := by
    intro m
    induction m with
    | nil => exact h0
    | cons x m ih => rw [List.reverse_cons]; exact h1 _ _ ih
  simpa using this l.reverse
theorem insB_last (l : List α) (t : α) (h : ∀ x ∈ l, bef x t = true) : insB bef l t = l ++ [t] := by
  induction l using snoc_ind with
  | h0 => exact insB_nil t
  | h1 l y _ => rw [insB_snoc, if_pos (h y (by simp))]
theorem insB_sorted (O : Ordr bef) (l : List α) (t : α) (hs : Sorted bef l) (ht : ¬ t ∈ l) : Sorted bef (insB bef l t) := by
  induction l using snoc_ind with
  | h0 => rw [insB_nil]; simp [Sorted]
  | h1 l y ih =>
    rw [insB_snoc]
    have hs' := List.pairwise_append.1 hs
    split
    · rename_i hb
      refine List.pairwise_append.2 ⟨hs, by simp, ?_⟩
      intro a ha b hb'
      rw [List.mem_singleton] at hb'
      subst hb'
      rcases List.mem_append.1 ha with ha | ha
      · exact O.tr _ _ _ (hs'.2.2 a ha y (by simp)) hb
      · rw [List.mem_singleton] at ha; subst ha; exact hb
    · rename_i hb
      refine List.pairwise_append.2 ⟨ih hs'.1 (fun h => ht (by simp [h])), by simp, ?_⟩
      intro a ha b hb'
      rw [List.mem_singleton] at hb'
      subst hb'
      rcases (mem_insB l t a).1 ha with ha | rfl
      · exact hs'.2.2 a ha b (by simp)
      · rcases O.tot a b (fun e => ht (by simp [e])) with h | h
        · exact h
        · exact absurd h hb
end

theorem ord_before : Ordr beforeB where
  irr a := by simp [beforeB]
  tr a b c h1 h2 := by simp [beforeB] at *; omega
  tot a b h := by
    obtain ⟨a1, a2⟩ := a
    obtain ⟨b1, b2⟩ := b
    simp [beforeB] at *
    omega
theorem ord_ahead : Ordr aheadB where
  irr a := by simp [aheadB, ord_before.irr]
  tr a b c h1 h2 := by
    unfold aheadB at *
    rw [bytesLess_eq] at *
    by_cases hab : a.1 = b.1
    · rw [if_pos hab] at h1
      by_cases hbc : b.1 = c.1
      · rw [if_pos hbc] at h2
        rw [if_pos (hab.trans hbc)]
        exact ord_before.tr _ _ _ h1 h2
      · rw [if_neg hbc] at h2
        rw [if_neg (fun e => hbc (hab.symm.trans e)), hab]
        exact h2
    · rw [if_neg hab] at h1
      by_cases hbc : b.1 = c.1
      · rw [if_neg (fun e => hab (e.trans hbc.symm)), ← hbc]
        exact h1
      · rw [if_neg hbc] at h2
        simp only [decide_eq_true_eq] at h1 h2
        have h3 := List.lt_trans h1 h2
        rw [if_neg (fun e => by rw [e] at h3; exact List.lt_irrefl _ h3)]
        simpa using h3
  tot a b h := by
    unfold aheadB
    rw [bytesLess_eq, bytesLess_eq]
    by_cases hab : a.1 = b.1
    · rw [if_pos hab, if_pos hab.symm]
      exact ord_before.tot _ _ (fun e => h (Prod.ext hab e))
    · rw [if_neg hab, if_neg (Ne.symm hab)]
      simp only [decide_eq_true_eq]
      rcases Classical.em (a.1 < b.1) with h1 | h1
      · exact Or.inl h1
      · refine Or.inr (Classical.byContradiction fun h2 => hab ?_)
        exact List.le_antisymm (List.not_lt.1 h2) (List.not_lt.1 h1)

theorem mem_flt {β : Type} {p : β → Bool} {l : List β} {x : β} (h : x ∈ l.filter p) : x ∈ l := (List.mem_filter.1 h).1
theorem put_sorted (p : Ent → Bool) (l : List Ent) : ∀ acc, Sorted aheadB (acc ++ l) → l.foldl (putIf p) acc = acc ++ l.filter p := by
  induction l with
  | nil => intro acc _; simp
  | cons x l ih =>
    intro acc h
    have h' := List.pairwise_append.1 h
    rw [List.foldl_cons, List.filter_cons]
    unfold putIf
    cases hp : p x with
    | false =>
      simp only [Bool.false_eq_true, if_false]
      exact ih acc (List.pairwise_append.2 ⟨h'.1, (List.pairwise_cons.1 h'.2.1).2, fun a ha b hb => h'.2.2 a ha b (by simp [hb])⟩)
    | true =>
      simp only [if_true]
      rw [insB_last acc x (fun y hy => h'.2.2 y hy x (by simp))]
      have := ih (acc ++ [x]) (by rw [List.append_assoc]; exact h)
      rw [show acc ++ x :: l.filter p = acc ++ [x] ++ l.filter p by simp]
      exact this
theorem learn_sorted (l : List Tok) : ∀ acc, Sorted beforeB (acc ++ l) → l.foldl learnL acc = acc ++ l := by
  induction l with
  | nil => intro acc _; simp
  | cons x l ih =>
    intro acc h
    have h' := List.pairwise_append.1 h
    have hx : ¬ x ∈ acc := fun hx => by
      have := h'.2.2 x hx x (by simp)
      rw [ord_before.irr] at this; cases this
    rw [List.foldl_cons, learnL, if_neg hx, insB_last acc x (fun y hy => h'.2.2 y hy x (by simp))]
    have := ih (acc ++ [x]) (by rw [List.append_assoc]; exact h)
    rw [this, List.append_assoc]; rfl
theorem mem_learn (K : List Tok) (t x : Tok) : x ∈ learnL K t ↔ x ∈ K ∨ x = t := by
  unfold learnL
  split
  · rename_i h
    exact ⟨Or.inl, fun hx => hx.elim id (fun e => e ▸ h)⟩
  · exact mem_insB K t x
theorem learn_in (t : Tok) (l : List Tok) : ∀ acc : List Tok, (∀ x ∈ l, x ∈ acc ∨ x = t) → l.foldl learnL acc = if t ∈ l then learnL acc t else acc := by
  induction l with
  | nil => intro acc _; simp
  | cons x l ih =>
    intro acc h
    rw [List.foldl_cons]
    rcases h x (by simp) with hx | rfl
    · rw [learnL, if_pos hx, ih acc (fun y hy => h y (by simp [hy]))]
      by_cases hxt : t = x
      · subst hxt
        rw [if_pos (List.mem_cons_self), learnL, if_pos hx]
        split <;> rfl
      · simp [hxt]
    · rw [if_pos (List.mem_cons_self), ih (learnL acc x) (fun y hy => by
        rcases h y (by simp [hy]) with h1 | h1
        · exact Or.inl ((mem_learn _ _ _).2 (Or.inl h1))
        · exact Or.inr h1)]
      have hin : x ∈ learnL acc x := (mem_learn _ _ _).2 (Or.inr rfl)
      split
      · rw [learnL, if_pos hin]
      · rfl
theorem mem_ofK (L : List Ent) (x : Tok) : x ∈ ofK L ↔ ∃ e ∈ L, e.2 = x := by
  have : ∀ (L : List Ent) (acc : List Tok), x ∈ L.foldl lrnE acc ↔ x ∈ acc ∨ ∃ e ∈ L, e.2 = x := by
    intro L
    induction L with
    | nil => intro acc; simp
    | cons e L ih =>
      intro acc
      rw [List.foldl_cons, ih, lrnE, mem_learn]
      constructor
      · rintro ((h | h) | ⟨a, ha, h⟩)
        · exact Or.inl h
        · exact Or.inr ⟨e, by simp, h.symm⟩
        · exact Or.inr ⟨a, by simp [ha], h⟩
      · rintro (h | ⟨a, ha, h⟩)
        · exact Or.inl (Or.inl h)
        · rcases List.mem_cons.1 ha with rfl | ha
          · exact Or.inl (Or.inr h.symm)
          · exact Or.inr ⟨a, ha, h⟩
  simpa [ofK] using this L []

/-! One node. -/
def tokR (i m : Nat) : List Tok := (List.range m).map fun (k : Nat) => ((i : Int), (k : Int) + 1)
theorem tokR_succ (i m : Nat) : tokR i (m + 1) = tokR i m ++ [((i : Int), (m : Int) + 1)] := by simp [tokR, List.range_succ]
theorem tokR_new (i m : Nat) : ¬ ((i : Int), (m : Int) + 1) ∈ tokR i m := by
  simp [tokR]
  omega
theorem tokR_bef (i m : Nat) : ∀ x ∈ tokR i m, beforeB x ((i : Int), (m : Int) + 1) = true := by
  intro x hx
  obtain ⟨k, hk, rfl⟩ := List.mem_map.1 hx
  have := List.mem_range.1 hk
  simp [beforeB]; omega
theorem tokR_sorted (i m : Nat) : Sorted beforeB (tokR i m) := by
  induction m with
  | zero => simp [tokR, Sorted]
  | succ m ih =>
    rw [tokR_succ]
    exact List.pairwise_append.2 ⟨ih, by simp, fun a ha b hb => by rw [List.mem_singleton] at hb; subst hb; exact tokR_bef i m a ha⟩

theorem filter_lt {β : Type} (p : β → Bool) (l : List β) (x : β) (hx : x ∈ l) (hp : p x = false) : (l.filter p).length < l.length := by
  have h := List.length_filter_le p l
  rcases Nat.lt_or_ge (l.filter p).length l.length with h' | h'
  · exact h'
  · have e := List.length_filter_eq_length_iff.1 (Nat.le_antisymm h h') x hx
    rw [hp] at e; cases e

theorem NOk.add {n i : Nat} {d : Nd} (h : NOk n i d) {s : Nm} (hs : nameB s = true) (hm : d.made + 1 ≤ 30) : NOk n i (addN d i s) := by
  have hK : d.p.K = tokR i d.made := h.sK
  have hnew : ¬ ((i : Int), ((d.made + 1 : Nat) : Int)) ∈ d.p.K := by rw [hK]; exact tokR_new i d.made
  have hbK : ∀ x ∈ learnL (ofK (named s d.p.L)) ((i : Int), ((d.made + 1 : Nat) : Int)), x ∈ d.p.K ∨ x = ((i : Int), ((d.made + 1 : Nat) : Int)) := by
    intro x hx
    rcases (mem_learn _ _ _).1 hx with h1 | h1
    · obtain ⟨e, he, rfl⟩ := (mem_ofK _ _).1 h1
      exact Or.inl (h.sub e (mem_flt he))
    · exact Or.inr h1
  have eK : joinK d.p.K (learnL (ofK (named s d.p.L)) ((i : Int), ((d.made + 1 : Nat) : Int))) = tokR i (d.made + 1) := by
    unfold joinK
    rw [learn_sorted d.p.K [] (by rw [List.nil_append, hK]; exact tokR_sorted i d.made), List.nil_append, learn_in _ _ _ hbK, if_pos ((mem_learn _ _ _).2 (Or.inr rfl)), learnL, if_neg hnew, insB_last _ _ (by rw [hK]; exact tokR_bef i d.made), hK, tokR_succ]
    rfl
  have eL : joinL d.p.L d.p.K [(s, ((i : Int), ((d.made + 1 : Nat) : Int)))] (learnL (ofK (named s d.p.L)) ((i : Int), ((d.made + 1 : Nat) : Int))) = insB aheadB (d.p.L.filter (keepA [(s, ((i : Int), ((d.made + 1 : Nat) : Int)))] (learnL (ofK (named s d.p.L)) ((i : Int), ((d.made + 1 : Nat) : Int))))) (s, ((i : Int), ((d.made + 1 : Nat) : Int))) := by
    unfold joinL
    rw [put_sorted _ d.p.L [] (by rw [List.nil_append]; exact h.sL), List.nil_append, List.foldl_cons, List.foldl_nil, putIf, if_pos (by simpa using hnew)]
  have hLin : ∀ e, e ∈ joinL d.p.L d.p.K [(s, ((i : Int), ((d.made + 1 : Nat) : Int)))] (learnL (ofK (named s d.p.L)) ((i : Int), ((d.made + 1 : Nat) : Int))) → e ∈ d.p.L ∨ e = (s, ((i : Int), ((d.made + 1 : Nat) : Int))) := by
    intro e he
    rw [eL, mem_insB] at he
    exact he.imp_left mem_flt
  replace eK : (addN d i s).p.K = tokR i (d.made + 1) := eK
  replace eL : (addN d i s).p.L = _ := eL
  replace hLin : ∀ e, e ∈ (addN d i s).p.L → _ := hLin
  refine ⟨?_, eK, ?_, ?_, ?_, ?_, h.acked, hm⟩
  · show Sorted aheadB (addN d i s).p.L
    rw [eL]
    exact insB_sorted ord_ahead _ _ (h.sL.filter _) (fun hx => hnew (h.sub _ (mem_flt hx)))
  · intro e he
    rw [eK, tokR_succ, ← hK]
    rcases hLin e he with h1 | rfl
    · exact List.mem_append_left _ (h.sub e h1)
    · exact List.mem_append_right _ (by simp)
  · intro e he
    rcases hLin e he with h1 | rfl
    · exact h.nm e h1
    · exact hs
  · show d.count + 1 + (addN d i s).p.L.length ≤ 2 * (d.made + 1)
    rw [eL, insB_length]
    have := List.length_filter_le (keepA [(s, ((i : Int), ((d.made + 1 : Nat) : Int)))] (learnL (ofK (named s d.p.L)) ((i : Int), ((d.made + 1 : Nat) : Int)))) d.p.L
    have := h.len
    omega
  · show (d.kept ++ [_]).length = d.count + 1
    rw [List.length_append, h.kept]; rfl

theorem NOk.take {n i : Nat} {d : Nd} (h : NOk n i d) {es : List Ent} (hes : ∀ e ∈ es, e ∈ d.p.L) (hne : es ≠ []) : NOk n i (newsM d ⟨[], ofK es⟩) := by
  have hK : d.p.K = tokR i d.made := h.sK
  have eK : joinK d.p.K (ofK es) = d.p.K := by
    unfold joinK
    rw [learn_sorted d.p.K [] (by rw [List.nil_append, hK]; exact tokR_sorted i d.made), List.nil_append, learn_in ((i : Int), ((d.made : Nat) : Int) + 1) _ _ (fun x hx => by
      obtain ⟨e, he, rfl⟩ := (mem_ofK _ _).1 hx
      exact Or.inl (h.sub e (hes e he))), if_neg (fun hx => by
      obtain ⟨e, he, h2⟩ := (mem_ofK _ _).1 hx
      have := h.sub e (hes e he)
      rw [h2, hK] at this
      exact tokR_new i d.made this)]
  have eL : joinL d.p.L d.p.K [] (ofK es) = d.p.L.filter (keepA [] (ofK es)) := by
    unfold joinL
    rw [put_sorted _ d.p.L [] (by rw [List.nil_append]; exact h.sL), List.nil_append, List.foldl_nil]
  refine ⟨?_, eK.trans h.sK, ?_, ?_, ?_, ?_, h.acked, h.made⟩
  · show Sorted aheadB (joinL _ _ _ _)
    rw [eL]
    exact h.sL.filter _
  · intro e he
    show e.2 ∈ joinK _ _
    rw [eK]
    have he' : e ∈ joinL d.p.L d.p.K [] (ofK es) := he
    rw [eL] at he'
    exact h.sub e (mem_flt he')
  · intro e he
    have he' : e ∈ joinL d.p.L d.p.K [] (ofK es) := he
    rw [eL] at he'
    exact h.nm e (mem_flt he')
  · show d.count + 1 + (joinL _ _ _ _).length ≤ 2 * d.made
    rw [eL]
    obtain ⟨e, he⟩ := List.exists_mem_of_ne_nil es hne
    have := filter_lt (keepA [] (ofK es)) d.p.L e (hes e he) (by
      have : e.2 ∈ ofK es := (mem_ofK _ _).2 ⟨e, he, rfl⟩
      simp [keepA, this])
    have := h.len
    omega
  · show (d.kept ++ [_]).length = d.count + 1
    rw [List.length_append, h.kept]; rfl

/-! A world. -/
theorem sum_set (l : List Nat) : ∀ (k a b : Nat), l[k]? = some a → (l.set k b).sum + a = l.sum + b := by
  induction l with
  | nil => intro k a b h; simp at h
  | cons x l ih =>
    intro k a b h
    cases k with
    | zero =>
      simp only [List.getElem?_cons_zero, Option.some.injEq] at h
      subst h
      simp only [List.set_cons_zero, List.sum_cons]; omega
    | succ k =>
      simp only [List.getElem?_cons_succ] at h
      have := ih k a b h
      simp only [List.set_cons_succ, List.sum_cons]; omega
theorem WOk.set {W : Wd} (h : WOk W) {k : Nat} {d d' : Nd} (hd : W.nodes[k]? = some d) (hn : NOk W.nodes.length k d') {a : Nat} (ha : a ≤ 30) (hs : W.adds + d'.made = a + d.made) : WOk { W with nodes := W.nodes.set k d', adds := a } := by
  refine ⟨by simpa using h.one, by simpa using h.five, ha, ?_, ?_⟩
  · show ((W.nodes.set k d').map Nd.made).sum = a
    rw [List.map_set]
    have := sum_set (W.nodes.map Nd.made) k d.made d'.made (by rw [List.getElem?_map, hd]; rfl)
    rw [h.sum] at this
    omega
  · intro i x hx
    show NOk (W.nodes.set k d').length i x
    rw [List.length_set]
    rcases set_at hx with ⟨rfl, rfl⟩ | ⟨_, hx⟩
    · exact hn
    · exact h.node i x hx
theorem made_le (l : List Nat) : ∀ (k a : Nat), l[k]? = some a → a ≤ l.sum := by
  induction l with
  | nil => intro k a h; simp at h
  | cons x l ih =>
    intro k a h
    cases k with
    | zero => simp only [List.getElem?_cons_zero, Option.some.injEq] at h; subst h; simp
    | succ k => simp only [List.getElem?_cons_succ] at h; have := ih k a h; simp; omega
theorem WOk.add {W : Wd} (h : WOk W) (i : Int) (s : Nm) : WOk (addM W i s).2 := by
  unfold addM
  cases hn : nodeAt W i with
  | none => exact h
  | some d =>
    cases hb : nameB s with
    | false => exact h
    | true =>
      by_cases h30 : 30 ≤ W.adds
      · simp only [h30, if_true]; exact h
      · simp only [h30, if_false]
        have hk : W.nodes[i.toNat]? = some d := by unfold nodeAt at hn; split at hn; cases hn; exact hn
        have hm := made_le (W.nodes.map Nd.made) i.toNat d.made (by rw [List.getElem?_map, hk]; rfl)
        rw [h.sum] at hm
        exact h.set hk ((h.node _ _ hk).add hb (by omega)) (by omega) (by show W.adds + (d.made + 1) = W.adds + 1 + d.made; omega)
theorem WOk.take {W : Wd} (h : WOk W) {i : Int} {d : Nd} (hn : nodeAt W i = some d) {es : List Ent} (hes : ∀ e ∈ es, e ∈ d.p.L) : WOk (takeM W i d es).2 := by
  unfold takeM
  split
  · exact h
  · rename_i hne
    have hk : W.nodes[i.toNat]? = some d := by unfold nodeAt at hn; split at hn; cases hn; exact hn
    exact h.set hk ((h.node _ _ hk).take hes hne) h.adds rfl
theorem WOk.remove {W : Wd} (h : WOk W) (i : Int) (s : Nm) : WOk (removeM W i s).2 := by
  unfold removeM
  cases hn : nodeAt W i with
  | none => exact h
  | some d =>
    cases hb : nameB s with
    | false => exact h
    | true => exact h.take hn fun e he => mem_flt he
theorem WOk.clear {W : Wd} (h : WOk W) (i : Int) : WOk (clearM W i).2 := by
  unfold clearM
  cases hn : nodeAt W i with
  | none => exact h
  | some d => exact h.take hn fun e he => he
theorem WOk.zero {n : Nat} (h1 : 1 ≤ n) (h5 : n ≤ 5) : WOk (zW n) := by
  refine ⟨by simpa [zW] using h1, by simpa [zW] using h5, by simp [zW], by simp [zW, zNd], ?_⟩
  intro i d hd
  have := List.eq_of_mem_replicate (List.mem_of_getElem? hd)
  subst this
  exact ⟨by simp [zNd], by simp [zNd], by simp [zNd], by simp [zNd], by simp [zNd], by simp [zNd], by simp [zNd, zW], by simp [zNd]⟩
end Go.Proofs.YtnniimfinakioaaGreatDoor
