import Derived.Test.YtnniimfinakioaaGreatDoorXk
namespace Go.Proofs.YtnniimfinakioaaGreatDoor
open Go.RowKit
attribute [local go_sem ↓] eqTok eqEnt
attribute [local go_sem] toList_nm app_nm size_nm

/-- The law's world, with at most nt lists of texts and nn lists of numbers. -/
def LawS (w : World) (SL ST : Nat → Prop) (q : Nat) (vW : Value) (ws : List (Nat × Nat)) (nt nn : Nat) : Prop :=
  ∃ vTx tx vNu nu vM0 m0 vM1 m1 vMs mz vM2 m2, LawR w SL ST q vW ws vTx tx vNu nu vM0 m0 vM1 m1 vMs mz vM2 m2 ∧ tx.length ≤ nt ∧ nu.length ≤ nn ∧ mz.length ≤ nn ∧ ∀ m ∈ m0, m ≤ nt
section
variable {w w' : World} {SL ST : Nat → Prop} {q : Nat} {vW : Value} {ws : List (Nat × Nat)} {nt nn : Nat}
theorem LawS.kp {S' : Nat → Prop} {B : Nat} (h : LawS w SL ST q vW ws nt nn) (k : Kp B S' w w') (o1 : Off SL B S') (o2 : Off ST B S') : LawS w' SL ST q vW ws nt nn := by
  obtain ⟨vTx, tx, vNu, nu, vM0, m0, vM1, m1, vMs, mz, vM2, m2, h, r⟩ := h
  exact ⟨vTx, tx, vNu, nu, vM0, m0, vM1, m1, vMs, mz, vM2, m2, h.kp k o1 o2, r⟩
theorem LawS.below (h : LawS w SL ST q vW ws nt nn) (k : Below w.heap.size w w') : LawS w' SL ST q vW ws nt nn := by
  obtain ⟨vTx, tx, vNu, nu, vM0, m0, vM1, m1, vMs, mz, vM2, m2, h, r⟩ := h
  exact ⟨vTx, tx, vNu, nu, vM0, m0, vM1, m1, vMs, mz, vM2, m2, h.below k, r⟩
theorem LawS.more {nt' nn' : Nat} (h : LawS w SL ST q vW ws nt nn) (h1 : nt ≤ nt') (h2 : nn ≤ nn') : LawS w SL ST q vW ws nt' nn' := by
  obtain ⟨vTx, tx, vNu, nu, vM0, m0, vM1, m1, vMs, mz, vM2, m2, h, r1, r2, r2m, r3⟩ := h
  exact ⟨vTx, tx, vNu, nu, vM0, m0, vM1, m1, vMs, mz, vM2, m2, h, by omega, by omega, by omega, fun m hm => by have := r3 m hm; omega⟩
theorem LawS.lt (h : LawS w SL ST q vW ws nt nn) : (∀ b, SL b → b < w.heap.size) ∧ (∀ b, ST b → b < w.heap.size) ∧ ∀ b, SL b → ST b → False := by
  obtain ⟨vTx, tx, vNu, nu, vM0, m0, vM1, m1, vMs, mz, vM2, m2, h, r⟩ := h
  exact ⟨h.lt, h.ltT, h.apart⟩
theorem LawS.looks (h : LawS w SL ST q vW ws nt nn) (h1 : nt ≤ 1000000000) (h2 : nn ≤ 1000000000) :
    Calls Tryz.prog 41 #[ptr q] w fun e w' => e = .returned (.bool true) ∧ Below w.heap.size w w' := by
  obtain ⟨vTx, tx, vNu, nu, vM0, m0, vM1, m1, vMs, mz, vM2, m2, h, r1, r2, r2m, r3⟩ := h
  exact looks_any w SL ST q vW ws vTx tx vNu nu vM0 m0 vM1 m1 vMs mz vM2 m2 h (by omega) (by omega) (by omega) (fun m hm => by have := r3 m hm; omega)
theorem LawS.texts (h : LawS w SL ST q vW ws nt nn) (h1 : nt ≤ 1000000000) (v : Value) (l : List Nm) (hv : StrR w v l) (hl : l.length ≤ 1000000) (hsep : ∀ g, v.ownBlock = some g → ¬ SL g ∧ ¬ ST g) :
    Calls Tryz.prog 99 #[ptr q, v] w fun e w' => e = .returned (.tuple #[]) ∧ ∃ SL' ST', LawS w' SL' ST' q vW ws (nt + 4) nn ∧ Owned w SL ST v.ownBlock SL' ST' w' := by
  obtain ⟨vTx, tx, vNu, nu, vM0, m0, vM1, m1, vMs, mz, vM2, m2, h, r1, r2, r2m, r3⟩ := h
  have hlen := h.len0
  refine (ownTexts_any w SL ST q vW ws vTx tx vNu nu vM0 m0 vM1 m1 vMs mz vM2 m2 h (by omega) v l hv hl hsep).mono ?_
  rintro e w' ⟨rfl, SL', ST', vTx', v1, v2, v3, vM0', h', o⟩
  refine ⟨rfl, SL', ST', ⟨_, _, _, _, _, _, _, _, _, _, _, _, h', by simp; omega, r2, r2m, fun m hm => ?_⟩, o⟩
  rcases List.mem_append.1 hm with hm | hm
  · have := r3 m hm; omega
  · have := (List.mem_replicate.1 hm).2; omega
theorem LawS.numbers (h : LawS w SL ST q vW ws nt nn) (h1 : nn ≤ 1000000000) (v : Value) (l : List Int) (hv : IntR w v l) (hl : l.length ≤ 1000000) (hsep : ∀ g, v.ownBlock = some g → ¬ SL g ∧ ¬ ST g) :
    Calls Tryz.prog 103 #[ptr q, v] w fun e w' => e = .returned (.tuple #[]) ∧ ∃ SL' ST', LawS w' SL' ST' q vW ws nt (nn + 4) ∧ Owned w SL ST v.ownBlock SL' ST' w' := by
  obtain ⟨vTx, tx, vNu, nu, vM0, m0, vM1, m1, vMs, mz, vM2, m2, h, r1, r2, r2m, r3⟩ := h
  refine (ownNumbers_any w SL ST q vW ws vTx tx vNu nu vM0 m0 vM1 m1 vMs mz vM2 m2 h (by omega) v l hv hl hsep).mono ?_
  rintro e w' ⟨rfl, SL', ST', vNu', v1, v2, v3, vM1', h', o⟩
  exact ⟨rfl, SL', ST', ⟨_, _, _, _, _, _, _, _, _, _, _, _, h', r1, by simp; omega, by omega, r3⟩, o⟩
theorem LawS.messages (h : LawS w SL ST q vW ws nt nn) (h1 : nn ≤ 1000000000) (v : Value) (l : List Tm) (hv : TmR w v l) (hl : l.length ≤ 1000000) (hsep : ∀ g, v.ownBlock = some g → ¬ SL g ∧ ¬ ST g) :
    Calls Tryz.prog 106 #[ptr q, v] w fun e w' => e = .returned (.tuple #[]) ∧ ∃ SL' ST', LawS w' SL' ST' q vW ws nt (nn + 4) ∧ Owned w SL ST v.ownBlock SL' ST' w' := by
  obtain ⟨vTx, tx, vNu, nu, vM0, m0, vM1, m1, vMs, mz, vM2, m2, h, r1, r2, r2m, r3⟩ := h
  refine (ownMessages_any w SL ST q vW ws vTx tx vNu nu vM0 m0 vM1 m1 vMs mz vM2 m2 h (by omega) v l hv hl hsep).mono ?_
  rintro e w' ⟨rfl, SL', ST', vMs', v1, v2, v3, vM2', h', o⟩
  exact ⟨rfl, SL', ST', ⟨_, _, _, _, _, _, _, _, _, _, _, _, h', r1, by omega, by simp; omega, r3⟩, o⟩
end

/-- What a step that only tells leaves behind. -/
def AskD (w : World) (SL ST : Nat → Prop) (q : Nat) (vW : Value) (ws : List (Nat × Nat)) (nt nn : Nat) (w' : World) : Prop :=
  (∃ SL' ST', LawS w' SL' ST' q vW ws (nt + 4) (nn + 12) ∧ (∀ b, SL' b → SL b ∨ w.heap.size ≤ b) ∧ (∀ b, ST' b → ST b ∨ w.heap.size ≤ b)) ∧ Kp w.heap.size SL w w'

theorem itemsM_err (W : Wd) (i : Int) : 0 ≤ (itemsM W i).1 ∧ (itemsM W i).1 ≤ 4 := by unfold itemsM; split <;> simp
theorem textM_err (W : Wd) (i : Int) : 0 ≤ (textM W i).1 ∧ (textM W i).1 ≤ 4 := by unfold textM; split <;> simp
theorem statusM_err (W : Wd) (i : Int) : 0 ≤ (statusM W i).err ∧ (statusM W i).err ≤ 4 := by unfold statusM; split <;> simp
theorem itemsM_len {W : Wd} (ok : WG W) (i : Int) : (itemsM W i).2.length ≤ 60 := by
  obtain ⟨H, ok⟩ := ok
  unfold itemsM
  split
  · simp
  · rename_i d hd
    have := it_len d.p.L []
    have := ok.llen (ok.node _ d (nodeAt_is hd).2).pc
    simp only [itemsL, List.length_nil] at *
    omega


set_option maxHeartbeats 2000000 in
set_option maxRecDepth 100000 in
theorem asks_text {RX : World → (Nat → Prop) → Nat → Wd → Prop} {late : Prop} (OX : ProgOpsG late RX) (w : World) (SL ST SX SY : Nat → Prop) (q x y : Nat) (W : Wd) (h : TwoR RX w SX SY x y W) (vW : Value) (ws : List (Nat × Nat)) (nt nn : Nat) (hl : LawS w SL ST q vW ws nt nn) (c a b : Int) (s : Nm) :
    Calls Tryz.prog 74 #[ptr q, .agg #[ptr x, ptr y], .agg #[.int .i64 6, .int .i64 c, .int .i64 a, .int .i64 b, strV s]] w fun e w' => e = .returned (.bool true) ∧ AskD w SL ST q vW ws nt nn w' := by
  have hb0 : Below w.heap.size w ((w.alloc (.cells #[ptr x, ptr y] 128)).alloc (.cells #[.int .i64 6, .int .i64 c, .int .i64 a, .int .i64 b, strV s] 78)) := below2 w _ _
  have q1 : ((w.alloc (.cells #[ptr x, ptr y] 128)).alloc (.cells #[.int .i64 6, .int .i64 c, .int .i64 a, .int .i64 b, strV s] 78)).heap[w.heap.size]? = some (.cells #[ptr x, ptr y] 128 (0, 0)) := alloc_at (heap_alloc_new w _) _
  have q2 : ((w.alloc (.cells #[ptr x, ptr y] 128)).alloc (.cells #[.int .i64 6, .int .i64 c, .int .i64 a, .int .i64 b, strV s] 78)).heap[w.heap.size + 1]? = some (.cells #[.int .i64 6, .int .i64 c, .int .i64 a, .int .i64 b, strV s] 78 (0, 0)) := by
    have := heap_alloc_new (w.alloc (.cells #[ptr x, ptr y] 128)) (.cells #[.int .i64 6, .int .i64 c, .int .i64 a, .int .i64 b, strV s] 78)
    rw [World.size_alloc] at this
    exact this
  have HX0 := hide (OX.kp h.rx (Kp.ofBelow (S := NoS) hb0) (Off.none (OX.lt h.rx)))
  have HY0 := hide (h.ry.kp (Kp.ofBelow (S := NoS) hb0) (Off.none h.ry.lt))
  have HL0 := hide (hl.below hb0)
  have HB0 := hide hb0
  have Q1 := hide q1
  have Q2 := hide q2
  clear hb0 q1 q2
  obtain ⟨ge, le⟩ := textM_err W a
  obtain ⟨E, hE⟩ : ∃ E, (textM W a).1 = E := ⟨_, rfl⟩
  obtain ⟨T, hT⟩ : ∃ T, (textM W a).2 = T := ⟨_, rfl⟩
  rw [hE] at ge le
  have HE := hide hE
  have HT := hide hT
  clear hE hT
  go_enter Tryz.func74, Tryz.ntmps74
  go_wp2_with fail
  generalize (w.alloc (.cells #[ptr x, ptr y] 128)).alloc (.cells #[.int .i64 6, .int .i64 c, .int .i64 a, .int .i64 b, strV s] 78) = w0 at *
  have z1 := lt_of_heap Q1.out
  have z2 := lt_of_heap Q2.out
  refine (OX.text w0 SX x W a HX0.out h.ok).mono ?_
  rintro e w1 ⟨rfl, bb⟩
  rw [HE.out, HT.out]
  obtain ⟨e1, _⟩ := row_facts ((bb.block _ z1).trans Q1.out)
  obtain ⟨e2, _⟩ := row_facts ((bb.block _ z2).trans Q2.out)
  go_wp2_with fail
  refine (refOpsG.text w1 SY y W a (HY0.out.kp (Kp.ofBelow (S := NoS) bb) (Off.none HY0.out.lt)) h.ok).mono ?_
  rintro e w2 ⟨rfl, bb2⟩
  rw [HE.out, HT.out]
  clear e1 e2
  go_wp2_with fail
  refine (num_any E w2 (by omega) (by omega)).mono ?_
  rintro e w3 ⟨rfl, rfl⟩
  go_wp2_with fail
  refine (num_any E w2 (by omega) (by omega)).mono ?_
  rintro e w3 ⟨rfl, rfl⟩
  go_wp2_with fail
  go_ret
  have b1 := HB0.out.trans (bb.mono HB0.out.size)
  have b2 := b1.trans (bb2.mono b1.size)
  exact ⟨by simp, ⟨SL, ST, (hl.below b2).more (by omega) (by omega), fun _ h => Or.inl h, fun _ h => Or.inl h⟩, Kp.ofBelow b2⟩

set_option maxHeartbeats 2000000 in
set_option maxRecDepth 100000 in
theorem asks_items {RX : World → (Nat → Prop) → Nat → Wd → Prop} {late : Prop} (OX : ProgOpsG late RX) (w : World) (SL ST SX SY : Nat → Prop) (q x y : Nat) (W : Wd) (h : TwoR RX w SX SY x y W) (vW : Value) (ws : List (Nat × Nat)) (nt nn : Nat) (hl : LawS w SL ST q vW ws nt nn) (h1 : nt ≤ 1000000000) (h2 : nn ≤ 1000000000) (c a b : Int) (s : Nm) :
    Calls Tryz.prog 74 #[ptr q, .agg #[ptr x, ptr y], .agg #[.int .i64 5, .int .i64 c, .int .i64 a, .int .i64 b, strV s]] w fun e w' => e = .returned (.bool true) ∧ AskD w SL ST q vW ws nt nn w' := by
  have hb0 : Below w.heap.size w ((w.alloc (.cells #[ptr x, ptr y] 128)).alloc (.cells #[.int .i64 5, .int .i64 c, .int .i64 a, .int .i64 b, strV s] 78)) := below2 w _ _
  have q1 : ((w.alloc (.cells #[ptr x, ptr y] 128)).alloc (.cells #[.int .i64 5, .int .i64 c, .int .i64 a, .int .i64 b, strV s] 78)).heap[w.heap.size]? = some (.cells #[ptr x, ptr y] 128 (0, 0)) := alloc_at (heap_alloc_new w _) _
  have q2 : ((w.alloc (.cells #[ptr x, ptr y] 128)).alloc (.cells #[.int .i64 5, .int .i64 c, .int .i64 a, .int .i64 b, strV s] 78)).heap[w.heap.size + 1]? = some (.cells #[.int .i64 5, .int .i64 c, .int .i64 a, .int .i64 b, strV s] 78 (0, 0)) := by
    have := heap_alloc_new (w.alloc (.cells #[ptr x, ptr y] 128)) (.cells #[.int .i64 5, .int .i64 c, .int .i64 a, .int .i64 b, strV s] 78)
    rw [World.size_alloc] at this
    exact this
  have HX0 := hide (OX.kp h.rx (Kp.ofBelow (S := NoS) hb0) (Off.none (OX.lt h.rx)))
  have HY0 := hide (h.ry.kp (Kp.ofBelow (S := NoS) hb0) (Off.none h.ry.lt))
  have HL0 := hide (hl.below hb0)
  have HB0 := hide hb0
  have Q1 := hide q1
  have Q2 := hide q2
  clear hb0 q1 q2
  obtain ⟨ge, le⟩ := itemsM_err W a
  have hlen := itemsM_len h.ok a
  obtain ⟨E, hE⟩ : ∃ E, (itemsM W a).1 = E := ⟨_, rfl⟩
  obtain ⟨T, hT⟩ : ∃ T, (itemsM W a).2 = T := ⟨_, rfl⟩
  rw [hE] at ge le
  rw [hT] at hlen
  have HE := hide hE
  have HT := hide hT
  clear hE hT
  go_enter Tryz.func74, Tryz.ntmps74
  go_wp2_with fail
  generalize (w.alloc (.cells #[ptr x, ptr y] 128)).alloc (.cells #[.int .i64 5, .int .i64 c, .int .i64 a, .int .i64 b, strV s] 78) = w0 at *
  have z1 := lt_of_heap Q1.out
  have z2 := lt_of_heap Q2.out
  refine (OX.items w0 SX x W a HX0.out h.ok).mono ?_
  rintro e w1 ⟨v, rfl, rv, nv, bb⟩
  rw [HE.out]
  rw [HT.out] at rv
  obtain ⟨e1, _⟩ := row_facts ((bb.block _ z1).trans Q1.out)
  obtain ⟨e2, _⟩ := row_facts ((bb.block _ z2).trans Q2.out)
  go_wp2_with fail
  refine (refOpsG.items w1 SY y W a (HY0.out.kp (Kp.ofBelow (S := NoS) bb) (Off.none HY0.out.lt)) h.ok).mono ?_
  rintro e w2 ⟨u, rfl, ru, nu, bb2⟩
  rw [HE.out]
  rw [HT.out] at ru
  clear e1 e2
  go_wp2_with fail
  refine (sameTexts_any v u T T w2 (rv.below bb2) ru (by omega) (by omega)).mono ?_
  rintro e w3 ⟨rfl, bb3⟩
  rw [decide_eq_true (rfl : T = T)]
  have b1 := HB0.out.trans (bb.mono HB0.out.size)
  have b2 := b1.trans (bb2.mono b1.size)
  have b3 := b2.trans (bb3.mono b2.size)
  go_wp2_with fail
  refine ((hl.below b3).looks h1 h2).mono ?_
  rintro e w4 ⟨rfl, bb4⟩
  have b4 := b3.trans (bb4.mono b3.size)
  go_wp2_with fail
  have hv4 : StrR w4 v T := ((rv.below bb2).below bb3).below bb4
  have nv' : ∀ g, v.ownBlock = some g → w.heap.size ≤ g := fun g hg => Nat.le_trans HB0.out.size (nv g hg)
  refine ((hl.below b4).texts h1 v T hv4 (by omega) (fun g hg => ⟨fun hh => by have := hl.lt.1 g hh; have := nv' g hg; omega, fun hh => by have := hl.lt.2.1 g hh; have := nv' g hg; omega⟩)).mono ?_
  rintro e w5 ⟨rfl, SL', ST', hl5, ow⟩
  go_wp2_with fail
  refine (num_any E w5 (by omega) (by omega)).mono ?_
  rintro e w6 ⟨rfl, rfl⟩
  go_wp2_with fail
  refine (num_any E w5 (by omega) (by omega)).mono ?_
  rintro e w6 ⟨rfl, rfl⟩
  go_wp2_with fail
  go_ret
  have s4 := b4.size
  refine ⟨by simp, ⟨SL', ST', hl5.more (by omega) (by omega), fun b hb => ?_, fun b hb => ?_⟩, (Kp.ofBelow b4).trans (ow.kp.mono s4 fun b hb hh => ?_)⟩
  · rcases ow.sl b hb with hh | hh
    · exact Or.inl hh
    · exact Or.inr (by omega)
  · rcases ow.st b hb with hh | hh | hh
    · exact Or.inl hh
    · exact Or.inr (nv' b hh)
    · exact Or.inr (by omega)
  · rcases hh with hh | hh
    · exact hh
    · have := nv' b hh; omega
end Go.Proofs.YtnniimfinakioaaGreatDoor
namespace Go.Proofs.YtnniimfinakioaaGreatDoor
open Go.RowKit
attribute [local go_sem ↓] eqTok eqEnt
attribute [local go_sem] toList_nm app_nm size_nm


theorem statusM_len {W : Wd} (ok : WG W) (i : Int) : (statusM W i).kept.length ≤ 60 ∧ (statusM W i).acked.length ≤ 5 ∧ (statusM W i).tokens.length ≤ 5 ∧ (statusM W i).count ≤ 60 := by
  obtain ⟨H, ok⟩ := ok
  unfold statusM
  split
  · simp
  · rename_i d hd
    have hd' := (nodeAt_is hd).2
    have no := ok.node _ d hd'
    have := ok.count hd'
    have := no.kept
    have := ok.five
    refine ⟨by simp; omega, by simp [ackL]; omega, by simp [tokL]; omega, by show d.count ≤ 60; omega⟩

set_option maxHeartbeats 2000000 in
set_option maxRecDepth 100000 in
theorem asks_status {RX : World → (Nat → Prop) → Nat → Wd → Prop} {late : Prop} (OX : ProgOpsG late RX) (w : World) (SL ST SX SY : Nat → Prop) (q x y : Nat) (W : Wd) (h : TwoR RX w SX SY x y W) (vW : Value) (ws : List (Nat × Nat)) (nt nn : Nat) (hl : LawS w SL ST q vW ws nt nn) (h1 : nt ≤ 1000000000) (h2 : nn ≤ 900000000) (c a b : Int) (s : Nm) :
    Calls Tryz.prog 74 #[ptr q, .agg #[ptr x, ptr y], .agg #[.int .i64 7, .int .i64 c, .int .i64 a, .int .i64 b, strV s]] w fun e w' => e = .returned (.bool true) ∧ AskD w SL ST q vW ws nt nn w' := by
  have hb0 : Below w.heap.size w ((w.alloc (.cells #[ptr x, ptr y] 128)).alloc (.cells #[.int .i64 7, .int .i64 c, .int .i64 a, .int .i64 b, strV s] 78)) := below2 w _ _
  have q1 : ((w.alloc (.cells #[ptr x, ptr y] 128)).alloc (.cells #[.int .i64 7, .int .i64 c, .int .i64 a, .int .i64 b, strV s] 78)).heap[w.heap.size]? = some (.cells #[ptr x, ptr y] 128 (0, 0)) := alloc_at (heap_alloc_new w _) _
  have q2 : ((w.alloc (.cells #[ptr x, ptr y] 128)).alloc (.cells #[.int .i64 7, .int .i64 c, .int .i64 a, .int .i64 b, strV s] 78)).heap[w.heap.size + 1]? = some (.cells #[.int .i64 7, .int .i64 c, .int .i64 a, .int .i64 b, strV s] 78 (0, 0)) := by
    have := heap_alloc_new (w.alloc (.cells #[ptr x, ptr y] 128)) (.cells #[.int .i64 7, .int .i64 c, .int .i64 a, .int .i64 b, strV s] 78)
    rw [World.size_alloc] at this
    exact this
  have HX0 := hide (OX.kp h.rx (Kp.ofBelow (S := NoS) hb0) (Off.none (OX.lt h.rx)))
  have HY0 := hide (h.ry.kp (Kp.ofBelow (S := NoS) hb0) (Off.none h.ry.lt))
  have HB0 := hide hb0
  have Q1 := hide q1
  have Q2 := hide q2
  clear hb0 q1 q2
  obtain ⟨ge, le⟩ := statusM_err W a
  obtain ⟨l1, l2, l3, l4⟩ := statusM_len h.ok a
  obtain ⟨T, hT⟩ : ∃ T, statusM W a = T := ⟨_, rfl⟩
  rw [hT] at ge le l1 l2 l3 l4
  have HT := hide hT
  clear hT
  go_enter Tryz.func74, Tryz.ntmps74
  go_wp2_with fail
  generalize (w.alloc (.cells #[ptr x, ptr y] 128)).alloc (.cells #[.int .i64 7, .int .i64 c, .int .i64 a, .int .i64 b, strV s] 78) = w0 at *
  have z1 := lt_of_heap Q1.out
  have z2 := lt_of_heap Q2.out
  refine (OX.status w0 SX x W a HX0.out h.ok).mono ?_
  rintro e w1 ⟨vK, vA, vT, rfl, rK, rA, rT, nK, nA, nT, dKA, dKT, dAT, bb⟩
  rw [HT.out] at rK rA rT ⊢
  obtain ⟨oK, cK, rfl, _, _⟩ := rK.form
  obtain ⟨oA, cA, rfl, _, _⟩ := rA.form
  obtain ⟨oT, cT, rfl, _, _⟩ := rT.form
  obtain ⟨e1, _⟩ := row_facts ((bb.block _ z1).trans Q1.out)
  obtain ⟨e2, _⟩ := row_facts ((bb.block _ z2).trans Q2.out)
  have y1 := Nat.lt_of_lt_of_le z1 bb.size
  have y2 := Nat.lt_of_lt_of_le z2 bb.size
  have hb1 : Below w1.heap.size w1 (w1.alloc (.cells #[.int .i64 T.count, .slice oK T.kept.length cK, .slice oA T.acked.length cA, .slice oT T.tokens.length cT] 58)) := (Below.refl _ _).alloc (Nat.le_refl _) _
  have q3 := heap_alloc_new w1 (.cells #[.int .i64 T.count, .slice oK T.kept.length cK, .slice oA T.acked.length cA, .slice oT T.tokens.length cT] 58)
  have HB1 := hide hb1
  have Q3 := hide q3
  clear hb1 q3
  go_wp2_with fail
  generalize w1.alloc (.cells #[.int .i64 T.count, .slice oK T.kept.length cK, .slice oA T.acked.length cA, .slice oT T.tokens.length cT] 58) = wa at *
  have b1 := HB0.out.trans (bb.mono HB0.out.size)
  have ba := b1.trans (HB1.out.mono b1.size)
  have z3 := lt_of_heap Q3.out
  refine (refOpsG.status wa SY y W a (h.ry.kp (Kp.ofBelow (S := NoS) ba) (Off.none h.ry.lt)) h.ok).mono ?_
  rintro e w2 ⟨uK, uA, uT, rfl, sK, sA, sT, _, _, _, _, _, _, bb2⟩
  rw [HT.out] at sK sA sT ⊢
  obtain ⟨pK, dK, rfl, _, _⟩ := sK.form
  obtain ⟨pA, dA, rfl, _, _⟩ := sA.form
  obtain ⟨pT, dT, rfl, _, _⟩ := sT.form
  clear e1 e2
  obtain ⟨e3, _⟩ := row_facts ((bb2.block _ z3).trans Q3.out)
  have y3 := Nat.lt_of_lt_of_le z3 bb2.size
  have hb2 : Below w2.heap.size w2 (w2.alloc (.cells #[.int .i64 T.count, .slice pK T.kept.length dK, .slice pA T.acked.length dA, .slice pT T.tokens.length dT] 58)) := (Below.refl _ _).alloc (Nat.le_refl _) _
  have q4 := heap_alloc_new w2 (.cells #[.int .i64 T.count, .slice pK T.kept.length dK, .slice pA T.acked.length dA, .slice pT T.tokens.length dT] 58)
  have HB2 := hide hb2
  have Q4 := hide q4
  clear hb2 q4
  go_wp2_with fail
  generalize w2.alloc (.cells #[.int .i64 T.count, .slice pK T.kept.length dK, .slice pA T.acked.length dA, .slice pT T.tokens.length dT] 58) = wb at *
  have b2 := ba.trans (bb2.mono ba.size)
  have bw := b2.trans (HB2.out.mono b2.size)
  have tK : IntR wb (.slice oK T.kept.length cK) T.kept := ((rK.below HB1.out).below bb2).below HB2.out
  have tA : IntR wb (.slice oA T.acked.length cA) T.acked := ((rA.below HB1.out).below bb2).below HB2.out
  have tT : IntR wb (.slice oT T.tokens.length cT) T.tokens := ((rT.below HB1.out).below bb2).below HB2.out
  have rK4 := sK.below HB2.out
  have rA4 := sA.below HB2.out
  have rT4 := sT.below HB2.out
  have q3 := (HB2.out.block _ (Nat.lt_of_lt_of_le z3 bb2.size)).trans ((bb2.block _ z3).trans Q3.out)
  have nK' : ∀ g, (Value.slice oK T.kept.length cK).ownBlock = some g → w.heap.size ≤ g := fun g hg => Nat.le_trans HB0.out.size (nK g hg)
  have nA' : ∀ g, (Value.slice oA T.acked.length cA).ownBlock = some g → w.heap.size ≤ g := fun g hg => Nat.le_trans HB0.out.size (nA g hg)
  have nT' : ∀ g, (Value.slice oT T.tokens.length cT).ownBlock = some g → w.heap.size ≤ g := fun g hg => Nat.le_trans HB0.out.size (nT g hg)
  have Q3' := hide q3
  have lb := lt_of_heap q3
  have lc := lt_of_heap Q4.out
  have hsw : w.heap.size ≤ w1.heap.size := b1.size
  have hsw2 : w.heap.size ≤ w2.heap.size := b2.size
  clear e3 q3 nK nA nT rK rA rT sK sA sT y1 y2 y3 z1 z2 z3 Q1 Q2 Q3 HX0 HY0
  refine (sameNumbers_any _ _ T.kept T.kept wb tK rK4 (by omega) (by omega)).mono ?_
  rintro e w3 ⟨rfl, c1⟩
  rw [decide_eq_true (rfl : T.kept = T.kept)]
  obtain ⟨e1, _⟩ := row_facts ((c1.block _ lb).trans Q3'.out)
  obtain ⟨e2, _⟩ := row_facts ((c1.block _ lc).trans Q4.out)
  go_wp2_with fail
  refine (sameNumbers_any _ _ T.acked T.acked w3 (tA.below c1) (rA4.below c1) (by omega) (by omega)).mono ?_
  rintro e w4 ⟨rfl, c2⟩
  rw [decide_eq_true (rfl : T.acked = T.acked)]
  clear e1 e2
  have d2 := c1.trans (c2.mono c1.size)
  obtain ⟨e1, _⟩ := row_facts ((d2.block _ lb).trans Q3'.out)
  obtain ⟨e2, _⟩ := row_facts ((d2.block _ lc).trans Q4.out)
  go_wp2_with fail
  refine (sameNumbers_any _ _ T.tokens T.tokens w4 (tT.below d2) (rT4.below d2) (by omega) (by omega)).mono ?_
  rintro e w5 ⟨rfl, c3⟩
  rw [decide_eq_true (rfl : T.tokens = T.tokens)]
  clear e1 e2
  have d3 := d2.trans (c3.mono d2.size)
  have f3 := bw.trans (d3.mono bw.size)
  go_wp2_with fail
  refine ((hl.below f3).looks h1 (by omega)).mono ?_
  rintro e w6 ⟨rfl, c4⟩
  have d4 := d3.trans (c4.mono d3.size)
  have f4 := bw.trans (d4.mono bw.size)
  have g3 := (d4.block _ lb).trans Q3'.out
  have g4 := (d4.block _ lc).trans Q4.out
  obtain ⟨e1, _⟩ := row_facts g3
  have tK6 := tK.below d4
  have tA6 := tA.below d4
  have tT6 := tT.below d4
  have hl6 := hl.below f4
  have ls := hl.lt
  have s6 := f4.size
  have aK6 := World.ownsRow.lt tK6
  have aA6 := World.ownsRow.lt tA6
  have aT6 := World.ownsRow.lt tT6
  clear tK tA tT rK4 rA4 rT4 c1 c2 c3 c4 d2 d3 d4 f3 Q4 Q3' bb bb2 b1 ba b2 bw
  go_wp2_with fail
  refine (hl6.numbers (by omega) _ T.kept tK6 (by omega) (fun g hg => ⟨fun hh => by have := ls.1 g hh; have := nK' g hg; omega, fun hh => by have := ls.2.1 g hh; have := nK' g hg; omega⟩)).mono ?_
  rintro e w7 ⟨rfl, SL1, ST1, hl7, ow1⟩
  have m3 := lt_of_heap g3
  have m4 := lt_of_heap g4
  have s7 := ow1.kp.size
  have g3a := (ow1.kp.block _ m3 (by
    rintro (hh | hh)
    · have := ls.1 _ hh; omega
    · exact own_ne tK6 g3 (by decide) hh)).trans g3
  have g4a := (ow1.kp.block _ m4 (by
    rintro (hh | hh)
    · have := ls.1 _ hh; omega
    · exact own_ne tK6 g4 (by decide) hh)).trans g4
  have tA7 : IntR w7 _ T.acked := own_kp tA6 ow1.kp (fun g hg => ⟨(aA6 g hg).2, by
    rintro (hh | hh)
    · have := ls.1 _ hh; have := nA' g hg; omega
    · exact dKA g hh hg⟩)
  have tT7 : IntR w7 _ T.tokens := own_kp tT6 ow1.kp (fun g hg => ⟨(aT6 g hg).2, by
    rintro (hh | hh)
    · have := ls.1 _ hh; have := nT' g hg; omega
    · exact dKT g hh hg⟩)
  have old1 : ∀ b, SL1 b → b < w6.heap.size → SL b := fun b hb hlt => by
    rcases ow1.sl b hb with hh | hh
    · exact hh
    · omega
  have old1T : ∀ b, ST1 b → b < w6.heap.size → ST b ∨ (Value.slice oK T.kept.length cK).ownBlock = some b := fun b hb hlt => by
    rcases ow1.st b hb with hh | hh | hh
    · exact Or.inl hh
    · exact Or.inr hh
    · omega
  clear e1
  obtain ⟨e1, _⟩ := row_facts g3a
  have O1 := hide ow1
  have Old1 := hide old1
  have Old1T := hide old1T
  clear ow1 tK6 tA6 tT6 hl6 g3 g4 old1 old1T
  go_wp2_with fail
  refine (hl7.numbers (by omega) _ T.acked tA7 (by omega) (fun g hg => ⟨fun hh => by have := ls.1 g (Old1.out g hh (aA6 g hg).2); have := nA' g hg; omega, fun hh => by
    rcases Old1T.out g hh (aA6 g hg).2 with h3 | h3
    · have := ls.2.1 g h3; have := nA' g hg; omega
    · exact dKA g h3 hg⟩)).mono ?_
  rintro e w8 ⟨rfl, SL2, ST2, hl8, ow2⟩
  have s8 := ow2.kp.size
  have g3b := (ow2.kp.block _ (Nat.lt_of_lt_of_le m3 s7) (by
    rintro (hh | hh)
    · have := ls.1 _ (Old1.out _ hh m3); omega
    · exact own_ne tA7 g3a (by decide) hh)).trans g3a
  have g4b := (ow2.kp.block _ (Nat.lt_of_lt_of_le m4 s7) (by
    rintro (hh | hh)
    · have := ls.1 _ (Old1.out _ hh m4); omega
    · exact own_ne tA7 g4a (by decide) hh)).trans g4a
  have tT8 : IntR w8 _ T.tokens := own_kp tT7 ow2.kp (fun g hg => ⟨Nat.lt_of_lt_of_le (aT6 g hg).2 s7, by
    rintro (hh | hh)
    · have := ls.1 _ (Old1.out _ hh (aT6 g hg).2); have := nT' g hg; omega
    · exact dAT g hh hg⟩)
  clear e1
  obtain ⟨e1, _⟩ := row_facts g3b
  have O2 := hide ow2
  clear ow2 tA7 tT7 hl7 g3a g4a
  go_wp2_with fail
  refine (hl8.numbers (by omega) _ T.tokens tT8 (by omega) (fun g hg => ⟨fun hh => by
    rcases O2.out.sl g hh with h3 | h3
    · have := ls.1 g (Old1.out g h3 (aT6 g hg).2); have := nT' g hg; omega
    · have := (aT6 g hg).2; omega, fun hh => by
    rcases O2.out.st g hh with h3 | h3 | h3
    · rcases Old1T.out g h3 (aT6 g hg).2 with h4 | h4
      · have := ls.2.1 g h4; have := nT' g hg; omega
      · exact dKT g h4 hg
    · exact dAT g h3 hg
    · have := (aT6 g hg).2; omega⟩)).mono ?_
  rintro e w9 ⟨rfl, SL3, ST3, hl9, ow3⟩
  have old2 : ∀ b, SL2 b → b < w6.heap.size → SL b := fun b hb hlt => by
    rcases O2.out.sl b hb with hh | hh
    · exact Old1.out b hh hlt
    · omega
  have g3c := (ow3.kp.block _ (by omega) (by
    rintro (hh | hh)
    · have := ls.1 _ (old2 _ hh m3); omega
    · exact own_ne tT8 g3b (by decide) hh)).trans g3b
  have g4c := (ow3.kp.block _ (by omega) (by
    rintro (hh | hh)
    · have := ls.1 _ (old2 _ hh m4); omega
    · exact own_ne tT8 g4b (by decide) hh)).trans g4b
  clear e1
  obtain ⟨e1, _⟩ := row_facts g3c
  obtain ⟨e2, _⟩ := row_facts g4c
  have O3 := hide ow3
  have Old2 := hide old2
  clear ow3 old2 g3b g4b g3c g4c tT8 hl8
  go_wp2_with fail
  refine (num_any T.err w9 (by omega) (by omega)).mono ?_
  rintro e wz ⟨rfl, rfl⟩
  go_wp2_with fail
  refine (num_any T.err w9 (by omega) (by omega)).mono ?_
  rintro e wz ⟨rfl, rfl⟩
  go_wp2_with fail
  go_ret
  refine ⟨by simp, ⟨SL3, ST3, hl9.more (by omega) (by omega), fun b hb => ?_, fun b hb => ?_⟩, ?_⟩
  · rcases O3.out.sl b hb with hh | hh
    · rcases Nat.lt_or_ge b w.heap.size with hlt | hlt
      · exact Or.inl (Old2.out b hh (by omega))
      · exact Or.inr hlt
    · exact Or.inr (by omega)
  · rcases O3.out.st b hb with hh | hh | hh
    · rcases O2.out.st b hh with h3 | h3 | h3
      · rcases O1.out.st b h3 with h4 | h4 | h4
        · exact Or.inl h4
        · exact Or.inr (nK' b h4)
        · exact Or.inr (by omega)
      · exact Or.inr (nA' b h3)
      · exact Or.inr (by omega)
    · exact Or.inr (nT' b hh)
    · exact Or.inr (by omega)
  · refine (((Kp.ofBelow f4).trans (O1.out.kp.mono s6 fun b hb hh => ?_)).trans (O2.out.kp.mono (by omega) fun b hb hh => ?_)).trans (O3.out.kp.mono (by omega) fun b hb hh => ?_)
    · rcases hh with hh | hh
      · exact hh
      · have := nK' b hh; omega
    · rcases hh with hh | hh
      · exact Old1.out b hh (by omega)
      · have := nA' b hh; omega
    · rcases hh with hh | hh
      · exact Old2.out b hh (by omega)
      · have := nT' b hh; omega
end Go.Proofs.YtnniimfinakioaaGreatDoor
namespace Go.Proofs.YtnniimfinakioaaGreatDoor
open Go.RowKit
attribute [local go_sem ↓] eqTok eqEnt
attribute [local go_sem] toList_nm app_nm size_nm

theorem TmR.below {w w' : World} {v : Value} {l : List Tm} (h : TmR w v l) (k : Below w.heap.size w w') : TmR w' v l := own_below h k
theorem flyingM_len {W : Wd} (ok : WG W) : (flyingM W).length ≤ 40 := by
  obtain ⟨H, ok⟩ := ok
  simp only [flyingM, List.length_map]
  exact ok.forty

set_option maxHeartbeats 2000000 in
set_option maxRecDepth 100000 in
theorem asks_flying {RX : World → (Nat → Prop) → Nat → Wd → Prop} {late : Prop} (OX : ProgOpsG late RX) (w : World) (SL ST SX SY : Nat → Prop) (q x y : Nat) (W : Wd) (h : TwoR RX w SX SY x y W) (vW : Value) (ws : List (Nat × Nat)) (nt nn : Nat) (hl : LawS w SL ST q vW ws nt nn) (h1 : nt ≤ 1000000000) (h2 : nn ≤ 1000000000) (c a b : Int) (s : Nm) :
    Calls Tryz.prog 74 #[ptr q, .agg #[ptr x, ptr y], .agg #[.int .i64 9, .int .i64 c, .int .i64 a, .int .i64 b, strV s]] w fun e w' => e = .returned (.bool true) ∧ AskD w SL ST q vW ws nt nn w' := by
  have hb0 : Below w.heap.size w ((w.alloc (.cells #[ptr x, ptr y] 128)).alloc (.cells #[.int .i64 9, .int .i64 c, .int .i64 a, .int .i64 b, strV s] 78)) := below2 w _ _
  have q1 : ((w.alloc (.cells #[ptr x, ptr y] 128)).alloc (.cells #[.int .i64 9, .int .i64 c, .int .i64 a, .int .i64 b, strV s] 78)).heap[w.heap.size]? = some (.cells #[ptr x, ptr y] 128 (0, 0)) := alloc_at (heap_alloc_new w _) _
  have q2 : ((w.alloc (.cells #[ptr x, ptr y] 128)).alloc (.cells #[.int .i64 9, .int .i64 c, .int .i64 a, .int .i64 b, strV s] 78)).heap[w.heap.size + 1]? = some (.cells #[.int .i64 9, .int .i64 c, .int .i64 a, .int .i64 b, strV s] 78 (0, 0)) := by
    have := heap_alloc_new (w.alloc (.cells #[ptr x, ptr y] 128)) (.cells #[.int .i64 9, .int .i64 c, .int .i64 a, .int .i64 b, strV s] 78)
    rw [World.size_alloc] at this
    exact this
  have HX0 := hide (OX.kp h.rx (Kp.ofBelow (S := NoS) hb0) (Off.none (OX.lt h.rx)))
  have HY0 := hide (h.ry.kp (Kp.ofBelow (S := NoS) hb0) (Off.none h.ry.lt))
  have HL0 := hide (hl.below hb0)
  have HB0 := hide hb0
  have Q1 := hide q1
  have Q2 := hide q2
  clear hb0 q1 q2
  have hlen := flyingM_len h.ok
  obtain ⟨T, hT⟩ : ∃ T, flyingM W = T := ⟨_, rfl⟩
  rw [hT] at hlen
  have HT := hide hT
  clear hT
  go_enter Tryz.func74, Tryz.ntmps74
  go_wp2_with fail
  generalize (w.alloc (.cells #[ptr x, ptr y] 128)).alloc (.cells #[.int .i64 9, .int .i64 c, .int .i64 a, .int .i64 b, strV s] 78) = w0 at *
  have z1 := lt_of_heap Q1.out
  have z2 := lt_of_heap Q2.out
  refine (OX.flying w0 SX x W HX0.out h.ok).mono ?_
  rintro e w1 ⟨v, rfl, rv, nv, bb⟩
  rw [HT.out] at rv
  obtain ⟨e1, _⟩ := row_facts ((bb.block _ z1).trans Q1.out)
  obtain ⟨e2, _⟩ := row_facts ((bb.block _ z2).trans Q2.out)
  go_wp2_with fail
  refine (refOpsG.flying w1 SY y W (HY0.out.kp (Kp.ofBelow (S := NoS) bb) (Off.none HY0.out.lt)) h.ok).mono ?_
  rintro e w2 ⟨u, rfl, ru, nu, bb2⟩
  rw [HT.out] at ru
  clear e1 e2
  go_wp2_with fail
  refine (sameMessages_any v u T T w2 (rv.below bb2) ru (by omega)).mono ?_
  rintro e w3 ⟨B, rfl, hB, bb3⟩
  rw [hB rfl]
  have b1 := HB0.out.trans (bb.mono HB0.out.size)
  have b2 := b1.trans (bb2.mono b1.size)
  have b3 := b2.trans (bb3.mono b2.size)
  go_wp2_with fail
  refine ((hl.below b3).looks h1 h2).mono ?_
  rintro e w4 ⟨rfl, bb4⟩
  have b4 := b3.trans (bb4.mono b3.size)
  go_wp2_with fail
  have hv4 : TmR w4 v T := ((rv.below bb2).below bb3).below bb4
  have nv' : ∀ g, v.ownBlock = some g → w.heap.size ≤ g := fun g hg => Nat.le_trans HB0.out.size (nv g hg)
  refine ((hl.below b4).messages h2 v T hv4 (by omega) (fun g hg => ⟨fun hh => by have := hl.lt.1 g hh; have := nv' g hg; omega, fun hh => by have := hl.lt.2.1 g hh; have := nv' g hg; omega⟩)).mono ?_
  rintro e w5 ⟨rfl, SL', ST', hl5, ow⟩
  go_wp2_with fail
  go_ret
  have s4 := b4.size
  refine ⟨by simp, ⟨SL', ST', hl5.more (by omega) (by omega), fun b hb => ?_, fun b hb => ?_⟩, (Kp.ofBelow b4).trans (ow.kp.mono s4 fun b hb hh => ?_)⟩
  · rcases ow.sl b hb with hh | hh
    · exact Or.inl hh
    · exact Or.inr (by omega)
  · rcases ow.st b hb with hh | hh | hh
    · exact Or.inl hh
    · exact Or.inr (nv' b hh)
    · exact Or.inr (by omega)
  · rcases hh with hh | hh
    · exact hh
    · have := nv' b hh; omega
end Go.Proofs.YtnniimfinakioaaGreatDoor
namespace Go.Proofs.YtnniimfinakioaaGreatDoor
open Go.RowKit
attribute [local go_sem ↓] eqTok eqEnt
attribute [local go_sem] toList_nm app_nm size_nm

/-- All that lies in memory. O says whose a block is: 1 the law's rows, 2 the lists that came out, 3 + 2k and 4 + 2k the worlds of place k, 0 nobody's. -/
structure TopR (RX : World → (Nat → Prop) → Nat → Wd → Prop) (B : Nat) (w : World) (O : Nat → Nat) (q : Nat) (vW : Value) (ws : List (Nat × Nat)) (Ws : List Wd) (nt nn : Nat) : Prop where
  law : LawS w (fun b => O b = 1) (fun b => O b = 2) q vW ws nt nn
  len : ws.length = Ws.length
  lt : ∀ b, O b ≠ 0 → b < w.heap.size
  hi : ∀ b, O b < 3 + 2 * ws.length
  base : ∀ b, O b ≠ 0 → B ≤ b
  hB : B ≤ w.heap.size
  two : ∀ (k : Nat) (p : Nat × Nat) (W : Wd), ws[k]? = some p → Ws[k]? = some W → TwoR RX w (fun b => O b = 3 + 2 * k) (fun b => O b = 4 + 2 * k) p.1 p.2 W
def TopS (RX : World → (Nat → Prop) → Nat → Wd → Prop) (B : Nat) (w : World) (q nw nt nn : Nat) : Prop := ∃ O vW ws Ws, TopR RX B w O q vW ws Ws nt nn ∧ ws.length ≤ nw

theorem set_eq {A B : Nat → Prop} (h : ∀ b, A b ↔ B b) : A = B := funext fun b => propext (h b)
theorem TwoR.kp {RX : World → (Nat → Prop) → Nat → Wd → Prop} {late : Prop} (OX : ProgOpsG late RX) {w w' : World} {SX SY S' : Nat → Prop} {B x y : Nat} {W : Wd} (h : TwoR RX w SX SY x y W) (k : Kp B S' w w') (o1 : Off SX B S') (o2 : Off SY B S') : TwoR RX w' SX SY x y W :=
  ⟨OX.kp h.rx k o1, h.ry.kp k o2, h.ok, h.apart⟩

section
variable {RX : World → (Nat → Prop) → Nat → Wd → Prop} {w w' : World} {O : Nat → Nat} {B q nt nn : Nat} {vW : Value} {ws : List (Nat × Nat)} {Ws : List Wd}
theorem TopR.below {late : Prop} (OX : ProgOpsG late RX) (h : TopR RX B w O q vW ws Ws nt nn) (k : Below w.heap.size w w') : TopR RX B w' O q vW ws Ws nt nn :=
  ⟨h.law.below k, h.len, fun b hb => Nat.lt_of_lt_of_le (h.lt b hb) k.size, h.hi, h.base, Nat.le_trans h.hB k.size, fun j p W h1 h2 => (h.two j p W h1 h2).kp OX (Kp.ofBelow (S := NoS) k) (Off.none fun b hb => h.lt b (by omega)) (Off.none fun b hb => h.lt b (by omega))⟩

open Classical in
theorem TopR.asked {late : Prop} (OX : ProgOpsG late RX) (h : TopR RX B w O q vW ws Ws nt nn) (a : AskD w (fun b => O b = 1) (fun b => O b = 2) q vW ws nt nn w') : ∃ O', TopR RX B w' O' q vW ws Ws (nt + 4) (nn + 12) ∧ Below B w w' := by
  obtain ⟨⟨SL', ST', hl, h1, h2⟩, kp⟩ := a
  have ls := hl.lt
  refine ⟨fun b => if SL' b then 1 else if ST' b then 2 else if O b = 1 ∨ O b = 2 then 0 else O b, ⟨?_, h.len, ?_, ?_, ?_, Nat.le_trans h.hB kp.size, ?_⟩, (kp.mono h.hB fun b hb hh => by have := h.base b (by omega); omega).toBelow⟩
  · have e1 : (fun b => (if SL' b then 1 else if ST' b then 2 else if O b = 1 ∨ O b = 2 then 0 else O b) = 1) = SL' := set_eq fun b => by
      by_cases hb : SL' b
      · simp [hb]
      · by_cases hb2 : ST' b
        · simp [hb, hb2]
        · simp only [hb, hb2, if_false, iff_false]; split <;> omega
    have e2 : (fun b => (if SL' b then 1 else if ST' b then 2 else if O b = 1 ∨ O b = 2 then 0 else O b) = 2) = ST' := set_eq fun b => by
      by_cases hb : SL' b
      · simp only [hb, if_true]
        exact ⟨fun x => by omega, fun x => (ls.2.2 b hb x).elim⟩
      · by_cases hb2 : ST' b
        · simp [hb, hb2]
        · simp only [hb, hb2, if_false, iff_false]; split <;> omega
    rw [e1, e2]
    exact hl
  · intro b hb
    by_cases hb1 : SL' b
    · exact ls.1 b hb1
    · by_cases hb2 : ST' b
      · exact ls.2.1 b hb2
      · simp only [hb1, hb2, if_false] at hb
        refine Nat.lt_of_lt_of_le (h.lt b fun e => hb ?_) kp.size
        rw [e]; simp
  · intro b
    have := h.hi b
    split
    · omega
    · split
      · omega
      · split <;> omega
  · intro b hb
    have hB := h.hB
    by_cases hb1 : SL' b
    · rcases h1 b hb1 with hh | hh
      · exact h.base b (by omega)
      · omega
    · by_cases hb2 : ST' b
      · rcases h2 b hb2 with hh | hh
        · exact h.base b (by omega)
        · omega
      · simp only [hb1, hb2, if_false] at hb
        refine h.base b fun e => hb ?_
        rw [e]; simp
  · intro k p W hp hW
    have t := (h.two k p W hp hW).kp OX kp (fun b hb => ⟨h.lt b (by omega), by omega⟩) (fun b hb => ⟨h.lt b (by omega), by omega⟩)
    have en : ∀ m, 3 ≤ m → (fun b => (if SL' b then 1 else if ST' b then 2 else if O b = 1 ∨ O b = 2 then 0 else O b) = m) = (fun b => O b = m) := fun m hm => set_eq fun b => by
      by_cases hb : SL' b
      · simp only [hb, if_true]
        refine ⟨fun x => by omega, fun x => ?_⟩
        rcases h1 b hb with hh | hh
        · omega
        · have := h.lt b (by omega); omega
      · by_cases hb2 : ST' b
        · simp only [hb, hb2, if_true, if_false]
          refine ⟨fun x => by omega, fun x => ?_⟩
          rcases h2 b hb2 with hh | hh
          · omega
          · have := h.lt b (by omega); omega
        · simp only [hb, hb2, if_false]
          split
          · constructor <;> intro x <;> omega
          · exact Iff.rfl
    rw [en _ (by omega), en _ (by omega)]
    exact t

open Classical in
theorem TopR.moved {late : Prop} (OX : ProgOpsG late RX) (h : TopR RX B w O q vW ws Ws nt nn) {k : Nat} {p : Nat × Nat} (hk : ws[k]? = some p) (a : TwoD RX w (fun b => O b = 3 + 2 * k) (fun b => O b = 4 + 2 * k) p.1 p.2 w') : ∃ O' Ws', TopR RX B w' O' q vW ws Ws' nt nn ∧ Below B w w' := by
  obtain ⟨⟨SX', SY', W', hn, h1, h2⟩, kp⟩ := a
  have lx := OX.lt hn.rx
  have ly := hn.ry.lt
  have en : ∀ m, m ≠ 0 → m ≠ 3 + 2 * k → m ≠ 4 + 2 * k → (fun b => (if SX' b then 3 + 2 * k else if SY' b then 4 + 2 * k else if O b = 3 + 2 * k ∨ O b = 4 + 2 * k then 0 else O b) = m) = (fun b => O b = m) := fun m m0 m1 m2 => set_eq fun b => by
    by_cases hb : SX' b
    · simp only [hb, if_true]
      refine ⟨fun x => by omega, fun x => ?_⟩
      rcases h1 b hb with hh | hh
      · omega
      · have := h.lt b (by omega); omega
    · by_cases hb2 : SY' b
      · simp only [hb, hb2, if_true, if_false]
        refine ⟨fun x => by omega, fun x => ?_⟩
        rcases h2 b hb2 with hh | hh
        · omega
        · have := h.lt b (by omega); omega
      · simp only [hb, hb2, if_false]
        split
        · constructor <;> intro x <;> omega
        · exact Iff.rfl
  refine ⟨fun b => if SX' b then 3 + 2 * k else if SY' b then 4 + 2 * k else if O b = 3 + 2 * k ∨ O b = 4 + 2 * k then 0 else O b, Ws.set k W', ⟨?_, by simpa using h.len, ?_, ?_, ?_, Nat.le_trans h.hB kp.size, ?_⟩, (kp.mono h.hB fun b hb hh => by have := h.base b (by omega); omega).toBelow⟩
  · rw [en 1 (by omega) (by omega) (by omega), en 2 (by omega) (by omega) (by omega)]
    exact h.law.kp kp (fun b hb => ⟨h.lt b (by omega), by omega⟩) (fun b hb => ⟨h.lt b (by omega), by omega⟩)
  · intro b hb
    by_cases hb1 : SX' b
    · exact lx b hb1
    · by_cases hb2 : SY' b
      · exact ly b hb2
      · simp only [hb1, hb2, if_false] at hb
        refine Nat.lt_of_lt_of_le (h.lt b fun e => hb ?_) kp.size
        rw [e]; simp
  · intro b
    have := h.hi b
    have hkl := (List.getElem?_eq_some_iff.1 hk).1
    split
    · omega
    · split
      · omega
      · split <;> omega
  · intro b hb
    have hB := h.hB
    by_cases hb1 : SX' b
    · rcases h1 b hb1 with hh | hh
      · exact h.base b (by omega)
      · omega
    · by_cases hb2 : SY' b
      · rcases h2 b hb2 with hh | hh
        · exact h.base b (by omega)
        · omega
      · simp only [hb1, hb2, if_false] at hb
        refine h.base b fun e => hb ?_
        rw [e]; simp
  · intro j p' W hp hW
    by_cases hj : k = j
    · subst hj
      have hlt : k < Ws.length := by rw [← h.len]; exact (List.getElem?_eq_some_iff.1 hk).1
      rw [List.getElem?_set_self hlt] at hW
      simp only [Option.some.injEq] at hW
      subst hW
      rw [hk] at hp
      simp only [Option.some.injEq] at hp
      subst hp
      have e1 : (fun b => (if SX' b then 3 + 2 * k else if SY' b then 4 + 2 * k else if O b = 3 + 2 * k ∨ O b = 4 + 2 * k then 0 else O b) = 3 + 2 * k) = SX' := set_eq fun b => by
        by_cases hb : SX' b
        · simp [hb]
        · by_cases hb2 : SY' b
          · simp only [hb, hb2, if_true, if_false, iff_false]; omega
          · simp only [hb, hb2, if_false, iff_false]; split <;> omega
      have e2 : (fun b => (if SX' b then 3 + 2 * k else if SY' b then 4 + 2 * k else if O b = 3 + 2 * k ∨ O b = 4 + 2 * k then 0 else O b) = 4 + 2 * k) = SY' := set_eq fun b => by
        by_cases hb : SX' b
        · simp only [hb, if_true]
          exact ⟨fun x => by omega, fun x => (hn.apart b hb x).elim⟩
        · by_cases hb2 : SY' b
          · simp [hb, hb2]
          · simp only [hb, hb2, if_false, iff_false]; split <;> omega
      rw [e1, e2]
      exact hn
    · rw [List.getElem?_set_ne hj] at hW
      rw [en _ (by omega) (by omega) (by omega), en _ (by omega) (by omega) (by omega)]
      exact (h.two j p' W hp hW).kp OX kp (fun b hb => ⟨h.lt b (by omega), by omega⟩) (fun b hb => ⟨h.lt b (by omega), by omega⟩)
end
end Go.Proofs.YtnniimfinakioaaGreatDoor
namespace Go.Proofs.YtnniimfinakioaaGreatDoor
open Go.RowKit
attribute [local go_sem ↓] eqTok eqEnt
attribute [local go_sem] toList_nm app_nm size_nm

theorem ePair : ElemT Tryz.prog 69 128 2 16 := ElemT.mk' (z := .agg #[.pointer none, .pointer none]) (by kernel_rfl) (by kernel_rfl) rfl (by decide)

section
variable {w wa w1 : World} {SL ST : Nat → Prop} {q nt nn : Nat} {vW v' : Value} {ws ws' : List (Nat × Nat)}
theorem LawS.rowW (h : LawS w SL ST q vW ws nt nn) : w.ownsRow 0 128 2 vW ws.length (ws.flatMap pairC) ∧ SL q ∧ (∀ j, w.frozen? ⟨q, j, none⟩ = false) ∧ w.cell? ⟨q, 0, none⟩ = some vW ∧ q < w.heap.size ∧ ¬ vW.ownBlock = some q := by
  obtain ⟨vTx, tx, vNu, nu, vM0, m0, vM1, m1, vMs, mz, vM2, m2, h, r⟩ := h
  obtain ⟨e1, f1⟩ := row_facts h.self
  have := e1 0
  exact ⟨h.rW, h.sq, f1, by simpa using this, lt_of_heap h.self, own_ne h.rW h.self (by decide)⟩
theorem LawS.putW (h : LawS w SL ST q vW ws nt nn) (ha : Below w.heap.size w wa) (hg : wa.grownBy w1 vW.ownBlock)
    (hv : w1.ownsRow 0 128 2 v' ws'.length (ws'.flatMap pairC)) (hat : v'.ownBlock = vW.ownBlock ∨ v'.ownBlock = some wa.heap.size) :
    LawS (w1.setCell ⟨q, 0, none⟩ v') (Ext SL w w1) ST q v' ws' nt nn ∧ Kp w.heap.size SL w (w1.setCell ⟨q, 0, none⟩ v') := by
  obtain ⟨vTx, tx, vNu, nu, vM0, m0, vM1, m1, vMs, mz, vM2, m2, h, r⟩ := h
  obtain ⟨c, k⟩ := h.toLawC.putW ha hg hv hat
  have o2 : Off ST w.heap.size SL := fun b hb => ⟨h.ltT b hb, fun hh => h.apart b hh hb⟩
  refine ⟨⟨vTx, tx, vNu, nu, vM0, m0, vM1, m1, vMs, mz, vM2, m2, ⟨c, fun b hb => Nat.lt_of_lt_of_le (h.ltT b hb) k.size, ?_, h.len0, h.len1, h.len2, fun i v m a b => (h.txt i v m a b).kp k o2, fun i v m a b => (h.num i v m a b).kp k o2, fun i v m a b => (h.msg i v m a b).kp k o2⟩, r⟩, k⟩
  rintro b (hb | hb) ht
  · exact h.apart b hb ht
  · have := h.ltT b ht; omega
end

def ownMade (s0 s1 s2 s3 K : Nat) (O : Nat → Nat) : Nat → Nat := fun b => if s0 ≤ b ∧ b < s1 then 3 + 2 * K else if s1 ≤ b ∧ b < s2 then 4 + 2 * K else if s2 ≤ b ∧ b < s3 then 1 else O b
theorem made_sets {s s0 s1 s2 s3 K : Nat} {O : Nat → Nat} (lt : ∀ b, O b ≠ 0 → b < s) (hi : ∀ b, O b < 3 + 2 * K) (t0 : s ≤ s0) (t1 : s0 ≤ s1) (t2 : s1 ≤ s2) (_t3 : s2 ≤ s3) (b : Nat) :
    (∀ m, m ≠ 0 → m ≠ 1 → m < 3 + 2 * K → (ownMade s0 s1 s2 s3 K O b = m ↔ O b = m)) ∧ (ownMade s0 s1 s2 s3 K O b = 1 ↔ (O b = 1 ∨ (s2 ≤ b ∧ b < s3))) ∧
    (ownMade s0 s1 s2 s3 K O b = 3 + 2 * K ↔ (False ∨ (s0 ≤ b ∧ b < s1))) ∧ (ownMade s0 s1 s2 s3 K O b = 4 + 2 * K ↔ (False ∨ (s1 ≤ b ∧ b < s2))) ∧ (ownMade s0 s1 s2 s3 K O b ≠ 0 → b < s3) ∧ ownMade s0 s1 s2 s3 K O b < 3 + 2 * (K + 1) := by
  have h1 : O b = 0 ∨ b < s := by
    rcases Nat.eq_zero_or_pos (O b) with h | h
    · exact Or.inl h
    · exact Or.inr (lt b (by omega))
  have h2 := hi b
  simp only [false_or]
  unfold ownMade
  split
  · refine ⟨fun m _ _ _ => ⟨fun _ => ?_, fun _ => ?_⟩, ⟨fun _ => ?_, fun _ => ?_⟩, ⟨fun _ => ?_, fun _ => ?_⟩, ⟨fun _ => ?_, fun _ => ?_⟩, fun _ => ?_, ?_⟩ <;> omega
  · split
    · refine ⟨fun m _ _ _ => ⟨fun _ => ?_, fun _ => ?_⟩, ⟨fun _ => ?_, fun _ => ?_⟩, ⟨fun _ => ?_, fun _ => ?_⟩, ⟨fun _ => ?_, fun _ => ?_⟩, fun _ => ?_, ?_⟩ <;> omega
    · split
      · refine ⟨fun m _ _ _ => ⟨fun _ => ?_, fun _ => ?_⟩, ⟨fun _ => ?_, fun _ => ?_⟩, ⟨fun _ => ?_, fun _ => ?_⟩, ⟨fun _ => ?_, fun _ => ?_⟩, fun _ => ?_, ?_⟩ <;> omega
      · refine ⟨fun m _ _ _ => ⟨fun _ => ?_, fun _ => ?_⟩, ⟨fun _ => ?_, fun _ => ?_⟩, ⟨fun _ => ?_, fun _ => ?_⟩, ⟨fun _ => ?_, fun _ => ?_⟩, fun _ => ?_, ?_⟩ <;> omega

theorem TopR.made {RX : World → (Nat → Prop) → Nat → Wd → Prop} {late : Prop} (OX : ProgOpsG late RX) {w w0 w1 w2 w3 w4 : World} {O : Nat → Nat} {B q nt nn x y : Nat} {vW v' : Value} {ws : List (Nat × Nat)} {Ws : List Wd} {W : Wd} (h : TopR RX B w O q vW ws Ws nt nn)
    (b0 : Below w.heap.size w w0) (b1 : Below w0.heap.size w0 w1) (rx : RX w1 (Ext NoS w0 w1) x W) (b2 : Below w1.heap.size w1 w2) (ry : RefW w2 (Ext NoS w1 w2) y W) (ok : WG W)
    (hl : LawS w4 (Ext (fun b => O b = 1) w2 w3) (fun b => O b = 2) q v' (ws ++ [(x, y)]) nt nn) (k4 : Kp w2.heap.size (fun b => O b = 1) w2 w4) (s3 : w2.heap.size ≤ w3.heap.size) (s4 : w4.heap.size = w3.heap.size) :
    ∃ O', TopR RX B w4 O' q v' (ws ++ [(x, y)]) (Ws ++ [W]) nt nn ∧ Below B w w4 := by
  have t0 := b0.size
  have t1 := b1.size
  have t2 := b2.size
  have bb : Below w.heap.size w w2 := (b0.trans (b1.mono t0)).trans (b2.mono (by omega))
  have ms := fun b => made_sets h.lt h.hi t0 t1 t2 s3 b
  have n1 : ∀ b, w.heap.size ≤ b → ¬ O b = 1 := fun b hb e => by have := h.lt b (by omega); omega
  refine ⟨ownMade w0.heap.size w1.heap.size w2.heap.size w3.heap.size ws.length O, ⟨?_, by simp [h.len], fun b hb => by rw [s4]; exact (ms b).2.2.2.2.1 hb, fun b => by have := (ms b).2.2.2.2.2; simpa using this, fun b hb => ?_, by have := h.hB; omega, ?_⟩, ?_⟩
  · rw [set_eq (B := Ext (fun b => O b = 1) w2 w3) fun b => (ms b).2.1, set_eq (B := fun b => O b = 2) fun b => (ms b).1 2 (by omega) (by omega) (by omega)]
    exact hl
  · have hB := h.hB
    rcases Nat.lt_or_ge b w.heap.size with hlt | hlt
    · have : ownMade w0.heap.size w1.heap.size w2.heap.size w3.heap.size ws.length O b = O b := by
        unfold ownMade
        rw [if_neg (by omega), if_neg (by omega), if_neg (by omega)]
      rw [this] at hb
      exact h.base b hb
    · omega
  · intro k p W' hp hW
    by_cases hk : k < ws.length
    · rw [List.getElem?_append_left hk] at hp
      rw [List.getElem?_append_left (by rw [← h.len]; exact hk)] at hW
      have t := (h.two k p W' hp hW).kp OX (Kp.ofBelow (S := NoS) bb) (Off.none fun b hb => h.lt b (by omega)) (Off.none fun b hb => h.lt b (by omega))
      have t' := t.kp OX k4 (fun b hb => ⟨by have := h.lt b (by omega); have := bb.size; omega, by omega⟩) (fun b hb => ⟨by have := h.lt b (by omega); have := bb.size; omega, by omega⟩)
      rw [set_eq (B := fun b => O b = 3 + 2 * k) fun b => (ms b).1 (3 + 2 * k) (by omega) (by omega) (by omega), set_eq (B := fun b => O b = 4 + 2 * k) fun b => (ms b).1 (4 + 2 * k) (by omega) (by omega) (by omega)]
      exact t'
    · have hkl := (List.getElem?_eq_some_iff.1 hp).1
      simp only [List.length_append, List.length_singleton] at hkl
      have hke : k = ws.length := by omega
      subst hke
      rw [List.getElem?_append_right (Nat.le_refl _)] at hp
      rw [List.getElem?_append_right (by rw [h.len]; exact Nat.le_refl _)] at hW
      simp [h.len] at hp hW
      subst hp
      subst hW
      rw [set_eq (B := Ext NoS w0 w1) fun b => (ms b).2.2.1, set_eq (B := Ext NoS w1 w2) fun b => (ms b).2.2.2.1]
      refine ⟨OX.kp (OX.kp rx (Kp.ofBelow (S := NoS) b2) (Off.none (OX.lt rx))) k4 ?_, ry.kp k4 ?_, ok, ?_⟩
      · rintro b (hb | hb)
        · exact hb.elim
        · exact ⟨by omega, n1 b (by omega)⟩
      · rintro b (hb | hb)
        · exact hb.elim
        · exact ⟨by omega, n1 b (by omega)⟩
      · rintro b (hb | hb) (hb' | hb')
        · exact hb.elim
        · exact hb.elim
        · exact hb'.elim
        · omega
  · have hB := h.hB
    have kB : Below B w2 w4 := (k4.mono (by have := bb.size; omega) fun b hb hh => by have := h.base b (by omega); omega).toBelow
    exact (bb.mono hB).trans kB
end Go.Proofs.YtnniimfinakioaaGreatDoor
namespace Go.Proofs.YtnniimfinakioaaGreatDoor
open Go.RowKit
attribute [local go_sem ↓] eqTok eqEnt
attribute [local go_sem] toList_nm app_nm size_nm

abbrev opV (k c a b : Int) (s : Nm) : Value := .agg #[.int .i64 k, .int .i64 c, .int .i64 a, .int .i64 b, strV s]

set_option maxHeartbeats 2000000 in
set_option maxRecDepth 100000 in
theorem step_no {RX : World → (Nat → Prop) → Nat → Wd → Prop} {late : Prop} (OX : ProgOpsG late RX) (w : World) (q : Nat) (c a b : Int) (s : Nm) (ha : a < 1 ∨ 5 < a) :
    Calls Tryz.prog 40 #[ptr q, opV 1 c a b s] w fun e w' => e = .returned (.bool true) ∧ Below w.heap.size w w' := by
  have hb0 : Below w.heap.size w (w.alloc (.cells #[.int .i64 1, .int .i64 c, .int .i64 a, .int .i64 b, strV s] 78)) := (Below.refl _ _).alloc (Nat.le_refl _) _
  have q0 := heap_alloc_new w (.cells #[.int .i64 1, .int .i64 c, .int .i64 a, .int .i64 b, strV s] 78)
  have HB0 := hide hb0
  have Q0 := hide q0
  clear hb0 q0
  go_enter Tryz.func40, Tryz.ntmps40
  go_wp2_with fail
  generalize w.alloc (.cells #[.int .i64 1, .int .i64 c, .int .i64 a, .int .i64 b, strV s] 78) = w0 at *
  refine (OX.newNo a w0 ha).mono ?_
  rintro e w1 ⟨rfl, b1⟩
  obtain ⟨e1, _⟩ := row_facts ((b1.block _ (lt_of_heap Q0.out)).trans Q0.out)
  go_wp2_with fail
  refine (refOpsG.newNo a w1 ha).mono ?_
  rintro e w2 ⟨rfl, b2⟩
  clear e1
  go_wp2_with fail
  refine (num_any 1 w2 (by omega) (by omega)).mono ?_
  rintro e w3 ⟨rfl, rfl⟩
  go_wp2_with fail
  refine (num_any 1 w2 (by omega) (by omega)).mono ?_
  rintro e w3 ⟨rfl, rfl⟩
  go_wp2_with fail
  go_ret
  have t1 := HB0.out.trans (b1.mono HB0.out.size)
  exact ⟨rfl, t1.trans (b2.mono t1.size)⟩

set_option maxHeartbeats 2000000 in
set_option maxRecDepth 100000 in
theorem step_yes {RX : World → (Nat → Prop) → Nat → Wd → Prop} {late : Prop} (OX : ProgOpsG late RX) (B : Nat) (w : World) (O : Nat → Nat) (q : Nat) (vW : Value) (ws : List (Nat × Nat)) (Ws : List Wd) (nt nn : Nat) (h : TopR RX B w O q vW ws Ws nt nn) (hws : ws.length ≤ 1000000000) (c b : Int) (a : Nat) (s : Nm) (h1 : 1 ≤ a) (h5 : a ≤ 5) :
    Calls Tryz.prog 40 #[ptr q, opV 1 c a b s] w fun e w' => e = .returned (.bool true) ∧ ∃ O' vW' p W, TopR RX B w' O' q vW' (ws ++ [p]) (Ws ++ [W]) nt nn ∧ Below B w w' := by
  have hb0 : Below w.heap.size w (w.alloc (.cells #[.int .i64 1, .int .i64 c, .int .i64 a, .int .i64 b, strV s] 78)) := (Below.refl _ _).alloc (Nat.le_refl _) _
  have q0 := heap_alloc_new w (.cells #[.int .i64 1, .int .i64 c, .int .i64 a, .int .i64 b, strV s] 78)
  have HB0 := hide hb0
  have Q0 := hide q0
  clear hb0 q0
  go_enter Tryz.func40, Tryz.ntmps40
  go_wp2_with fail
  generalize w.alloc (.cells #[.int .i64 1, .int .i64 c, .int .i64 a, .int .i64 b, strV s] 78) = w0 at *
  refine (OX.newYes a w0 h1 h5).mono ?_
  rintro e w1 ⟨x, rfl, rx, b1⟩
  obtain ⟨e1, _⟩ := row_facts ((b1.block _ (lt_of_heap Q0.out)).trans Q0.out)
  go_wp2_with fail
  refine (refOpsG.newYes a w1 h1 h5).mono ?_
  rintro e w2 ⟨y, rfl, ry, b2⟩
  clear e1
  go_wp2_with fail
  refine (num_any 0 w2 (by omega) (by omega)).mono ?_
  rintro e w3 ⟨rfl, rfl⟩
  go_wp2_with fail
  refine (num_any 0 w2 (by omega) (by omega)).mono ?_
  rintro e w3 ⟨rfl, rfl⟩
  have t1 := HB0.out.trans (b1.mono HB0.out.size)
  have t2 := t1.trans (b2.mono t1.size)
  have hl2 := h.law.below t2
  obtain ⟨rW, sq, fq, cq, lq, nq⟩ := hl2.rowW
  obtain ⟨oW, cW, rfl, _, _⟩ := own_form rW
  have f0 := fq 0
  have Hfq := hide fq
  clear fq
  go_wp2_with (first | (at_builtin; refine wpList_app (t := 69) _ ePair (by rfl) _ _ (by rfl) (.slice oW ws.length cW) ws.length (ws.flatMap pairC) (by rfl) ?own _ 1 [ptr x, ptr y] (by rfl) ?src ?h63 ?hby ?next))
  case own => exact rW.alloc _
  case src => exact ⟨rfl, by intro u hu; simp at hu; rcases hu with rfl | rfl <;> rfl, Or.inr ⟨_, _, rfl, World.news_of_block (cs := #[ptr x, ptr y]) (heap_alloc_new w2 _)⟩⟩
  case h63 => simp only [maxLen]; omega
  case hby => omega
  case next =>
    intro v3 w3 own3 gr3 at3
    have hba : Below w2.heap.size w2 (w2.alloc (.cells #[ptr x, ptr y] 128)) := (Below.refl _ _).alloc (Nat.le_refl _) _
    obtain ⟨hl4, k4⟩ := hl2.putW hba gr3 (ws' := ws ++ [(x, y)]) (by rw [List.length_append, List.flatMap_append]; exact own3) (by rw [World.size_alloc]; exact at3)
    have c3 : w3.cell? ⟨q, 0, none⟩ = some (.slice oW ws.length cW) := by
      rw [World.cell?_of_block (w := w2.alloc (.cells #[ptr x, ptr y] 128)) (gr3.block q (by have := hba.size; omega) (fun e => nq e.symm)), hba.cell (p := ⟨q, 0, none⟩) lq]
      exact cq
    have f3 : w3.frozen? ⟨q, 0, none⟩ = false := by
      rw [World.frozen?_of_block (w := w2.alloc (.cells #[ptr x, ptr y] 128)) (gr3.block q (by have := hba.size; omega) (fun e => nq e.symm)), World.frozen?_of_block (w := w2) (hba.block q lq)]
      exact f0
    obtain ⟨o3, c3', rfl, _, _⟩ := own_form own3
    have s3 : w2.heap.size ≤ w3.heap.size := by have := gr3.size; have := hba.size; omega
    have HL4 := hide hl4
    have HK4 := hide k4
    clear hl4 k4 own3 gr3 at3 hba cq f0
    go_wp2_with fail
    go_ret
    obtain ⟨O', ht⟩ := h.made OX HB0.out b1 rx b2 ry (WG.zero h1 h5) HL4.out HK4.out s3 (by simp [World.setCell])
    exact ⟨rfl, O', _, _, _, ht⟩
end Go.Proofs.YtnniimfinakioaaGreatDoor
