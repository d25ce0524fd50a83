import Derived.Test.YtnniimfinakioaaGreatDoorXh
namespace Go.Proofs.YtnniimfinakioaaGreatDoor
open Go.RowKit

section
variable {w : World} {S : Nat → Prop} {p : Nat} {W : Wd}
theorem nodeAt_none {i : Int} (h : nodeAt W i = none) : i < 0 ∨ (W.nodes.length : Int) ≤ i := by
  unfold nodeAt at h
  split at h
  · exact Or.inl ‹_›
  · have := List.getElem?_eq_none_iff.1 h; omega
theorem nodeAt_some {i : Int} {d : Nd} (h : nodeAt W i = some d) : ∃ k : Nat, i = k ∧ W.nodes[k]? = some d := by
  unfold nodeAt at h
  split at h
  · cases h
  · exact ⟨i.toNat, by omega, h⟩
/-- The node of the model, and the one in memory. -/
theorem node_of {vN vF : Value} {ns : List NS} {ms : List MS} (_h : RefR w S p vN ns vF ms W.adds) (hm : ns.map NS.m = W.nodes) {k : Nat} {d : Nd} (hd : W.nodes[k]? = some d) : ∃ x, ns[k]? = some x ∧ x.m = d := by
  rw [← hm, List.getElem?_map] at hd
  cases hx : ns[k]? with
  | none => rw [hx] at hd; cases hd
  | some x => rw [hx] at hd; exact ⟨x, rfl, by simpa using hd⟩
end

theorem RefW.stay {w w' : World} {S : Nat → Prop} {p : Nat} {W : Wd} (h : RefW w S p W) (k : Kp w.heap.size S w w') (hR : RefW w' S p W) : RefW w' (Ext S w w') p W := by
  obtain ⟨vN, ns, vF, ms, hr, h1, h2⟩ := h
  obtain ⟨vN', ns', vF', ms', hr', h1', h2'⟩ := hR
  exact ⟨vN', ns', vF', ms', hr'.ext hr.lt k.size, h1', h2'⟩
theorem RefW.kp {w w' : World} {S S' : Nat → Prop} {B p : Nat} {W : Wd} (h : RefW w S p W) (k : Kp B S' w w') (o : Off S B S') : RefW w' S p W := by
  obtain ⟨vN, ns, vF, ms, hr, h1, h2⟩ := h
  exact ⟨vN, ns, vF, ms, hr.kp k o, h1, h2⟩
theorem RefW.lt {w : World} {S : Nat → Prop} {p : Nat} {W : Wd} (h : RefW w S p W) : ∀ b, S b → b < w.heap.size := by
  obtain ⟨vN, ns, vF, ms, hr, _, _⟩ := h
  exact hr.lt
theorem RefW.grew {w w' : World} {S : Nat → Prop} {p : Nat} {W : Wd} (h : RefW w S p W) (k : Below w.heap.size w w') : RefW w' (Ext S w w') p W ∧ Kp w.heap.size S w w' :=
  ⟨h.stay (Kp.ofBelow k) (h.kp (Kp.ofBelow (S := NoS) k) (Off.none h.lt)), Kp.ofBelow k⟩
theorem RefW.same {w : World} {S : Nat → Prop} {p : Nat} {W : Wd} (h : RefW w S p W) : RefW w (Ext S w w) p W ∧ Kp w.heap.size S w w := h.grew (Below.refl _ _)


theorem ref_add (w : World) (S : Nat → Prop) (p : Nat) (W : Wd) (i : Int) (s : Nm) (h : RefW w S p W) (ok : WG W) (hs : s.length ≤ 2000000) :
    Calls Tryz.prog 107 #[ptr p, .int .i64 i, strV s] w fun e w' => e = .returned (err (addM W i s).1) ∧ RefW w' (Ext S w w') p (addM W i s).2 ∧ Kp w.heap.size S w w' := by
  obtain ⟨HH, ok⟩ := ok
  obtain ⟨vN, ns, vF, ms, hr, hm, hf⟩ := h
  have hlen : ns.length = W.nodes.length := by rw [← hm, List.length_map]
  have hl : ns.length ≤ 1000 := by have := ok.five; omega
  have H : RefW w S p W := ⟨vN, ns, vF, ms, hr, hm, hf⟩
  unfold addM
  cases hn : nodeAt W i with
  | none =>
    refine (add_arg w S p vN ns vF ms W.adds hr hl i (by rw [hlen]; exact nodeAt_none hn) s hs).mono ?_
    rintro e w' ⟨rfl, rfl⟩
    exact ⟨rfl, H.same⟩
  | some d =>
    obtain ⟨k, rfl, hk⟩ := nodeAt_some hn
    obtain ⟨x, hx, rfl⟩ := node_of hr hm hk
    have hi : k < ns.length := (List.getElem?_eq_some_iff.1 hx).1
    have no := ok.node k _ hk
    have hsm : SmallP x.p := ok.small no.pc
    have hct : x.count ≤ 60 := ok.count hk
    have hL30 : x.p.L.length ≤ 30 := ok.llen no.pc
    have hmd : x.made ≤ 30 := ok.made hk
    have hke := no.kept
    simp only [NS.m, List.length_map] at hke
    cases hb : nameB s with
    | false =>
      refine (add_name w S p vN ns vF ms W.adds hr hl k hi s hs hb).mono ?_
      rintro e w' ⟨rfl, rfl⟩
      exact ⟨rfl, H.same⟩
    | true =>
      by_cases h30 : 30 ≤ W.adds
      · refine (add_full w S p vN ns vF ms W.adds hr hl k hi s hs hb h30 (by have := ok.adds; omega)).mono ?_
        rintro e w' ⟨rfl, rfl⟩
        simp only [h30, if_true]
        exact ⟨rfl, H.same⟩
      · refine (add_ok w S p vN ns vF ms W.adds hr hl k x hx hsm (by omega) (by omega) (by omega) (by omega) s hb hs (by omega)).mono ?_
        rintro e w' ⟨rfl, ⟨ns', hr', hm'⟩, hk'⟩
        simp only [h30, if_false]
        refine ⟨rfl, ⟨vN, ns', vF, ms, hr', ?_, hf⟩, hk'⟩
        rw [hm', hm]
        rfl

theorem ref_remove (w : World) (S : Nat → Prop) (p : Nat) (W : Wd) (i : Int) (s : Nm) (h : RefW w S p W) (ok : WG W) (hs : s.length ≤ 2000000) :
    Calls Tryz.prog 108 #[ptr p, .int .i64 i, strV s] w fun e w' => e = .returned (err (removeM W i s).1) ∧ RefW w' (Ext S w w') p (removeM W i s).2 ∧ Kp w.heap.size S w w' := by
  obtain ⟨HH, ok⟩ := ok
  obtain ⟨vN, ns, vF, ms, hr, hm, hf⟩ := h
  have hlen : ns.length = W.nodes.length := by rw [← hm, List.length_map]
  have hl : ns.length ≤ 1000 := by have := ok.five; omega
  have H : RefW w S p W := ⟨vN, ns, vF, ms, hr, hm, hf⟩
  unfold removeM
  cases hn : nodeAt W i with
  | none =>
    refine (remove_arg w S p vN ns vF ms W.adds hr hl i (by rw [hlen]; exact nodeAt_none hn) s hs).mono ?_
    rintro e w' ⟨rfl, rfl⟩
    exact ⟨rfl, H.same⟩
  | some d =>
    obtain ⟨k, rfl, hk⟩ := nodeAt_some hn
    obtain ⟨x, hx, rfl⟩ := node_of hr hm hk
    have hi : k < ns.length := (List.getElem?_eq_some_iff.1 hx).1
    have no := ok.node k _ hk
    have hsm : SmallP x.p := ok.small no.pc
    have hct : x.count ≤ 60 := ok.count hk
    have hL30 : x.p.L.length ≤ 30 := ok.llen no.pc
    have hmd : x.made ≤ 30 := ok.made hk
    have hke := no.kept
    simp only [NS.m, List.length_map] at hke
    cases hb : nameB s with
    | false =>
      refine (remove_name w S p vN ns vF ms W.adds hr hl k hi s hs hb).mono ?_
      rintro e w' ⟨rfl, rfl⟩
      exact ⟨rfl, H.same⟩
    | true =>
      unfold takeM
      by_cases he : named s x.p.L = []
      · refine (remove_none w S p vN ns vF ms W.adds hr hl k x hx hsm s hs hb he).mono ?_
        rintro e w' ⟨rfl, hbl⟩
        have he' : named s x.m.p.L = [] := he
        simp only [he', if_true]
        exact ⟨rfl, H.grew hbl⟩
      · refine (remove_ok w S p vN ns vF ms W.adds hr hl k x hx hsm (by omega) (by omega) s hb hs he).mono ?_
        rintro e w' ⟨rfl, ⟨ns', hr', hm'⟩, hk'⟩
        have he' : ¬ named s x.m.p.L = [] := he
        simp only [he', if_false]
        refine ⟨rfl, ⟨vN, ns', vF, ms, hr', ?_, hf⟩, hk'⟩
        rw [hm', hm]
        rfl

theorem ref_clear (w : World) (S : Nat → Prop) (p : Nat) (W : Wd) (i : Int) (h : RefW w S p W) (ok : WG W) :
    Calls Tryz.prog 109 #[ptr p, .int .i64 i] w fun e w' => e = .returned (err (clearM W i).1) ∧ RefW w' (Ext S w w') p (clearM W i).2 ∧ Kp w.heap.size S w w' := by
  obtain ⟨HH, ok⟩ := ok
  obtain ⟨vN, ns, vF, ms, hr, hm, hf⟩ := h
  have hlen : ns.length = W.nodes.length := by rw [← hm, List.length_map]
  have hl : ns.length ≤ 1000 := by have := ok.five; omega
  have H : RefW w S p W := ⟨vN, ns, vF, ms, hr, hm, hf⟩
  unfold clearM
  cases hn : nodeAt W i with
  | none =>
    refine (clear_arg w S p vN ns vF ms W.adds hr hl i (by rw [hlen]; exact nodeAt_none hn)).mono ?_
    rintro e w' ⟨rfl, rfl⟩
    exact ⟨rfl, H.same⟩
  | some d =>
    obtain ⟨k, rfl, hk⟩ := nodeAt_some hn
    obtain ⟨x, hx, rfl⟩ := node_of hr hm hk
    have hi : k < ns.length := (List.getElem?_eq_some_iff.1 hx).1
    have no := ok.node k _ hk
    have hsm : SmallP x.p := ok.small no.pc
    have hct : x.count ≤ 60 := ok.count hk
    have hL30 : x.p.L.length ≤ 30 := ok.llen no.pc
    have hmd : x.made ≤ 30 := ok.made hk
    have hke := no.kept
    simp only [NS.m, List.length_map] at hke
    unfold takeM
    by_cases he : x.p.L = []
    · refine (clear_none w S p vN ns vF ms W.adds hr hl k x hx hsm he).mono ?_
      rintro e w' ⟨rfl, hbl⟩
      have he' : x.m.p.L = [] := he
      simp only [he', if_true]
      exact ⟨trivial, H.grew hbl⟩
    · refine (clear_ok w S p vN ns vF ms W.adds hr hl k x hx hsm (by omega) (by omega) he).mono ?_
      rintro e w' ⟨rfl, ⟨ns', hr', hm'⟩, hk'⟩
      have he' : ¬ x.m.p.L = [] := he
      simp only [he', if_false]
      refine ⟨trivial, ⟨vN, ns', vF, ms, hr', ?_, hf⟩, hk'⟩
      rw [hm', hm]
      rfl

theorem ref_items (w : World) (S : Nat → Prop) (p : Nat) (W : Wd) (i : Int) (h : RefW w S p W) (ok : WG W) :
    Calls Tryz.prog 97 #[ptr p, .int .i64 i] w fun e w' => ∃ v, e = .returned (.tuple #[v, err (itemsM W i).1]) ∧ StrR w' v (itemsM W i).2 ∧ (∀ g, v.ownBlock = some g → w.heap.size ≤ g) ∧ Below w.heap.size w w' := by
  obtain ⟨HH, ok⟩ := ok
  obtain ⟨vN, ns, vF, ms, hr, hm, hf⟩ := h
  have hlen : ns.length = W.nodes.length := by rw [← hm, List.length_map]
  have hl : ns.length ≤ 1000 := by have := ok.five; omega
  have H : RefW w S p W := ⟨vN, ns, vF, ms, hr, hm, hf⟩
  unfold itemsM
  cases hn : nodeAt W i with
  | none =>
    refine (items_arg w S p vN ns vF ms W.adds hr hl i (by rw [hlen]; exact nodeAt_none hn)).mono ?_
    rintro e w' ⟨rfl, rfl⟩
    exact ⟨_, rfl, World.ownsRow_nil _ _ _ _, by intro g hg; simp [Value.ownBlock] at hg, Below.refl _ _⟩
  | some d =>
    obtain ⟨k, rfl, hk⟩ := nodeAt_some hn
    obtain ⟨x, hx, rfl⟩ := node_of hr hm hk
    have hi : k < ns.length := (List.getElem?_eq_some_iff.1 hx).1
    have no := ok.node k _ hk
    have hsm : SmallP x.p := ok.small no.pc
    have hct : x.count ≤ 60 := ok.count hk
    have hL30 : x.p.L.length ≤ 30 := ok.llen no.pc
    have hmd : x.made ≤ 30 := ok.made hk
    have hke := no.kept
    simp only [NS.m, List.length_map] at hke
    exact items_ok w S p vN ns vF ms W.adds hr hl k x hx hsm

theorem ref_text (w : World) (S : Nat → Prop) (p : Nat) (W : Wd) (i : Int) (h : RefW w S p W) (ok : WG W) :
    Calls Tryz.prog 100 #[ptr p, .int .i64 i] w fun e w' => e = .returned (.tuple #[strV (textM W i).2, err (textM W i).1]) ∧ Below w.heap.size w w' := by
  obtain ⟨HH, ok⟩ := ok
  obtain ⟨vN, ns, vF, ms, hr, hm, hf⟩ := h
  have hlen : ns.length = W.nodes.length := by rw [← hm, List.length_map]
  have hl : ns.length ≤ 1000 := by have := ok.five; omega
  have H : RefW w S p W := ⟨vN, ns, vF, ms, hr, hm, hf⟩
  unfold textM
  cases hn : nodeAt W i with
  | none =>
    refine (text_arg w S p vN ns vF ms W.adds hr hl i (by rw [hlen]; exact nodeAt_none hn)).mono ?_
    rintro e w' ⟨rfl, rfl⟩
    exact ⟨rfl, Below.refl _ _⟩
  | some d =>
    obtain ⟨k, rfl, hk⟩ := nodeAt_some hn
    obtain ⟨x, hx, rfl⟩ := node_of hr hm hk
    have hi : k < ns.length := (List.getElem?_eq_some_iff.1 hx).1
    have no := ok.node k _ hk
    have hsm : SmallP x.p := ok.small no.pc
    have hct : x.count ≤ 60 := ok.count hk
    have hL30 : x.p.L.length ≤ 30 := ok.llen no.pc
    have hmd : x.made ≤ 30 := ok.made hk
    have hke := no.kept
    simp only [NS.m, List.length_map] at hke
    exact text_ok w S p vN ns vF ms W.adds hr hl k x hx hsm (fun e he => ok.entOk (no.pc.hL e he)) (fun t ht => ok.tokOk (no.pc.hK t ht))

theorem ref_status (w : World) (S : Nat → Prop) (p : Nat) (W : Wd) (i : Int) (h : RefW w S p W) (ok : WG W) :
    Calls Tryz.prog 101 #[ptr p, .int .i64 i] w fun e w' => ∃ vK vA vT, e = .returned (.tuple #[.agg #[.int .i64 (statusM W i).count, vK, vA, vT], err (statusM W i).err]) ∧
      IntR w' vK (statusM W i).kept ∧ IntR w' vA (statusM W i).acked ∧ IntR w' vT (statusM W i).tokens ∧
      (∀ g, vK.ownBlock = some g → w.heap.size ≤ g) ∧ (∀ g, vA.ownBlock = some g → w.heap.size ≤ g) ∧ (∀ g, vT.ownBlock = some g → w.heap.size ≤ g) ∧
      (∀ g, vK.ownBlock = some g → vA.ownBlock = some g → False) ∧ (∀ g, vK.ownBlock = some g → vT.ownBlock = some g → False) ∧ (∀ g, vA.ownBlock = some g → vT.ownBlock = some g → False) ∧ Below w.heap.size w w' := by
  obtain ⟨HH, ok⟩ := ok
  obtain ⟨vN, ns, vF, ms, hr, hm, hf⟩ := h
  have hlen : ns.length = W.nodes.length := by rw [← hm, List.length_map]
  have hl : ns.length ≤ 1000 := by have := ok.five; omega
  have H : RefW w S p W := ⟨vN, ns, vF, ms, hr, hm, hf⟩
  unfold statusM
  cases hn : nodeAt W i with
  | none =>
    refine (status_arg w S p vN ns vF ms W.adds hr hl i (by rw [hlen]; exact nodeAt_none hn)).mono ?_
    rintro e w' ⟨rfl, hbl⟩
    have no : ∀ g, (Value.slice none 0 0).ownBlock = some g → False := by intro g hg; simp [Value.ownBlock] at hg
    exact ⟨_, _, _, rfl, World.ownsRow_nil _ _ _ _, World.ownsRow_nil _ _ _ _, World.ownsRow_nil _ _ _ _, fun g hg => (no g hg).elim, fun g hg => (no g hg).elim, fun g hg => (no g hg).elim, fun g hg => (no g hg).elim, fun g hg => (no g hg).elim, fun g hg => (no g hg).elim, hbl⟩
  | some d =>
    obtain ⟨k, rfl, hk⟩ := nodeAt_some hn
    obtain ⟨x, hx, rfl⟩ := node_of hr hm hk
    have hi : k < ns.length := (List.getElem?_eq_some_iff.1 hx).1
    have no := ok.node k _ hk
    have hsm : SmallP x.p := ok.small no.pc
    have hct : x.count ≤ 60 := ok.count hk
    have hL30 : x.p.L.length ≤ 30 := ok.llen no.pc
    have hmd : x.made ≤ 30 := ok.made hk
    have hke := no.kept
    simp only [NS.m, List.length_map] at hke
    have hac := no.acked
    refine (status_ok w S p vN ns vF ms W.adds hr hl k x hx hsm (by omega) (by rw [hlen]; exact hac)).mono ?_
    rintro e w' ⟨vK, vA, vT, rfl, h1, h2, h3, hrest⟩
    refine ⟨vK, vA, vT, rfl, ?_, ?_, ?_, hrest⟩
    · have e : keptL x.kept = x.m.kept.map fun k => (k.1 : Int) := by simp [keptL, NS.m, KS.m]
      rw [e] at h1; exact h1
    · rw [hlen] at h2; exact h2
    · rw [hlen] at h3; exact h3


theorem map_flyL {α β : Type} (f : α → β) (l : List α) (m : α) : (flyL l m).map f = flyL (l.map f) (f m) := by
  unfold flyL
  rw [List.length_map]
  split <;> simp
theorem fold_take_map (a : Nat) (l : List KS) (k : Nat) : (l.take k).foldl (stepS a) ⟨[], []⟩ = ((l.map KS.m).take k).foldl (stepP a) ⟨[], []⟩ := by
  rw [← List.map_take, List.foldl_map]
  rfl
theorem msg_of {vN vF : Value} {ns : List NS} {ms : List MS} {w : World} {S : Nat → Prop} {p : Nat} {W : Wd} (_h : RefR w S p vN ns vF ms W.adds) (hf : ms.map MS.m = W.fly) {k : Nat} {d : Md} (hd : W.fly[k]? = some d) : ∃ x, ms[k]? = some x ∧ x.m = d := by
  rw [← hf, List.getElem?_map] at hd
  cases hx : ms[k]? with
  | none => rw [hx] at hd; cases hd
  | some x => rw [hx] at hd; exact ⟨x, rfl, by simpa using hd⟩
theorem msgAt_none {W : Wd} {i : Int} (h : msgAt W i = none) : i < 0 ∨ (W.fly.length : Int) ≤ i := by
  unfold msgAt at h
  split at h
  · exact Or.inl ‹_›
  · have := List.getElem?_eq_none_iff.1 h; omega
theorem msgAt_some {W : Wd} {i : Int} {d : Md} (h : msgAt W i = some d) : ∃ k : Nat, i = k ∧ W.fly[k]? = some d := by
  unfold msgAt at h
  split at h
  · cases h
  · exact ⟨i.toNat, by omega, h⟩


theorem ref_send (w : World) (S : Nat → Prop) (p : Nat) (W : Wd) (i j : Int) (h : RefW w S p W) (ok : WG W) :
    Calls Tryz.prog 110 #[ptr p, .int .i64 i, .int .i64 j] w fun e w' => e = .returned (err (sendM W i j).1) ∧ RefW w' (Ext S w w') p (sendM W i j).2 ∧ Kp w.heap.size S w w' := by
  obtain ⟨HH, ok⟩ := ok
  obtain ⟨vN, ns, vF, ms, hr, hm, hf⟩ := h
  have hlen : ns.length = W.nodes.length := by rw [← hm, List.length_map]
  have hl : ns.length ≤ 1000 := by have := ok.five; omega
  have H : RefW w S p W := ⟨vN, ns, vF, ms, hr, hm, hf⟩
  have hflen : ms.length = W.fly.length := by rw [← hf, List.length_map]
  have hfl : ms.length ≤ 1000 := by have := ok.forty; omega
  unfold sendM
  cases hn : nodeAt W i with
  | none =>
    refine (send_arg w S p vN ns vF ms W.adds hr hl i j (Or.inl (by rw [hlen]; exact nodeAt_none hn))).mono ?_
    rintro e w' ⟨rfl, hb⟩
    exact ⟨rfl, H.grew hb⟩
  | some d =>
    cases hn2 : nodeAt W j with
    | none =>
      refine (send_arg w S p vN ns vF ms W.adds hr hl i j (Or.inr (Or.inl (by rw [hlen]; exact nodeAt_none hn2)))).mono ?_
      rintro e w' ⟨rfl, hb⟩
      exact ⟨rfl, H.grew hb⟩
    | some d2 =>
      by_cases hij : i = j
      · simp only [hij, if_true]
        refine (send_arg w S p vN ns vF ms W.adds hr hl j j (Or.inr (Or.inr rfl))).mono ?_
        rintro e w' ⟨rfl, hb⟩
        exact ⟨rfl, H.grew hb⟩
      · simp only [hij, if_false]
        obtain ⟨k, rfl, hk⟩ := nodeAt_some hn
        obtain ⟨x, hx, rfl⟩ := node_of hr hm hk
        have hi : k < ns.length := (List.getElem?_eq_some_iff.1 hx).1
        have no := ok.node k _ hk
        have hsm : SmallP x.p := ok.small no.pc
        have hct : x.count ≤ 60 := ok.count hk
        have hL30 : x.p.L.length ≤ 30 := ok.llen no.pc
        have hmd : x.made ≤ 30 := ok.made hk
        have hke := no.kept
        simp only [NS.m, List.length_map] at hke
        obtain ⟨k2, rfl, hk2⟩ := nodeAt_some hn2
        have hj : k2 < W.nodes.length := (List.getElem?_eq_some_iff.1 hk2).1
        have hac := no.acked
        have hne : k ≠ k2 := fun e => hij (by rw [e])
        obtain ⟨a, ha⟩ := get_some (l := x.acked) (k := k2) (by have : x.acked.length = W.nodes.length := hac; omega)
        have hga : x.m.acked.getD (k2 : Int).toNat 0 = a := by simp [NS.m, List.getD, ha]
        rw [hga]
        by_cases hca : x.count ≤ a
        · refine (send_none w S p vN ns vF ms W.adds hr hl k k2 (by omega) hne x hx a ha hca).mono ?_
          rintro e w' ⟨rfl, hb⟩
          have : x.m.count ≤ a := hca
          simp only [this, if_true]
          exact ⟨trivial, H.grew hb⟩
        · have hS := no.send a
          refine (send_ok w S p vN ns vF ms W.adds hr hl hfl k k2 (by omega) hne x hx a ha (by omega) (by omega) (fun y hy => ?_) (fun n => ?_) ⟨ok.small hS, fun e he => ok.entOk (hS.hL e he), fun t ht => ok.tokOk (hS.hK t ht)⟩).mono ?_
          · have := no.keptP y.m (List.mem_map.2 ⟨y, hy, rfl⟩)
            exact ⟨ok.small this.1, by have h2 : y.n < x.count := this.2; omega⟩
          · rw [fold_take_map]
            exact ok.small (foldP_ok a _ _ (PcOk.nil HH) fun q hq => (no.keptP q (List.mem_of_mem_take hq)).1)
          · rintro e w' ⟨rfl, ⟨vF', ms', hR, hms⟩, hK⟩
            have : ¬ x.m.count ≤ a := hca
            simp only [this, if_false]
            refine ⟨trivial, ⟨vN, ns, vF', ms', hR, hm, ?_⟩, hK⟩
            rw [hms, hf]
            rfl

theorem ref_flying (w : World) (S : Nat → Prop) (p : Nat) (W : Wd) (h : RefW w S p W) (ok : WG W) :
    Calls Tryz.prog 105 #[ptr p] w fun e w' => ∃ v, e = .returned v ∧ TmR w' v (flyingM W) ∧ (∀ g, v.ownBlock = some g → w.heap.size ≤ g) ∧ Below w.heap.size w w' := by
  obtain ⟨HH, ok⟩ := ok
  obtain ⟨vN, ns, vF, ms, hr, hm, hf⟩ := h
  have hflen : ms.length = W.fly.length := by rw [← hf, List.length_map]
  have hfl : ms.length ≤ 1000 := by have := ok.forty; omega
  have e : ms.map MS.t = flyingM W := by
    rw [flyingM, ← hf, List.map_map]
    rfl
  rw [← e]
  exact told_any w S p vN ns vF ms W.adds hr hfl

theorem ref_drop (w : World) (S : Nat → Prop) (p : Nat) (W : Wd) (i : Int) (h : RefW w S p W) (ok : WG W) :
    Calls Tryz.prog 112 #[ptr p, .int .i64 i] w fun e w' => e = .returned (err (dropM W i).1) ∧ RefW w' (Ext S w w') p (dropM W i).2 ∧ Kp w.heap.size S w w' := by
  obtain ⟨HH, ok⟩ := ok
  obtain ⟨vN, ns, vF, ms, hr, hm, hf⟩ := h
  have hlen : ns.length = W.nodes.length := by rw [← hm, List.length_map]
  have hl : ns.length ≤ 1000 := by have := ok.five; omega
  have H : RefW w S p W := ⟨vN, ns, vF, ms, hr, hm, hf⟩
  have hflen : ms.length = W.fly.length := by rw [← hf, List.length_map]
  have hfl : ms.length ≤ 1000 := by have := ok.forty; omega
  unfold dropM
  cases hn : msgAt W i with
  | none =>
    refine (drop_no w S p vN ns vF ms W.adds hr hfl i (by rw [hflen]; exact msgAt_none hn)).mono ?_
    rintro e w' ⟨rfl, hb⟩
    exact ⟨rfl, H.grew hb⟩
  | some m =>
    obtain ⟨k, rfl, hk⟩ := msgAt_some hn
    obtain ⟨x, hx, rfl⟩ := msg_of hr hf hk
    refine (drop_ok w S p vN ns vF ms W.adds hr hfl k x hx).mono ?_
    rintro e w' ⟨rfl, ⟨vF', hR⟩, hK⟩
    refine ⟨rfl, ⟨vN, ns, vF', _, hR, hm, ?_⟩, hK⟩
    simp [gone, ← hf]

theorem ref_double (w : World) (S : Nat → Prop) (p : Nat) (W : Wd) (i : Int) (h : RefW w S p W) (ok : WG W) :
    Calls Tryz.prog 113 #[ptr p, .int .i64 i] w fun e w' => e = .returned (err (doubleM W i).1) ∧ RefW w' (Ext S w w') p (doubleM W i).2 ∧ Kp w.heap.size S w w' := by
  obtain ⟨HH, ok⟩ := ok
  obtain ⟨vN, ns, vF, ms, hr, hm, hf⟩ := h
  have hlen : ns.length = W.nodes.length := by rw [← hm, List.length_map]
  have hl : ns.length ≤ 1000 := by have := ok.five; omega
  have H : RefW w S p W := ⟨vN, ns, vF, ms, hr, hm, hf⟩
  have hflen : ms.length = W.fly.length := by rw [← hf, List.length_map]
  have hfl : ms.length ≤ 1000 := by have := ok.forty; omega
  unfold doubleM
  cases hn : msgAt W i with
  | none =>
    refine (double_no w S p vN ns vF ms W.adds hr hfl i (by rw [hflen]; exact msgAt_none hn)).mono ?_
    rintro e w' ⟨rfl, hb⟩
    exact ⟨rfl, H.grew hb⟩
  | some m =>
    obtain ⟨k, rfl, hk⟩ := msgAt_some hn
    obtain ⟨x, hx, rfl⟩ := msg_of hr hf hk
    refine (double_ok w S p vN ns vF ms W.adds hr hfl k x hx).mono ?_
    rintro e w' ⟨rfl, ⟨vF', hR⟩, hK⟩
    refine ⟨rfl, ⟨vN, ns, vF', _, hR, hm, ?_⟩, hK⟩
    rw [map_flyL, hf]

theorem ref_deliver (w : World) (S : Nat → Prop) (p : Nat) (W : Wd) (i : Int) (h : RefW w S p W) (ok : WG W) :
    Calls Tryz.prog 111 #[ptr p, .int .i64 i] w fun e w' => e = .returned (err (deliverM W i).1) ∧ RefW w' (Ext S w w') p (deliverM W i).2 ∧ Kp w.heap.size S w w' := by
  obtain ⟨HH, ok⟩ := ok
  obtain ⟨vN, ns, vF, ms, hr, hm, hf⟩ := h
  have hlen : ns.length = W.nodes.length := by rw [← hm, List.length_map]
  have hl : ns.length ≤ 1000 := by have := ok.five; omega
  have H : RefW w S p W := ⟨vN, ns, vF, ms, hr, hm, hf⟩
  have hflen : ms.length = W.fly.length := by rw [← hf, List.length_map]
  have hfl : ms.length ≤ 1000 := by have := ok.forty; omega
  unfold deliverM
  cases hn : msgAt W i with
  | none =>
    refine (deliver_no w S p vN ns vF ms W.adds hr hfl i (by rw [hflen]; exact msgAt_none hn)).mono ?_
    rintro e w' ⟨rfl, hb⟩
    exact ⟨rfl, H.grew hb⟩
  | some m =>
    obtain ⟨k, rfl, hk⟩ := msgAt_some hn
    obtain ⟨x, hx, rfl⟩ := msg_of hr hf hk
    have mo := ok.fly _ (List.mem_of_getElem? hk)
    obtain ⟨dd, hdd⟩ := get_some (l := W.nodes) (k := x.m.to) mo.to
    obtain ⟨y, hy, rfl⟩ := node_of hr hm hdd
    have no := ok.node _ _ hdd
    have hct : y.count ≤ 60 := ok.count hdd
    have hke := no.kept
    have hac := no.acked
    simp only [NS.m, List.length_map] at hke
    simp only [hdd]
    by_cases hk2 : x.kind = 2
    · have hk2' : x.m.kind = 2 := hk2
      simp only [hk2', if_true]
      refine (deliver_ack w S p vN ns vF ms W.adds hr hfl k x hx hk2 y hy (by have := mo.frm; have h2 : y.acked.length = W.nodes.length := hac; show x.m.frm < _; omega)).mono ?_
      rintro e w' ⟨rfl, ⟨vF', ns', hR, hns⟩, hK⟩
      refine ⟨rfl, ⟨vN, ns', vF', _, hR, ?_, ?_⟩, hK⟩
      · rw [hns, hm]
        rfl
      · simp [gone, ← hf]
    · have hk2' : ¬ x.m.kind = 2 := hk2
      simp only [hk2', if_false]
      refine (deliver_news w S p vN ns vF ms W.adds hr hfl k x hx hk2 y hy (ok.small no.pc) (ok.small mo.pc) (by omega) (by omega)).mono ?_
      rintro e w' ⟨rfl, ⟨vF', ns', hR, hns⟩, hK⟩
      refine ⟨rfl, ⟨vN, ns', vF', _, hR, ?_, ?_⟩, hK⟩
      · rw [hns, hm]
        rfl
      · rw [map_flyL]
        simp [gone, ← hf, ackMd, ackMS, MS.m]
end Go.Proofs.YtnniimfinakioaaGreatDoor
namespace Go.Proofs.YtnniimfinakioaaGreatDoor
open Go.RowKit
attribute [local go_sem ↓] eqTok eqEnt
attribute [local go_sem] toList_nm app_nm size_nm

theorem talk_nodes (s : Nat × Wd) (x : Nat × Nat) : (talk s x).2.nodes.length = s.2.nodes.length := by
  unfold talk
  split
  · rfl
  · split
    · split
      · rfl
      · simp [talkN]
    · rfl
theorem talk_le (s : Nat × Wd) (x : Nat × Nat) : (talk s x).1 ≤ s.1 + 1 := by
  unfold talk
  split
  · omega
  · split
    · split
      · omega
      · simp
    · omega
def rowOf (n i : Nat) : List (Nat × Nat) := (List.range n).map fun k => (i, k)
def rowTo (s : Nat × Wd) (i k : Nat) : Nat × Wd := ((List.range k).map fun j => (i, j)).foldl talk s
def rowsTo (n : Nat) (s : Nat × Wd) (i : Nat) : Nat × Wd := ((List.range i).flatMap (rowOf n)).foldl talk s
theorem rowTo_succ (s : Nat × Wd) (i k : Nat) : rowTo s i (k + 1) = talk (rowTo s i k) (i, k) := by
  simp [rowTo, List.range_succ]
theorem rowsTo_succ (n : Nat) (s : Nat × Wd) (i : Nat) : rowsTo n s (i + 1) = rowTo (rowsTo n s i) i n := by
  simp [rowsTo, rowTo, rowOf, List.range_succ]
theorem rowsTo_all (W : Wd) : rowsTo W.nodes.length (0, W) W.nodes.length = roundM W := rfl

/-- The world while a Round goes on. -/
structure RdR (w : World) (S : Nat → Prop) (p : Nat) (H : List Ent) (N : Nat) (s : Nat × Wd) (b : Nat) (wr : World) : Prop where
  ref : RefW wr (Ext S w wr) p s.2
  ok : WGH H s.2
  len : s.2.nodes.length = N
  le : s.1 ≤ b
  kp : Kp w.heap.size S w wr

theorem RefW.exts {w wr w' : World} {S : Nat → Prop} {p : Nat} {W : Wd} (h : RefW w' (Ext (Ext S w wr) wr w') p W) (h1 : w.heap.size ≤ wr.heap.size) (h2 : wr.heap.size ≤ w'.heap.size) (hl : ∀ b, S b → b < w.heap.size) : RefW w' (Ext S w w') p W := by
  obtain ⟨vN, ns, vF, ms, hr, hm, hf⟩ := h
  refine ⟨vN, ns, vF, ms, hr.mono (fun b hb => Ext.trans hb h1 h2) (fun b hb => ?_), hm, hf⟩
  rcases hb with x | x
  · have := hl b x; omega
  · exact x.2
theorem RdR.stay {w wr w' : World} {S : Nat → Prop} {p : Nat} {H : List Ent} {N b b' : Nat} {s : Nat × Wd} (h : RdR w S p H N s b wr) (hl : ∀ b, S b → b < w.heap.size) (hb : Below wr.heap.size wr w') (hbb : b ≤ b') : RdR w S p H N s b' w' :=
  ⟨(h.ref.grew hb).1.exts h.kp.size hb.size hl, h.ok, h.len, Nat.le_trans h.le hbb, (h.ref.grew hb).2.under h.kp⟩

set_option maxHeartbeats 2000000 in
set_option maxRecDepth 100000 in
theorem ref_round (w : World) (S : Nat → Prop) (p : Nat) (W : Wd) (h : RefW w S p W) (ok : WG W) :
    Calls Tryz.prog 116 #[ptr p] w fun e w' => e = .returned (.int .i64 ((roundM W).1 : Int)) ∧ RefW w' (Ext S w w') p (roundM W).2 ∧ Kp w.heap.size S w w' := by
  obtain ⟨HH, ok⟩ := ok
  have hlt0 := h.lt
  have h5 := ok.five
  obtain ⟨N, hN⟩ : ∃ N, W.nodes.length = N := ⟨_, rfl⟩
  rw [← rowsTo_all, hN]
  rw [hN] at h5
  have h0 : RdR w S p HH N (0, W) 0 w := ⟨h.same.1, ok, hN, Nat.le_refl _, h.same.2⟩
  have HLt := hide hlt0
  clear h ok hN hlt0
  go_enter Tryz.func116, Tryz.ntmps116
  go_wp2_with fail
  go_loopw [3, 4] (fun c j wr => ∃ i : Nat, i ≤ N ∧ j = .int .i64 i ∧ c = .int .i64 ((rowsTo N (0, W) i).1 : Int) ∧ RdR w S p HH N (rowsTo N (0, W) i) (i * 5) wr) (fun _ j _ => N - (intOf j).toNat)
  case atStart => exact ⟨0, Nat.zero_le _, rfl, rfl, h0⟩
  case round =>
    obtain ⟨i, hi, rfl, rfl, hR⟩ := hrel
    clear h0
    obtain ⟨s0, hs0⟩ : ∃ s0, rowsTo N (0, W) i = s0 := ⟨_, rfl⟩
    rw [hs0] at hR ⊢
    obtain ⟨vN, ns, vF, ms, hr, hm, hf⟩ := hR.ref
    have hnl : ns.length = N := by rw [← hR.len, ← hm, List.length_map]
    obtain ⟨oN, cN, rfl, _, _⟩ := own_form hr.nodes
    obtain ⟨e1, _⟩ := row_facts hr.self
    have cp := e1 0
    simp only [List.getElem?_cons_zero, List.getElem?_toArray, hnl] at cp
    have HR := hide hR
    have HS0 := hide hs0
    clear hr hm hf hnl e1 hR hs0
    by_cases hlt : i < N
    · have hlt' : decide ((i : Int) < (N : Int)) = true := by simp; omega
      go_wp2_with fail
      clear cp
      go_loopw [3, 5] (fun c j wr => ∃ k : Nat, k ≤ N ∧ j = .int .i64 k ∧ c = .int .i64 ((rowTo s0 i k).1 : Int) ∧ RdR w S p HH N (rowTo s0 i k) (i * 5 + k) wr) (fun _ j _ => N - (intOf j).toNat)
      case atStart => exact ⟨0, Nat.zero_le _, rfl, rfl, HR.out⟩
      case round =>
        obtain ⟨k, hk, rfl, rfl, hR⟩ := hrel
        clear HR
        have hsucc := rowTo_succ s0 i k
        obtain ⟨s, hs⟩ : ∃ s, rowTo s0 i k = s := ⟨_, rfl⟩
        rw [hs] at hR hsucc ⊢
        have hle := hR.le
        obtain ⟨vN, ns, vF, ms, hr, hm, hf⟩ := hR.ref
        have hnl : ns.length = N := by rw [← hR.len, ← hm, List.length_map]
        have hml : ms.length ≤ 1000 := by
          have e : ms.length = s.2.fly.length := by rw [← hf, List.length_map]
          have := hR.ok.forty
          omega
        obtain ⟨oN, cN, rfl, _, _⟩ := own_form hr.nodes
        obtain ⟨e1, _⟩ := row_facts hr.self
        have cp := e1 0
        simp only [List.getElem?_cons_zero, List.getElem?_toArray, hnl] at cp
        have HR := hide hR
        have HS := hide hs
        have HSU := hide hsucc
        clear e1 hR hs hsucc
        by_cases hkl : k < N
        · have hkl' : decide ((k : Int) < (N : Int)) = true := by simp; omega
          by_cases hik : i = k
          · subst hik
            have hT : talk s (i, i) = s := by simp [talk]
            have HT := hide hT
            have hee : ((i : Int) == (i : Int)) = true := by simp
            clear hr hm hf hml hT hnl
            go_wp2_with fail
            go_roundw
            case rel => exact ⟨i + 1, by omega, by go_num, by rw [HSU.out, HT.out], by rw [HSU.out, HT.out]; exact ⟨HR.out.ref, HR.out.ok, HR.out.len, Nat.le_trans HR.out.le (by omega), HR.out.kp⟩⟩
            case measure => simp [intOf]; omega
          · have hee : ((i : Int) == (k : Int)) = false := by
              rw [beq_eq_false_iff_ne]
              omega
            obtain ⟨dm, hdm⟩ := get_some (l := s.2.nodes) (k := i) (by rw [HR.out.len]; exact hlt)
            obtain ⟨em, hem⟩ := get_some (l := s.2.nodes) (k := k) (by rw [HR.out.len]; exact hkl)
            obtain ⟨x, hx, rfl⟩ := node_of hr hm hdm
            obtain ⟨y, hy, rfl⟩ := node_of hr hm hem
            have no := HR.out.ok.node _ _ hdm
            have ne := HR.out.ok.node _ _ hem
            have hct : x.count ≤ 60 := HR.out.ok.count hdm
            have hctY : y.count ≤ 60 := HR.out.ok.count hem
            have hke := no.kept
            have hkeY := ne.kept
            simp only [NS.m, List.length_map] at hke hkeY
            have hac : x.acked.length = N := no.acked.trans HR.out.len
            obtain ⟨a, ha⟩ := get_some (l := x.acked) (k := k) (by omega)
            have hga : x.m.acked.getD k 0 = a := by simp [NS.m, List.getD, ha]
            by_cases hca : x.count ≤ a
            · have hT : talk s (i, k) = s := by
                simp only [talk, hik, if_false, hdm, hem, hga]
                exact if_pos hca
              have HT := hide hT
              have hMs := message_no wr (Ext S w wr) p _ ns vF ms s.2.adds hr i k x hx a ha hca
              clear hr hm hf hml hT hnl hx hy no ne hdm hem hga hac hke hkeY hct hctY ha
              have HC := hide hca
              clear hca
              have hik' := hide hik
              clear hik
              go_wp2_with fail
              refine hMs.mono ?_
              rintro e w1 ⟨rfl, hb⟩
              have hb2 := fun o => hb.alloc hb.size o
              have HB := hide hb2
              clear hMs hb hb2 cp
              go_wp2_with fail
              go_roundw
              case rel =>
                refine ⟨k + 1, by omega, by go_num, by rw [HSU.out, HT.out], ?_⟩
                rw [HSU.out, HT.out]
                exact HR.out.stay HLt.out (HB.out _) (by omega)
              case measure => simp [intOf]; omega
            · have hS := no.send a
              have hMs := message_yes wr (Ext S w wr) p _ ns vF ms s.2.adds hr i k x hx a ha (by omega) (by omega) (fun z hz => by
                have := no.keptP z.m (List.mem_map.2 ⟨z, hz, rfl⟩)
                exact ⟨HR.out.ok.small this.1, by have h2 : z.n < x.count := this.2; omega⟩) (fun n => by
                rw [fold_take_map]
                exact HR.out.ok.small (foldP_ok a _ _ (PcOk.nil HH) fun q hq => (no.keptP q (List.mem_of_mem_take hq)).1)) ⟨HR.out.ok.small hS, fun e he => HR.out.ok.entOk (hS.hL e he), fun t ht => HR.out.ok.tokOk (hS.hK t ht)⟩
              have hT : talk s (i, k) = (s.1 + 1, talkN s.2 i k x.m y.m) := by
                simp only [talk, hik, if_false, hdm, hem, hga]
                exact if_neg hca
              obtain ⟨TX, hTX⟩ : ∃ TX, pieceT (sendP x.m a).L (sendP x.m a).K = TX := ⟨_, rfl⟩
              obtain ⟨Q, hQ⟩ : ∃ Q, sendP x.m a = Q := ⟨_, rfl⟩
              rw [hTX, hQ] at hMs
              rw [hQ] at hS
              have smY := HR.out.ok.small ne.pc
              have smQ := HR.out.ok.small hS
              have HT := hide hT
              have HQ := hide hQ
              have HX := hide hx
              have HY := hide hy
              have HRR := hide hr
              have HGA := hide hga
              have HD := hide hdm
              have HM := hide hm
              have HFf := hide hf
              have HC := hide hca
              have hik' := hide hik
              clear hm hf hT hnl hx hy no ne hdm hem hga hke hS ha hQ hTX hca hik hr
              go_wp2_with fail
              refine hMs.mono ?_
              rintro e w1 ⟨vL, vK, rfl, hP, hb⟩
              obtain ⟨oL, cL, rfl, _, _⟩ := hP.L.form
              obtain ⟨oK, cK, rfl, _, _⟩ := hP.K.form
              obtain ⟨W2, hW2⟩ : ∃ W2, w1.alloc (.cells #[.int .i64 1, .int .i64 i, .int .i64 k, .int .i64 x.count, strV TX, .slice oL Q.L.length cL, .slice oK Q.K.length cK] 198) = W2 := ⟨_, rfl⟩
              have q0 : W2.heap[w1.heap.size]? = some (.cells #[.int .i64 1, .int .i64 i, .int .i64 k, .int .i64 x.count, strV TX, .slice oL Q.L.length cL, .slice oK Q.K.length cK] 198 (0, 0)) := by rw [← hW2]; exact heap_alloc_new w1 _
              have hb1 : Below w1.heap.size w1 W2 := by rw [← hW2]; exact (Below.refl _ _).alloc (Nat.le_refl _) _
              have hb2 : Below wr.heap.size wr W2 := hb.trans (hb1.mono hb.size)
              obtain ⟨e0, _⟩ := row_facts q0
              have d0 := e0 0
              have d1 := e0 1
              have d2 := e0 2
              have d3 := e0 3
              have d4 := e0 4
              have d5 := e0 5
              have d6 := e0 6
              simp only [List.getElem?_toArray, List.getElem?_cons_zero, List.getElem?_cons_succ] at d0 d1 d2 d3 d4 d5 d6
              have HP := hide (hP.below hb1)
              have HB1 := hide hb1
              have HB2 := hide hb2
              have HBm := hide hb
              clear hMs hb hb1 hb2 hP cp e0 q0
              go_wp2_with fail
              have hRx := (HRR.out.below HB2.out).ext HRR.out.lt HB2.out.size
              have hPx := HP.out.mono (S' := Ext (Ext S w wr) wr W2) (fun b hx => by
                rcases hx with z | z
                · exact Or.inl z
                · exact Or.inr ⟨z.1, Nat.lt_of_lt_of_le z.2 HB1.out.size⟩)
              refine (come_any W2 _ p _ ns vF ms s.2.adds hRx ⟨1, i, k, x.count, TX, .slice oL Q.L.length cL, .slice oK Q.K.length cK, Q⟩ hPx y HY.out smY smQ (by omega) (by omega)).mono ?_
              rintro e w3 ⟨rfl, ⟨ns3, hR3, hns3⟩, hK3⟩
              have hx3 : (ns3.map NS.m)[i]? = some x.m := by
                rw [hns3]
                show ((ns.map NS.m).set k _)[i]? = some x.m
                rw [List.getElem?_set_ne (Ne.symm hik'.out), HM.out]
                exact HD.out
              obtain ⟨x3, hx3', ex3⟩ : ∃ x3, ns3[i]? = some x3 ∧ x3.m = x.m := by
                rw [List.getElem?_map] at hx3
                cases hz : ns3[i]? with
                | none => rw [hz] at hx3; cases hx3
                | some z => rw [hz] at hx3; exact ⟨z, rfl, by simpa using hx3⟩
              have hac3 : k < x3.acked.length := by
                have e2 : x3.acked = x.acked := congrArg Nd.acked ex3
                rw [e2]
                omega
              have HR3 := hide hR3
              have HNS3 := hide hns3
              have HK3 := hide hK3
              have HX3 := hide hx3'
              have EX3 := hide ex3
              clear hR3 hns3 hK3 hx3 hx3' ex3 hRx hPx d0 d1 d2 d3 d4 d5 d6
              go_wp2_with fail
              refine (acked_any w3 _ p _ ns3 vF ms s.2.adds HR3.out (ackMS ⟨1, i, k, x.count, TX, .slice oL Q.L.length cL, .slice oK Q.K.length cK, Q⟩) x3 HX3.out hac3).mono ?_
              rintro e w4 ⟨rfl, ⟨ns4, hR4, hns4⟩, hK4⟩
              have HR4 := hide hR4
              have HNS4 := hide hns4
              have HK4 := hide hK4
              clear hR4 hns4 hK4
              go_wp2_with fail
              go_roundw
              case rel =>
                refine ⟨k + 1, by omega, by go_num, by rw [HSU.out, HT.out]; go_num, ?_⟩
                rw [HSU.out, HT.out]
                have nn : ns4.map NS.m = (talkN s.2 i k x.m y.m).nodes := by
                  have n4 := HNS4.out
                  rw [HNS3.out, HM.out, EX3.out] at n4
                  rw [n4, talkN, HGA.out, HQ.out]
                  rfl
                have r1 : RefW w4 (Ext (Ext (Ext (Ext S w wr) wr W2) W2 w3) w3 w4) p (talkN s.2 i k x.m y.m) := ⟨_, ns4, vF, ms, HR4.out, nn, HFf.out⟩
                have lt1 := HRR.out.lt
                have z1 := HB2.out.size
                have z2 := HK3.out.size
                have z3 := HK4.out.size
                have z0 := HR.out.kp.size
                have r2 := (r1.exts z2 z3 (fun b hb => by
                  rcases hb with q | q
                  · have := lt1 b q; omega
                  · exact q.2)).exts z1 (Nat.le_trans z2 z3) lt1
                have r3 := r2.exts z0 (Nat.le_trans z1 (Nat.le_trans z2 z3)) HLt.out
                refine ⟨r3, HR.out.ok.talkN HD.out (by rw [← HM.out, List.getElem?_map, HY.out]; rfl) hik'.out, ?_, by show s.1 + 1 ≤ _; omega, ?_⟩
                · simp only [talkN, List.length_set]
                  exact HR.out.len
                · exact ((HK4.out.under HK3.out).under (Kp.ofBelow HB2.out)).under HR.out.kp
              case measure => simp [intOf]; omega
        · have hkN : k = N := by omega
          subst hkN
          have hkl' : decide ((k : Int) < (k : Int)) = false := by simp
          clear hr hm hf hml hnl
          go_wp2_with fail
          go_roundw
          case rel => exact ⟨i + 1, by omega, by go_num, by rw [rowsTo_succ, HS0.out, HS.out], by rw [rowsTo_succ, HS0.out, HS.out]; exact ⟨HR.out.ref, HR.out.ok, HR.out.len, Nat.le_trans HR.out.le (by omega), HR.out.kp⟩⟩
          case measure => simp [intOf]; omega
    · have hiN : i = N := by omega
      subst hiN
      have hlt' : decide ((i : Int) < (i : Int)) = false := by simp
      go_wp2_with fail
      go_ret
      rw [HS0.out]
      exact ⟨rfl, HR.out.ref, HR.out.kp⟩
end Go.Proofs.YtnniimfinakioaaGreatDoor
namespace Go.Proofs.YtnniimfinakioaaGreatDoor
open Go.RowKit
attribute [local go_sem ↓] eqTok eqEnt
attribute [local go_sem] toList_nm app_nm size_nm

/-- One cell of a node is written. -/
theorem RefR.setRow {w : World} {S : Nat → Prop} {p g c adds i j : Nat} {vF u : Value} {ns : List NS} {ms : List MS} {d d' : NS} (h : RefR w S p (.slice (some ⟨g, 0, none⟩) ns.length c) ns vF ms adds) (hd : ns[i]? = some d) (hgp : g ≠ p) (hj : j < 6) (hnc : nsC d' = (nsC d).set j u) (hN : NodeR w S d')
    (dK : ∀ (k : Nat) (x : NS) (b : Nat), k ≠ i → ns[k]? = some x → d'.vKept.ownBlock = some b → x.vKept.ownBlock = some b → False)
    (dA : ∀ (k : Nat) (x : NS) (b : Nat), k ≠ i → ns[k]? = some x → d'.vAcked.ownBlock = some b → x.vAcked.ownBlock = some b → False) :
    RefR (w.setCell ⟨g, i * 6 + j, none⟩ u) S p (.slice (some ⟨g, 0, none⟩) ns.length c) (ns.set i d') vF ms adds := by
  have kp := Kp.set1 w g (i * 6 + j) u
  have ot : OfT w (fun b => b = g) 168 := OfT.row h.nodes rfl
  have hs : (w.setCell ⟨g, i * 6 + j, none⟩ u).heap.size = w.heap.size := by simp [World.setCell]
  have nd : ∀ n, NodeR w S n → NodeR (w.setCell ⟨g, i * 6 + j, none⟩ u) S n := fun n hn => hn.kpE kp (Nat.le_refl _) ot (by decide) (by decide) (by decide) (by decide)
  refine ⟨fun b hb => by rw [hs]; exact h.lt b hb, (kp.block p (lt_of_heap h.self) (Ne.symm hgp)).trans h.self, h.sp, NdR.set (j := j) h.nodes hd hj hnc, h.sN, ?_, ?_, ?_, h.fly.kpE kp (Nat.le_refl _) ot (by decide) (by decide) (by decide)⟩
  · intro n hn
    obtain ⟨k, hk⟩ := List.mem_iff_getElem?.1 hn
    rcases set_at hk with ⟨rfl, rfl⟩ | ⟨_, hk⟩
    · exact nd _ hN
    · exact nd _ (h.node n (List.mem_of_getElem? hk))
  · intro a b x y b' ha hb h1 h2
    rcases set_at ha with ⟨ea, ex⟩ | ⟨na, qa⟩ <;> rcases set_at hb with ⟨eb, ey⟩ | ⟨nb, qb⟩
    · rw [← ea, ← eb]
    · rw [ex] at h1
      exact (dK b y b' (Ne.symm nb) qb h1 h2).elim
    · rw [ey] at h2
      exact (dK a x b' (Ne.symm na) qa h2 h1).elim
    · exact h.disK _ _ _ _ b' qa qb h1 h2
  · intro a b x y b' ha hb h1 h2
    rcases set_at ha with ⟨ea, ex⟩ | ⟨na, qa⟩ <;> rcases set_at hb with ⟨eb, ey⟩ | ⟨nb, qb⟩
    · rw [← ea, ← eb]
    · rw [ex] at h1
      exact (dA b y b' (Ne.symm nb) qb h1 h2).elim
    · rw [ey] at h2
      exact (dA a x b' (Ne.symm na) qa h2 h1).elim
    · exact h.disA _ _ _ _ b' qa qb h1 h2

section
variable (w : World) (S : Nat → Prop) (p : Nat) (vN : Value) (ns : List NS) (vF : Value) (ms : List MS) (adds : Nat) (h : RefR w S p vN ns vF ms adds)
include h

set_option maxHeartbeats 1000000 in
theorem crash_arg (hl : ns.length ≤ 1000) (i : Int) (hi : i < 0 ∨ (ns.length : Int) ≤ i) :
    Calls Tryz.prog 115 #[ptr p, .int .i64 i] w fun e w' => e = .returned (err 1) ∧ Below w.heap.size w w' := by
  go_enter Tryz.func115, Tryz.ntmps115
  go_wp2_with fail
  refine (is_no w S p vN ns vF ms adds h i hi hl).mono ?_
  rintro e w' ⟨rfl, rfl⟩
  go_wp2_with fail
  go_ret
  exact ⟨rfl, Below.refl _ _⟩
set_option maxHeartbeats 1000000 in
theorem collect_arg (hl : ns.length ≤ 1000) (i : Int) (hi : i < 0 ∨ (ns.length : Int) ≤ i) :
    Calls Tryz.prog 114 #[ptr p, .int .i64 i] w fun e w' => e = .returned (err 1) ∧ Below w.heap.size w w' := by
  go_enter Tryz.func114, Tryz.ntmps114
  go_wp2_with fail
  refine (is_no w S p vN ns vF ms adds h i hi hl).mono ?_
  rintro e w' ⟨rfl, rfl⟩
  go_wp2_with fail
  go_ret
  exact ⟨rfl, Below.refl _ _⟩

set_option maxHeartbeats 1000000 in
set_option maxRecDepth 100000 in
theorem crash_ok (hl : ns.length ≤ 1000) (i : Nat) (d : NS) (hd : ns[i]? = some d) :
    Calls Tryz.prog 115 #[ptr p, .int .i64 i] w fun e w' => e = .returned (err 0) ∧ (∃ ns', RefR w' (Ext S w w') p vN ns' vF ms adds ∧ ns'.map NS.m = (ns.map NS.m).set i { d.m with kept := [], acked := List.replicate ns.length 0 }) ∧ Kp w.heap.size S w w' := by
  have hi : i < ns.length := (List.getElem?_eq_some_iff.1 hd).1
  obtain ⟨g, c, rfl, hSg, hg, hgp, hcell, hfz⟩ := h.at hd
  have hnd := h.node d (List.mem_of_getElem? hd)
  have f3 := hfz (i * 6 + 3)
  have f4 := hfz (i * 6 + 4)
  have c3 := hcell 3 (by decide)
  have c4 := hcell 4 (by decide)
  simp only [nsC, List.getElem?_cons_zero, List.getElem?_cons_succ] at c3 c4
  obtain ⟨e1, _⟩ := row_facts h.self
  have hplt : p < w.heap.size := lt_of_heap h.self
  have cp := e1 0
  simp only [List.getElem?_cons_zero, List.getElem?_toArray] at cp
  clear hcell hfz e1
  have h1 := h.setRow (d' := { d with vKept := .slice none 0 0, kept := [] }) (j := 3) (u := .slice none 0 0) hd hgp (by decide) rfl ⟨hnd.pc, World.ownsRow_nil _ _ _ _, by intro b hb; simp [Value.ownBlock] at hb, by simp, hnd.acked, hnd.sAcked⟩ (fun _ _ _ _ _ hb _ => by simp [Value.ownBlock] at hb) (fun k x b hk hx ha hb => hk (h.disA _ _ _ _ _ hx hd hb ha))
  have kp1 : Kp w.heap.size S w (w.setCell ⟨g, i * 6 + 3, none⟩ (.slice none 0 0)) := (Kp.refl _ _ _).setCell (p := ⟨g, i * 6 + 3, none⟩) (Or.inr hSg) _
  obtain ⟨W1, hW1⟩ : ∃ W1, w.setCell ⟨g, i * 6 + 3, none⟩ (.slice none 0 0) = W1 := ⟨_, rfl⟩
  rw [hW1] at h1 kp1
  have hs1 : W1.heap.size = w.heap.size := by rw [← hW1]; simp [World.setCell]
  obtain ⟨q1, _⟩ := row_facts h1.self
  have cp1 := q1 0
  simp only [List.getElem?_cons_zero, List.getElem?_toArray] at cp1
  have hl1 : (ns.set i { d with vKept := .slice none 0 0, kept := [] }).length = ns.length := List.length_set
  have hd1 : (ns.set i { d with vKept := .slice none 0 0, kept := [] })[i]? = some { d with vKept := .slice none 0 0, kept := [] } := set_get hd
  have h1' := h1
  rw [← hl1] at h1'
  obtain ⟨g2, c2, e2, _, _, _, hcell1, hfz1⟩ := h1'.at hd1
  simp only [Value.slice.injEq, Option.some.injEq, Addr.mk.injEq, and_true] at e2
  obtain ⟨e2, _, _⟩ := e2
  subst e2
  have f4' := hfz1 (i * 6 + 4)
  have c4' := hcell1 4 (by decide)
  simp only [nsC, List.getElem?_cons_zero, List.getElem?_cons_succ] at c4'
  have H1 := hide h1
  have K1 := hide kp1
  have HS1 := hide hs1
  have hp1 : p < W1.heap.size := by omega
  have hg1 : g < W1.heap.size := by omega
  have s1 : ∀ b, ¬ NoS b := fun b h => h
  clear q1 hfz1 hcell1 h1' h1 kp1 hs1 hl1 hd1
  go_enter Tryz.func115, Tryz.ntmps115
  go_wp2_with fail
  refine (is_yes w S p _ ns vF ms adds h i hi hl).mono ?_
  rintro e w' ⟨rfl, rfl⟩
  go_wp2_with fail
  clear hW1
  have hG := GrS.cell W1 NoS
  have hGn := GrS.some W1 NoS
  obtain ⟨ii, hi0, hi1, hi2, hi3⟩ := info_parts (P := Tryz.prog) (e := 3) (z := .int .i64 0) (size := 1) (bytes := 8) (by kernel_rfl)
  have Hi0 := hide hi0
  have Hi1 := hide hi1
  have Hi2 := hide hi2
  have Hi3 := hide hi3
  clear hi0 hi1 hi2 hi3
  refine wp_region_flt [0, 1, 2, 3, 4, 5, 6, 7, 8, 9] [10, 11, 12, 13] (fun w' => ∃ x : GrS W1 NoS, w' = x.w) (by kernel_rfl) (by kernel_rfl) (fun _ _ d _ _ h => by cases d <;> exact h) ⟨⟨W1.drew, (Kp.refl _ _ _).drew⟩, rfl⟩ ?_
  simp only [pickOps, List.getElem?_cons_zero, List.getElem?_cons_succ]
  repeat (go_big_quiet_step (fail))
  refine wpQuiet_nil ?_
  refine ⟨_, rfl, ?_⟩
  refine wpList_make_full W1.drew (by rfl) _ _ 44 (by rfl) 0 3 ii (.int .i64 0) 1 Tryz.underlying44 Hi0.out Hi1.out Hi2.out .i64 .i64 (ns.length : Int) (ns.length : Int) ns.length (by rfl) (by rfl) rfl rfl (by rw [Hi3.out]; omega) (by simp only [maxLen]; omega) (Nat.zero_le _) ?_
  intro wm hownm hgrm
  have hbm : Below W1.heap.size W1 wm := ⟨hgrm.os, hgrm.tape, hgrm.output, hgrm.size, fun b hb => hgrm.block b hb (by simp)⟩
  have hA : wm.ownsRow 0 3 1 (.slice (some ⟨W1.heap.size, 0, none⟩) ns.length ns.length) ns.length (intC (List.replicate ns.length 0)) := by
    have := hownm
    simp only [Value.cells, Nat.mul_one, toList_madeCells_one] at this
    simpa [intC] using this
  have cpm := (hbm.cell (p := ⟨p, 0, none⟩) hp1).trans cp1
  have fm : wm.frozen? ⟨g, i * 6 + 4, none⟩ = false := (World.frozen?_of_block (w := W1) (hbm.block g hg1)).trans f4'
  have cm := (hbm.cell (p := ⟨g, i * 6 + 4, none⟩) hg1).trans c4'
  have HBM := hide hbm
  have HA := hide hA
  clear hownm hgrm hbm hA hG hGn cp1 f4' c4'
  go_wp2_with fail
  refine ⟨fun _ => ⟨⟨wm, Kp.ofBelow HBM.out⟩, rfl⟩, _, rfl, ?_⟩
  go_wp2_with fail
  refine ⟨fun _ => ⟨⟨wm, Kp.ofBelow HBM.out⟩, rfl⟩, _, rfl, ?_⟩
  go_wp2_with fail
  refine ⟨fun _ => ⟨⟨wm, Kp.ofBelow HBM.out⟩, rfl⟩, _, rfl, ?_⟩
  go_wp2_with fail
  refine ⟨fun h => absurd rfl h, ?_⟩
  unfold wpFin
  go_wp2_with fail
  have hdx : (ns.set i { d with vKept := .slice none 0 0, kept := [] })[i]? = some { d with vKept := .slice none 0 0, kept := [] } := set_get hd
  have hlx : (ns.set i { d with vKept := .slice none 0 0, kept := [] }).length = ns.length := List.length_set
  have hs1 := HS1.out
  have hRm := (H1.out.below HBM.out).ext (w' := w) h.lt (by have := HBM.out.size; omega)
  rw [← hlx] at hRm
  have ndx := hRm.node _ (List.mem_of_getElem? hdx)
  have fin := hRm.setRow (d' := { d with vKept := .slice none 0 0, kept := [], vAcked := .slice (some ⟨W1.heap.size, 0, none⟩) ns.length ns.length, acked := List.replicate ns.length 0 }) (j := 4) (u := .slice (some ⟨W1.heap.size, 0, none⟩) ns.length ns.length) hdx hgp (by decide) rfl ⟨ndx.pc, ndx.kept, ndx.sKept, ndx.keptP, by simpa using HA.out, by
      intro b hb
      simp only [Value.ownBlock, Option.some.injEq] at hb
      subst hb
      exact Or.inr ⟨by omega, (HA.out.lt _ rfl).2⟩⟩ (fun _ _ _ _ _ hb _ => by simp [Value.ownBlock] at hb) (fun k x b hk hx ha hb => by
      simp only [Value.ownBlock, Option.some.injEq] at ha
      subst ha
      have := ((H1.out.node x (List.mem_of_getElem? hx)).acked.lt _ hb).2
      omega)
  rw [List.set_set, hlx] at fin
  have kpf : Kp w.heap.size S w (wm.setCell ⟨g, i * 6 + 4, none⟩ (.slice (some ⟨W1.heap.size, 0, none⟩) ns.length ns.length)) := (K1.out.trans ((Kp.ofBelow (S := S) HBM.out).mono (by omega) fun _ _ x => x)).setCell (p := ⟨g, i * 6 + 4, none⟩) (Or.inr hSg) _
  have hsz : (wm.setCell ⟨g, i * 6 + 4, none⟩ (.slice (some ⟨W1.heap.size, 0, none⟩) ns.length ns.length)).heap.size = wm.heap.size := by simp [World.setCell]
  have fin2 := fin.mono (S' := Ext S w (wm.setCell ⟨g, i * 6 + 4, none⟩ (.slice (some ⟨W1.heap.size, 0, none⟩) ns.length ns.length))) (fun b hb => by
    rcases hb with x | x
    · exact Or.inl x
    · exact Or.inr ⟨x.1, by rw [hsz]; exact x.2⟩) (fun b hb => by
    rcases hb with x | x
    · exact fin.lt b (Or.inl x)
    · exact x.2)
  go_ret
  refine ⟨rfl, ⟨_, fin2, ?_⟩, kpf⟩
  rw [List.map_set]
  rfl
end
end Go.Proofs.YtnniimfinakioaaGreatDoor
namespace Go.Proofs.YtnniimfinakioaaGreatDoor
open Go.RowKit
attribute [local go_sem ↓] eqTok eqEnt
attribute [local go_sem] toList_nm app_nm size_nm

/-- Is a piece still needed, as far as the nodes up to j tell? -/
def needTo (i : Nat) (acked : List Nat) (n j : Nat) : Bool := (List.range j).any fun k => decide (k ≠ i) && decide (acked.getD k 0 ≤ n)
theorem needTo_succ (i : Nat) (acked : List Nat) (n j : Nat) : needTo i acked n (j + 1) = (needTo i acked n j || (decide (j ≠ i) && decide (acked.getD j 0 ≤ n))) := by
  simp [needTo, List.range_succ, List.any_append]
def leftTo (i : Nat) (N : Nat) (d : NS) (k : Nat) : List KS := (d.kept.take k).filter fun x => needTo i d.acked x.n N
theorem leftTo_succ {i N k : Nat} {d : NS} {x : KS} (h : d.kept[k]? = some x) : leftTo i N d (k + 1) = leftTo i N d k ++ (if needTo i d.acked x.n N then [x] else []) := by
  unfold leftTo
  rw [take_snoc' h, List.filter_append]
  congr 1
  simp only [List.filter_cons, List.filter_nil]
theorem ksC_one (m : KS) (hL : m.vL.oneCell' = true) (hK : m.vK.oneCell' = true) : ∀ u ∈ ksC m, u.oneCell' = true := by
  intro u hu
  simp only [ksC, List.mem_cons, List.not_mem_nil, or_false] at hu
  rcases hu with rfl | rfl | rfl <;> first | rfl | assumption

section
variable (w : World) (S : Nat → Prop) (p : Nat) (vN : Value) (ns : List NS) (vF : Value) (ms : List MS) (adds : Nat) (h : RefR w S p vN ns vF ms adds)
include h

set_option maxHeartbeats 2000000 in
set_option maxRecDepth 100000 in
theorem collect_ok (hl : ns.length ≤ 1000) (i : Nat) (d : NS) (hd : ns[i]? = some d) (hk : d.kept.length ≤ 1000000) (hac : d.acked.length = ns.length) :
    Calls Tryz.prog 114 #[ptr p, .int .i64 i] w fun e w' => e = .returned (err 0) ∧ (∃ ns', RefR w' (Ext S w w') p vN ns' vF ms adds ∧ ns'.map NS.m = (ns.map NS.m).set i { d.m with kept := d.m.kept.filter fun x => needTo i d.acked x.1 ns.length }) ∧ Kp w.heap.size S w w' := by
  have hi : i < ns.length := (List.getElem?_eq_some_iff.1 hd).1
  obtain ⟨g, c, rfl, hSg, hg, hgp, hcell, hfz⟩ := h.at hd
  have hnd := h.node d (List.mem_of_getElem? hd)
  have f3 := hfz (i * 6 + 3)
  have c3 := hcell 3 (by decide)
  have c4 := hcell 4 (by decide)
  simp only [nsC, List.getElem?_cons_zero, List.getElem?_cons_succ] at c3 c4
  obtain ⟨oKe, cKe, hKe, _, _⟩ := own_form hnd.kept
  obtain ⟨oA, cA, hA, _, _⟩ := own_form hnd.acked
  rw [hKe] at c3
  rw [hA] at c4
  have hkrow : w.ownsRow 0 196 3 (.slice oKe d.kept.length cKe) d.kept.length (d.kept.flatMap ksC) := hKe ▸ hnd.kept
  have harow : w.ownsRow 0 3 1 (.slice oA d.acked.length cA) d.acked.length (intC d.acked) := hA ▸ hnd.acked
  rw [hac] at c4 harow
  obtain ⟨e1, _⟩ := row_facts h.self
  have hplt : p < w.heap.size := lt_of_heap h.self
  have cp := e1 0
  simp only [List.getElem?_cons_zero, List.getElem?_toArray] at cp
  have hone : ∀ m ∈ d.kept, ∀ u ∈ ksC m, u.oneCell' = true := fun m hm => ksC_one m (hnd.keptP m hm).one.1 (hnd.keptP m hm).one.2
  have HND := hide hnd
  have HAC := hide hac
  clear hcell hfz e1 hnd hac hA hKe
  go_enter Tryz.func114, Tryz.ntmps114
  go_wp2_with fail
  refine (is_yes w S p _ ns vF ms adds h i hi hl).mono ?_
  rintro e w' ⟨rfl, rfl⟩
  go_wp2_with fail
  go_loopw [7, 8] (fun r j wr => ∃ (k : Nat) (v : Value), k ≤ d.kept.length ∧ j = .int .i64 k ∧ r = v ∧ wr.ownsRow 0 196 3 v (leftTo i ns.length d k).length ((leftTo i ns.length d k).flatMap ksC) ∧ (∀ g, v.ownBlock = some g → w.heap.size ≤ g) ∧ Below w.heap.size w wr) (fun _ j _ => d.kept.length - (intOf j).toNat)
  case atStart => exact ⟨0, _, Nat.zero_le _, rfl, rfl, World.ownsRow_nil _ _ _ _, by simp [Value.ownBlock], Below.refl _ _⟩
  case round =>
    obtain ⟨k, v, hkl, rfl, rfl, hrow, hnew, hbel⟩ := hrel
    have hRl : (leftTo i ns.length d k).length ≤ k := by
      unfold leftTo
      exact Nat.le_trans (List.length_filter_le _ _) (by rw [List.length_take]; omega)
    generalize hR : leftTo i ns.length d k = R at *
    have HR := hide hR
    clear hR
    obtain ⟨o, c', rfl, _, _⟩ := own_form hrow
    have x0 := (hbel.cell (p := ⟨p, 0, none⟩) hplt).trans cp
    have x3 := (hbel.cell (p := ⟨g, i * 6 + 3, none⟩) hg).trans c3
    have x4 := (hbel.cell (p := ⟨g, i * 6 + 4, none⟩) hg).trans c4
    have HRow := hide hrow
    have HBel := hide hbel
    clear hrow hbel
    by_cases hlt : k < d.kept.length
    · obtain ⟨x, hx⟩ := get_some hlt
      obtain ⟨gK, rfl, hgK, k1, k2, k3⟩ := kept_at3 hkrow hx
      have y1 := (HBel.out.cell (p := ⟨gK, k * 3, none⟩) hgK).trans k1
      have y2 := (HBel.out.cell (p := ⟨gK, k * 3 + 1, none⟩) hgK).trans k2
      have y3 := (HBel.out.cell (p := ⟨gK, k * 3 + 2, none⟩) hgK).trans k3
      have hlt' : decide ((k : Int) < (d.kept.length : Int)) = true := by simp; omega
      have HX := hide hx
      clear k1 k2 k3 hx
      go_wp2_with fail
      go_loopw [9, 10] (fun b j wq => ∃ (t : Nat), t ≤ ns.length ∧ j = .int .i64 t ∧ b = .bool (needTo i d.acked x.n t) ∧ ∃ z, wq = wr.drewN z) (fun _ j _ => ns.length - (intOf j).toNat)
      case atStart => exact ⟨0, Nat.zero_le _, rfl, rfl, 0, rfl⟩
      case round =>
        obtain ⟨t, ht, rfl, rfl, z, rfl⟩ := hrel
        have hsu := needTo_succ i d.acked x.n t
        by_cases htl : t < ns.length
        · have htl' : decide ((t : Int) < (ns.length : Int)) = true := by simp; omega
          obtain ⟨a, ha⟩ := get_some (l := d.acked) (k := t) (by rw [HAC.out]; exact htl)
          have hau : (intC d.acked)[t]? = some (.int .i64 a) := by simp [intC, ha]
          obtain ⟨gA, rfl, hgA, ca, _⟩ := own1_at harow hau
          have ya := (HBel.out.cell (p := ⟨gA, t, none⟩) hgA).trans ca
          have hga : d.acked.getD t 0 = a := by simp [List.getD, ha]
          rw [hga] at hsu
          cases hnb : needTo i d.acked x.n t with
          | true =>
            rw [hnb, Bool.true_or] at hsu
            have HSU := hide hsu
            clear hsu hnb ca hau ha hga
            go_wp2_with fail
            go_quiet (fail)
            go_wp2_with fail
            go_roundw
            case rel => exact ⟨t + 1, by omega, by go_num, by rw [HSU.out], _, rfl⟩
            case measure => simp [intOf]; omega
          | false =>
            rw [hnb, Bool.false_or] at hsu
            by_cases hti : t = i
            · have hti' : ((t : Int) != (i : Int)) = false := by simp [hti]
              have hsu2 : needTo i d.acked x.n (t + 1) = false := by rw [hsu]; simp [hti]
              have HSU := hide hsu2
              have HTI := hide hti
              clear hsu hsu2 hnb ca hau ha hga hti
              go_wp2_with fail
              go_quiet (fail)
              go_wp2_with fail
              go_roundw
              case rel => exact ⟨t + 1, by omega, by go_num, by rw [HSU.out], _, rfl⟩
              case measure => simp [intOf]; omega
            · have hti' : ((t : Int) != (i : Int)) = true := by
                rw [bne_iff_ne]
                omega
              have hti2 : decide (t ≠ i) = true := by simpa using hti
              rw [hti2, Bool.true_and] at hsu
              have HSU := hide hsu
              have HTI := hide hti
              clear hsu hnb ca hau ha hga hti hti2
              go_wp2_with fail
              go_quiet (fail)
              go_wp2_with fail
              go_roundw
              case rel => exact ⟨t + 1, by omega, by go_num, by rw [HSU.out], _, rfl⟩
              case measure => simp [intOf]; omega
        · have htN : t = ns.length := by omega
          subst htN
          have htl' : decide ((ns.length : Int) < (ns.length : Int)) = false := by simp
          clear hsu
          have hls := leftTo_succ (i := i) (N := ns.length) HX.out
          rw [HR.out] at hls
          have hbz : Below w.heap.size w (wr.drewN z) := ⟨HBel.out.os, HBel.out.tape, HBel.out.output, HBel.out.size, HBel.out.block⟩
          have hrz : (wr.drewN z).ownsRow 0 196 3 (.slice o R.length c') R.length (R.flatMap ksC) := HRow.out
          cases hnb : needTo i d.acked x.n ns.length with
          | false =>
            rw [hnb] at hls
            simp only [Bool.false_eq_true, if_false, List.append_nil] at hls
            have HLS := hide hls
            have HBZ := hide hbz
            have HRZ := hide hrz
            clear hls hbz hrz hnb
            go_wp2_with fail
            go_roundw
            case rel => exact ⟨k + 1, _, by omega, by go_num, rfl, by rw [HLS.out]; exact HRZ.out, hnew, HBZ.out⟩
            case measure => simp [intOf]; omega
          | true =>
            rw [hnb] at hls
            simp only [if_true] at hls
            have HLS := hide hls
            have HBZ := hide hbz
            have HRZ := hide hrz
            have hxo := hone x (List.mem_of_getElem? HX.out)
            have hpx := HND.out.keptP x (List.mem_of_getElem? HX.out)
            obtain ⟨oxL, cxL, exL, _, _⟩ := hpx.L.form
            obtain ⟨oxK, cxK, exK, _, _⟩ := hpx.K.form
            have HXO := hide hxo
            rw [exL] at y2
            rw [exK] at y3
            clear hls hbz hrz hnb hxo hpx
            go_wp2_with (first | (at_builtin; refine wpList_app (t := 166) _ eNews (by rfl) _ _ (by rfl) (.slice o R.length c') R.length (R.flatMap ksC) (by rfl) ?own _ 1 (ksC x) (by rfl) ?src ?h63 ?hby ?next))
            case own => exact HRZ.out.alloc _
            case src =>
              refine ⟨rfl, HXO.out, Or.inr ⟨_, _, rfl, ?_⟩⟩
              have e : ksC x = [.int .i64 (x.n : Int), .slice oxL x.p.L.length cxL, .slice oxK x.p.K.length cxK] := by rw [← exL, ← exK]; rfl
              rw [e]
              exact World.news_of_block (cs := #[.int .i64 (x.n : Int), .slice oxL x.p.L.length cxL, .slice oxK x.p.K.length cxK]) (heap_alloc_new _ _)
            case h63 => simp only [maxLen]; omega
            case hby => omega
            case next =>
              intro v1 w1 hown1 hgr1 hat1
              have hs := HBel.out.size
              have hv1 := at_ge (N := w.heap.size) hat1 hnew (by first | omega | (simp; omega) | (show w.heap.size ≤ wr.heap.size + 1; omega))
              have hb1 := (HBZ.out.alloc HBZ.out.size _).grown hgr1 (by first | omega | (simp; omega)) hnew
              have hown1' : w1.ownsRow 0 196 3 v1 (R ++ [x]).length ((R ++ [x]).flatMap ksC) := by
                rw [List.length_append, List.flatMap_append]
                simpa using hown1
              have HO := hide hown1'
              have HB1 := hide hb1
              clear hown1 hown1' hb1 hgr1
              go_wp2_with fail
              go_roundw
              case rel => exact ⟨k + 1, v1, by omega, by go_num, rfl, by rw [HLS.out]; exact HO.out, hv1, HB1.out⟩
              case measure => simp [intOf]; omega
    · have hkK : k = d.kept.length := by omega
      subst hkK
      have hlt' : decide ((d.kept.length : Int) < (d.kept.length : Int)) = false := by simp
      have hfz : wr.frozen? ⟨g, i * 6 + 3, none⟩ = false := (World.frozen?_of_block (w := w) (HBel.out.block g hg)).trans f3
      have hRall : R = d.kept.filter fun x => needTo i d.acked x.n ns.length := by
        rw [← HR.out, leftTo, List.take_of_length_le (Nat.le_refl _)]
      have hsub : ∀ x ∈ R, x ∈ d.kept := fun x hx => by rw [hRall] at hx; exact (List.mem_filter.1 hx).1
      have HRA := hide hRall
      have HSub := hide hsub
      clear hRall hsub
      go_wp2_with fail
      have hs := HBel.out.size
      have hRm := (h.below HBel.out).ext (w' := w) h.lt hs
      have hdx : ns[i]? = some d := hd
      have ndx := hRm.node _ (List.mem_of_getElem? hdx)
      have fin := hRm.setRow (d' := { d with vKept := .slice o R.length c', kept := R }) (j := 3) (u := .slice o R.length c') hdx hgp (by decide) rfl ⟨ndx.pc, HRow.out, fun b hb => Or.inr ⟨hnew b hb, (HRow.out.lt b hb).2⟩, fun x hx => ndx.keptP x (HSub.out x hx), ndx.acked, ndx.sAcked⟩ (fun k x b hk hx ha hb => by
          have h1 := hnew b ha
          have h2 := h.lt b ((h.node x (List.mem_of_getElem? hx)).sKept b hb)
          omega) (fun k x b hk hx ha hb => hk (h.disA _ _ _ _ _ hx hdx hb ha))
      have kpf : Kp w.heap.size S w (wr.setCell ⟨g, i * 6 + 3, none⟩ (.slice o R.length c')) := (Kp.ofBelow HBel.out).setCell (p := ⟨g, i * 6 + 3, none⟩) (Or.inr hSg) _
      have hsz : (wr.setCell ⟨g, i * 6 + 3, none⟩ (.slice o R.length c')).heap.size = wr.heap.size := by simp [World.setCell]
      have fin2 := fin.mono (S' := Ext S w (wr.setCell ⟨g, i * 6 + 3, none⟩ (.slice o R.length c'))) (fun b hb => by
        rcases hb with x | x
        · exact Or.inl x
        · exact Or.inr ⟨x.1, by rw [hsz]; exact x.2⟩) (fun b hb => by
        rcases hb with x | x
        · exact fin.lt b (Or.inl x)
        · exact x.2)
      go_ret
      refine ⟨rfl, ⟨_, fin2, ?_⟩, kpf⟩
      rw [List.map_set]
      congr 1
      simp only [NS.m]
      congr 1
      rw [HRA.out, List.filter_map]
      rfl
end
end Go.Proofs.YtnniimfinakioaaGreatDoor
namespace Go.Proofs.YtnniimfinakioaaGreatDoor
open Go.RowKit


theorem ref_crash (w : World) (S : Nat → Prop) (p : Nat) (W : Wd) (i : Int) (h : RefW w S p W) (ok : WG W) :
    Calls Tryz.prog 115 #[ptr p, .int .i64 i] w fun e w' => e = .returned (err (crashM W i).1) ∧ RefW w' (Ext S w w') p (crashM W i).2 ∧ Kp w.heap.size S w w' := by
  obtain ⟨HH, ok⟩ := ok
  obtain ⟨vN, ns, vF, ms, hr, hm, hf⟩ := h
  have hlen : ns.length = W.nodes.length := by rw [← hm, List.length_map]
  have hl : ns.length ≤ 1000 := by have := ok.five; omega
  have H : RefW w S p W := ⟨vN, ns, vF, ms, hr, hm, hf⟩
  unfold crashM
  cases hn : nodeAt W i with
  | none =>
    refine (crash_arg w S p vN ns vF ms W.adds hr hl i (by rw [hlen]; exact nodeAt_none hn)).mono ?_
    rintro e w' ⟨rfl, hb⟩
    exact ⟨rfl, H.grew hb⟩
  | some d =>
    obtain ⟨k, rfl, hk⟩ := nodeAt_some hn
    obtain ⟨x, hx, rfl⟩ := node_of hr hm hk
    refine (crash_ok w S p vN ns vF ms W.adds hr hl k x hx).mono ?_
    rintro e w' ⟨rfl, ⟨ns', hR, hns⟩, hK⟩
    refine ⟨rfl, ⟨vN, ns', vF, ms, hR, ?_, hf⟩, hK⟩
    rw [hns, hm, hlen]
    rfl
theorem ref_collect (w : World) (S : Nat → Prop) (p : Nat) (W : Wd) (i : Int) (h : RefW w S p W) (ok : WG W) :
    Calls Tryz.prog 114 #[ptr p, .int .i64 i] w fun e w' => e = .returned (err (collectM W i).1) ∧ RefW w' (Ext S w w') p (collectM W i).2 ∧ Kp w.heap.size S w w' := by
  obtain ⟨HH, ok⟩ := ok
  obtain ⟨vN, ns, vF, ms, hr, hm, hf⟩ := h
  have hlen : ns.length = W.nodes.length := by rw [← hm, List.length_map]
  have hl : ns.length ≤ 1000 := by have := ok.five; omega
  have H : RefW w S p W := ⟨vN, ns, vF, ms, hr, hm, hf⟩
  unfold collectM
  cases hn : nodeAt W i with
  | none =>
    refine (collect_arg w S p vN ns vF ms W.adds hr hl i (by rw [hlen]; exact nodeAt_none hn)).mono ?_
    rintro e w' ⟨rfl, hb⟩
    exact ⟨rfl, H.grew hb⟩
  | some d =>
    obtain ⟨k, rfl, hk⟩ := nodeAt_some hn
    obtain ⟨x, hx, rfl⟩ := node_of hr hm hk
    have hi : k < ns.length := (List.getElem?_eq_some_iff.1 hx).1
    have no := ok.node k _ hk
    have hsm : SmallP x.p := ok.small no.pc
    have hct : x.count ≤ 60 := ok.count hk
    have hL30 : x.p.L.length ≤ 30 := ok.llen no.pc
    have hmd : x.made ≤ 30 := ok.made hk
    have hke := no.kept
    simp only [NS.m, List.length_map] at hke
    have hac : x.acked.length = ns.length := by rw [hlen]; exact no.acked
    refine (collect_ok w S p vN ns vF ms W.adds hr hl k x hx (by omega) hac).mono ?_
    rintro e w' ⟨rfl, ⟨ns', hR, hns⟩, hK⟩
    refine ⟨rfl, ⟨vN, ns', vF, ms, hR, ?_, hf⟩, hK⟩
    rw [hns, hm, hlen]
    rfl

theorem refOpsG : OpsG 71 107 108 109 97 100 101
    110 105 111 112 113 114 115 116 True RefW where
  lt := RefW.lt
  kp := RefW.kp
  newNo n w h := (new_arg n w h).mono fun _ _ ⟨he, hw⟩ => ⟨he, hw ▸ Below.refl _ _⟩
  newYes n w h1 h5 := (new_ok n w h1 h5).mono fun _ _ ⟨he, hR, hb⟩ => ⟨_, he, hR, hb⟩
  add := ref_add
  remove := ref_remove
  clear := ref_clear
  items := ref_items
  text := ref_text
  status := ref_status
  send := ref_send
  flying := ref_flying
  deliver := ref_deliver
  drop := ref_drop
  double := ref_double
  collect _ := ref_collect
  crash _ := ref_crash
  round _ := ref_round
end Go.Proofs.YtnniimfinakioaaGreatDoor
