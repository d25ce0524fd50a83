import Derived.Shelf.Slices.Clone
import Derived.Test.YtnniimfinakioaaGreatDoorYg
import Derived.Test.YtnniimfinakioaaGreatDoorSh
namespace Go.Proofs.YtnniimfinakioaaGreatDoor
open Go.RowKit
attribute [local go_sem] toList_nm app_nm size_nm


set_option maxHeartbeats 2000000 in
set_option maxRecDepth 100000 in
theorem pAdd (w : World) (S : Nat → Prop) (p : Nat) (W : Wd) (i : Int) (s : Nm) (h : ProgW w S p W) (ok : WG W) (hs : s.length ≤ 2000000) :
    Calls Tryz.prog 27 #[ptr p, .int .i64 i, strV s] w fun e w' => e = .returned (err (addM W i s).1) ∧ ProgW w' (Ext S w w') p (addM W i s).2 ∧ Kp w.heap.size S w w' := by
  obtain ⟨HH, ok⟩ := ok
  obtain ⟨vN, ns, vF, fs, hr, hm, hf⟩ := h
  have hlen : ns.length = W.nodes.length := by rw [← hm, List.length_map]
  have hl : ns.length ≤ 1000 := by have := ok.five; omega
  have H : ProgW w S p W := ⟨vN, ns, vF, fs, hr, hm, hf⟩
  cases hn : nodeAt W i with
  | none =>
    have e0 : addM W i s = (1, W) := by unfold addM; rw [hn]
    rw [e0]
    go_enter Tryz.func27, Tryz.ntmps27
    go_wp2_with fail
    refine (at_no w S p _ ns vF fs hr _ (by rw [hlen]; exact nodeAt_none hn) hl).mono ?_
    rintro e w' ⟨rfl, rfl⟩
    go_wp2_with fail
    go_ret
    exact ⟨rfl, H.same⟩
  | some d =>
    obtain ⟨k, rfl, hk⟩ := nodeAt_some hn
    obtain ⟨x, hx, rfl⟩ := pn_of hm hk
    have hkl : k < ns.length := (List.getElem?_eq_some_iff.1 hx).1
    have nk := ok.node k x.m hk
    have hx5 : k < 100 := by have := ok.five; omega
    obtain ⟨g, c, rfl, hSg, hg, hgp, hcell, hfz⟩ := hr.at hx
    have hnd := hr.node x (List.mem_of_getElem? hx)
    have c0 := hcell 0 (by decide)
    have c1 := hcell 1 (by decide)
    simp only [pnC, List.getElem?_cons_zero, List.getElem?_cons_succ, Nat.add_zero] at c0 c1
    obtain ⟨m1, hm1⟩ : ∃ m, x.vE = .map m := ⟨_, hnd.pc.E.form⟩
    obtain ⟨m2, hm2⟩ : ∃ m, x.vK = .map m := ⟨_, hnd.pc.K.form⟩
    have sE := hnd.pc.E
    have sK := hnd.pc.K
    have lenL : x.p.L.length ≤ 60 := Nat.le_trans (ok.llen nk.pc) (by decide)
    have lenK : x.p.K.length ≤ 30 := ok.klen nk.pc
    have hcnt : x.count ≤ 60 := ok.count hk
    have hkpt : x.kept.length ≤ 60 := by have := nk.kept; have : x.m.kept.length = x.kept.length := List.length_map _; have : x.m.count = x.count := rfl; omega
    have soL : x.p.L.Pairwise fun a b => aheadB a b = true := nk.pc.sL
    have soK : x.p.K.Pairwise fun a b => beforeB a b = true := nk.pc.sK
    rw [hm1] at c0 sE
    rw [hm2] at c1 sK
    clear hcell
    have hNm := pIsName_any s w hs
    cases hb : nameB s with
    | false =>
      have e0 : addM W k s = (2, W) := by unfold addM; rw [hn]; simp [hb]
      rw [e0]
      rw [hb] at hNm
      go_enter Tryz.func27, Tryz.ntmps27
      go_wp2_with fail
      refine (at_yes w S p g c ns vF fs hr k hkl hl).mono ?_
      rintro e w' ⟨rfl, rfl⟩
      go_wp2_with fail
      refine hNm.mono ?_
      rintro e w' ⟨rfl, rfl⟩
      go_wp2_with fail
      go_ret
      exact ⟨rfl, H.same⟩
    | true =>
      rw [hb] at hNm
      have hcn := cntOk hm ok
      have hA := adds_any w S p _ ns vF fs hr hcn
      rw [sum_made hm ok] at hA
      have hadds := ok.adds
      by_cases hfull : 30 ≤ W.adds
      · have e0 : addM W k s = (4, W) := by unfold addM; rw [hn]; simp [hb, hfull]
        rw [e0]
        have hf' : (30 : Int) ≤ (W.adds : Int) := by omega
        go_enter Tryz.func27, Tryz.ntmps27
        go_wp2_with fail
        refine (at_yes w S p g c ns vF fs hr k hkl hl).mono ?_
        rintro e w' ⟨rfl, rfl⟩
        go_wp2_with fail
        refine hNm.mono ?_
        rintro e w' ⟨rfl, rfl⟩
        go_wp2_with fail
        refine hA.mono ?_
        rintro e w1 ⟨rfl, hb1⟩
        go_wp2_with fail
        go_ret
        exact ⟨rfl, H.grew hb1⟩
      · have e0 : addM W k s = (0, { W with nodes := W.nodes.set k (addN x.m k s), adds := W.adds + 1 }) := by unfold addM; rw [hn]; simp [hb, hfull]
        rw [e0]
        have hf' : decide ((30 : Int) ≤ (W.adds : Int)) = false := by simp; omega
        have hmade : x.made ≤ 30 := ok.made hk
        go_enter Tryz.func27, Tryz.ntmps27
        go_wp2_with fail
        refine (at_yes w S p g c ns vF fs hr k hkl hl).mono ?_
        rintro e w' ⟨rfl, rfl⟩
        go_wp2_with fail
        refine hNm.mono ?_
        rintro e w' ⟨rfl, rfl⟩
        go_wp2_with fail
        refine hA.mono ?_
        rintro e w1 ⟨rfl, hb1⟩
        have hA2 := addsAt_any w1 S p _ ns vF fs (hr.below hb1) hcn k x hx
        clear hA
        go_wp2_with fail
        refine hA2.mono ?_
        rintro e w2 ⟨rfl, hb2⟩
        have hbw2 : Below w.heap.size w w2 := hb1.trans (hb2.mono hb1.size)
        have hs2 := hbw2.size
        clear hA2 hNm
        go_wp2_with fail
        have q0 : ((w2.alloc (.cells #[.int .i64 k, .int .i64 ((x.made : Int) + 1)] 108)).alloc (.cells #[strV s, .int .i64 k, .int .i64 ((x.made : Int) + 1)] 110)).heap[w2.heap.size + 1]? = some (.cells #[strV s, .int .i64 k, .int .i64 ((x.made : Int) + 1)] 110) := new_at _ _ (by simp)
        have hb3 : Below w2.heap.size w2 ((w2.alloc (.cells #[.int .i64 k, .int .i64 ((x.made : Int) + 1)] 108)).alloc (.cells #[strV s, .int .i64 k, .int .i64 ((x.made : Int) + 1)] 110)) := below2 w2 _ _
        generalize (w2.alloc (.cells #[.int .i64 k, .int .i64 ((x.made : Int) + 1)] 108)).alloc (.cells #[strV s, .int .i64 k, .int .i64 ((x.made : Int) + 1)] 110) = w3 at *
        obtain ⟨e1, _⟩ := row_facts q0
        have d1 := e1 0
        have d2 := e1 1
        have d3 := e1 2
        simp only [List.getElem?_toArray, List.getElem?_cons_succ, List.getElem?_cons_zero] at d1 d2 d3
        have z1 := lt_of_heap q0
        have hbw3 : Below w.heap.size w w3 := hbw2.trans (hb3.mono hs2)
        have hs3 := hbw3.size
        have hg3 : g < w3.heap.size := by omega
        have c0' := (hbw3.cell (p := ⟨g, k * 5, none⟩) hg).trans c0
        have c1' := (hbw3.cell (p := ⟨g, k * 5 + 1, none⟩) hg).trans c1
        have hNd := named_set w3.drew (.map m1) (.map m2) x.p.L s (sE.below hbw3.drew) soL (by omega)
        have hnl := named_len s x.p.L
        have HBW := hide hbw3
        clear e1 q0 c0 c1 hb3 hbw2 hbw3 hb1 hb2
        have hG := Grw.cell w3
        have hGn := Grw.some w3
        refine wp_region_fltC [0, 1, 2, 3, 4, 5, 6] [7, 8, 9] (fun w' => ∃ x : Grw w3, w' = x.w) (by kernel_rfl) (by kernel_rfl) (fun _ _ d _ _ h => by cases d <;> exact h) ⟨⟨w3.drew, (Below.refl _ _).drew⟩, rfl⟩ ?_
        simp only [pickOps, List.getElem?_cons_zero, List.getElem?_cons_succ]
        repeat (go_big_quiet_step (fail))
        refine wpQuiet_nil ?_
        refine ⟨_, rfl, ?_⟩
        go_wp2_with fail
        refine hNd.mono ?_
        rintro e w4 ⟨r, rfl, hr4, hb4⟩
        have hb4' : Below w3.heap.size w3 w4 := ⟨hb4.os, hb4.tape, hb4.output, hb4.size, hb4.block⟩
        have hPt := putting_any w4 r (s, ((k : Int), (x.made : Int) + 1)) (named s x.p.L) (own_mono hr4 (Nat.zero_le _)) (by omega)
        clear hNd hG hGn hr4 hb4
        go_wp2_with fail
        refine ⟨fun _ => ⟨⟨w4, hb4'⟩, rfl⟩, _, rfl, ?_⟩
        go_wp2_with fail
        refine hPt.mono ?_
        rintro e w5 ⟨bK, bE, rfl, hbK, hbE, hKE, hME, hMK, hb5⟩
        have hb35 : Below w3.heap.size w3 w5 := hb4'.trans (hb5.mono hb4'.size)
        have hbw5 : Below w.heap.size w w5 := HBW.out.trans (hb35.mono hs3)
        have hs5 := hbw5.size
        have hs35 := hb35.size
        have hs45 := hb5.size
        have hs34 := hb4'.size
        have hR5 := (hr.below hbw5).ext (w' := w) hr.lt hs5
        have hq : PPieceR w5 (Ext S w w5) (.map (some bE)) (.map (some bK)) (addPc x.p.L k (x.made + 1) s) := by
          refine ⟨⟨[(s, ((k : Int), (x.made : Int) + 1))], ⟨by simp, Or.inr ⟨bE, rfl, hME⟩⟩, fun y => ?_⟩, ⟨_, ⟨ins_nodup (insAll_nodup (by simp)), Or.inr ⟨bK, rfl, hMK⟩⟩, fun y => ?_⟩, fun y hy => ?_, fun y hy => ?_⟩
          · simp [addPc]
          · show _ ↔ y ∈ learnL _ _
            rw [ins_mem, insAll_ofK, mem_learn]
            simp
          · simp [mapB] at hy; subst hy; exact Or.inr ⟨by omega, hME.lt⟩
          · simp [mapB] at hy; subst hy; exact Or.inr ⟨by omega, hMK.lt⟩
        have hI := takeIn_any w5 (Ext S w w5) p g c ns vF fs hR5 k x hx _ _ _ hq (by omega) (by omega) (x.made + 1)
        clear hPt
        go_wp2_with fail
        refine ⟨fun _ => ⟨⟨w5, hb35⟩, rfl⟩, _, rfl, ?_⟩
        go_wp2_with fail
        refine hI.mono ?_
        rintro e w6 ⟨rfl, ⟨vE', vK', vKept', hR⟩, hK⟩
        clear hI
        go_wp2_with fail
        refine ⟨fun h => absurd rfl h, ?_⟩
        unfold wpFin
        go_wp2_with fail
        go_ret
        refine ⟨rfl, ⟨_, _, _, _, hR.mono (fun b hx => Ext.trans hx hs5 hK.size) (fun b hx => ?_), ?_, hf⟩, hK.under (Kp.ofBelow hbw5)⟩
        · rcases hx with y | y
          · exact Nat.lt_of_lt_of_le (hr.lt b y) (Nat.le_trans hs5 hK.size)
          · exact y.2
        · rw [List.map_set, hm]
          simp [PN.m, addN, newsM, PK.m]
end Go.Proofs.YtnniimfinakioaaGreatDoor
namespace Go.Proofs.YtnniimfinakioaaGreatDoor
open Go.RowKit Go.Shelf
attribute [local go_sem] toList_nm app_nm size_nm


theorem clone_any (w : World) (v : Value) (l : List Nat) (h : w.ownsRow 0 3 1 v l.length (intC l)) (h1 : 1 ≤ l.length) (hl : l.length ≤ 1000) :
    Calls Tryz.prog 92 #[v] w fun e w' => ∃ g c, e = .returned (.slice (some ⟨g, 0, none⟩) l.length c) ∧ w.heap.size ≤ g ∧ w'.ownsRow 0 3 1 (.slice (some ⟨g, 0, none⟩) l.length c) l.length (intC l) ∧ Below w.heap.size w w' := by
  rcases h.2 with ⟨rfl, hz⟩ | ⟨g, cap, cur, rfl, hbase, hgb, r1, r2, r3, r4⟩
  · omega
  · refine (Any.slices_Clone_int Tryz.laysClone g 0 l.length cap (l.map fun (n : Nat) => (n : Int)) w (by simp) (by omega) (fun j hj => ?_)).mono ?_
    · have hj' : j < l.length := by simpa using hj
      have := own_cell h rfl (j := j) (u := .int .i64 ((l[j] : Nat) : Int)) (by simp [intC, hj'])
      rw [Nat.zero_add, this]
      simp [List.getD, hj']
    · rintro e w' ⟨v', rfl, hown, hne, hb⟩
      rcases hown.2 with ⟨rfl, _⟩ | ⟨g', cap', cur', rfl, hb', rest⟩
      · exact absurd rfl hne
      · refine ⟨g', cap', rfl, hb', ?_, hb⟩
        have := own_mono hown (Nat.zero_le _)
        rw [List.take_of_length_le (by simp)] at this
        rw [List.map_map] at this
        exact this

theorem ackL_set (cnt : Nat) (l : List Nat) (i : Nat) (hi : i < l.length) : (ackL cnt l i l.length).map (fun n => Value.int .i64 n) = (intC l).set i (.int .i64 cnt) := by
  apply List.ext_getElem?
  intro j
  rw [List.getElem?_set]
  unfold ackL intC
  by_cases hj : j < l.length
  · rw [List.getElem?_map, List.getElem?_map, List.getElem?_range hj]
    by_cases he : i = j
    · subst he
      simp [hj]
    · rw [if_neg he, List.getElem?_map, List.getElem?_eq_getElem hj]
      simp [show ¬ j = i from fun e => he e.symm, hj]
  · rw [List.getElem?_eq_none (by simp; omega)]
    by_cases he : i = j
    · subst he; omega
    · rw [if_neg he, List.getElem?_eq_none (by simp; omega)]
def tokZ (K : List Tok) (n j : Nat) : List Value := ((tokL K j).map fun n => Value.int .i64 n) ++ List.replicate (n - j) (.int .i64 0)
theorem tokZ_len (K : List Tok) (n j : Nat) (h : j ≤ n) : (tokZ K n j).length = n := by simp [tokZ, tokL]; omega
theorem tokZ_set (K : List Tok) (n j : Nat) (h : j < n) : (tokZ K n j).set j (.int .i64 (knownOf K j)) = tokZ K n (j + 1) := by
  unfold tokZ
  have hl : ((tokL K j).map fun n => Value.int .i64 n).length = j := by simp [tokL]
  rw [List.set_append_right _ _ (by omega), hl, Nat.sub_self, tokL_succ, List.map_append, show n - j = (n - (j + 1)) + 1 by omega, List.replicate_succ, List.set_cons_zero]
  simp

set_option maxHeartbeats 1000000 in
set_option maxRecDepth 100000 in
theorem ackedOf_any (w : World) (S : Nat → Prop) (p g c : Nat) (ns : List PN) (vF : Value) (fs : List PM) (h : ProgR w S p (.slice (some ⟨g, 0, none⟩) ns.length c) ns vF fs) (k : Nat) (x : PN) (hx : ns[k]? = some x) (n : Nat) (hn : x.acked.length = n) (hk : k < n) (h1000 : n ≤ 1000) :
    Calls Tryz.prog 64 #[ptr p, .int .i64 k] w fun e w' => ∃ gA cA, e = .returned (.slice (some ⟨gA, 0, none⟩) n cA) ∧ w.heap.size ≤ gA ∧ w'.ownsRow 0 3 1 (.slice (some ⟨gA, 0, none⟩) n cA) n ((ackL x.count x.acked k n).map fun n => .int .i64 n) ∧ Below w.heap.size w w' := by
  subst hn
  obtain ⟨g', c', hgc, hSg, hg, hgp, hcell, hfz⟩ := h.at hx
  simp only [Value.slice.injEq, Option.some.injEq, Addr.mk.injEq, and_true] at hgc
  obtain ⟨rfl, _, rfl⟩ := hgc
  have hnd := h.node x (List.mem_of_getElem? hx)
  have hilt : k < ns.length := (List.getElem?_eq_some_iff.1 hx).1
  obtain ⟨e1, _⟩ := row_facts h.self
  have cp := e1 0
  have c2 := hcell 2 (by decide)
  have c4 := hcell 4 (by decide)
  simp only [pnC, List.getElem?_cons_zero, List.getElem?_cons_succ, List.getElem?_toArray] at c2 c4 cp
  obtain ⟨oA, cA, hvA, _, _⟩ := own_form hnd.acked
  have hC := clone_any w x.vAcked x.acked hnd.acked (by omega) h1000
  rw [hvA] at c4 hC
  clear hcell e1 hfz hvA hnd
  go_enter Tryz.func64, Tryz.ntmps64
  go_wp2_with fail
  refine hC.mono ?_
  rintro e w2 ⟨gA, cAA, rfl, hgA, hAr, hb2⟩
  have b2 := (hb2.cell (p := ⟨g, k * 5 + 2, none⟩) hg).trans c2
  have hAset := own_set (j := k) (u := .int .i64 x.count) hAr rfl (by simp [intC]; omega)
  rw [← ackL_set x.count x.acked k (by omega)] at hAset
  obtain ⟨u, hu⟩ := get_some (l := intC x.acked) (k := k) (by simp [intC]; omega)
  obtain ⟨gA', hgA', hgAl, hcA, hfA⟩ := own1_at hAr hu
  simp only [Option.some.injEq, Addr.mk.injEq, and_true] at hgA'
  subst hgA'
  have HA := hide hAset
  have hbw3 : Below w.heap.size w (w2.setCell ⟨gA, k, none⟩ (.int .i64 x.count)) := hb2.setCell (p := ⟨gA, k, none⟩) hgA _
  have HB := hide hbw3
  clear hC hAr hu hAset hbw3 hb2
  go_wp2_with fail
  go_ret
  exact ⟨_, _, rfl, hgA, HA.out, HB.out⟩


set_option maxHeartbeats 2000000 in
set_option maxRecDepth 100000 in
theorem pStatus (w : World) (S : Nat → Prop) (p : Nat) (W : Wd) (i : Int) (h : ProgW w S p W) (ok : WG W) :
    Calls Tryz.prog 33 #[ptr p, .int .i64 i] w fun e w' => ∃ vK vA vT, e = .returned (.tuple #[.agg #[.int .i64 (statusM W i).count, vK, vA, vT], err (statusM W i).err]) ∧
      IntR w' vK (statusM W i).kept ∧ IntR w' vA (statusM W i).acked ∧ IntR w' vT (statusM W i).tokens ∧
      (∀ g, vK.ownBlock = some g → w.heap.size ≤ g) ∧ (∀ g, vA.ownBlock = some g → w.heap.size ≤ g) ∧ (∀ g, vT.ownBlock = some g → w.heap.size ≤ g) ∧
      (∀ g, vK.ownBlock = some g → vA.ownBlock = some g → False) ∧ (∀ g, vK.ownBlock = some g → vT.ownBlock = some g → False) ∧ (∀ g, vA.ownBlock = some g → vT.ownBlock = some g → False) ∧ Below w.heap.size w w' := by
  obtain ⟨HH, ok⟩ := ok
  obtain ⟨vN, ns, vF, fs, hr, hm, hf⟩ := h
  have hlen : ns.length = W.nodes.length := by rw [← hm, List.length_map]
  have hl : ns.length ≤ 1000 := by have := ok.five; omega
  have H : ProgW w S p W := ⟨vN, ns, vF, fs, hr, hm, hf⟩
  obtain ⟨W0, hW0⟩ : ∃ W0, w.alloc (.cells #[.int .i64 0, .slice none 0 0, .slice none 0 0, .slice none 0 0] 58) = W0 := ⟨_, rfl⟩
  have hb0 : Below w.heap.size w W0 := by rw [← hW0]; exact (Below.refl _ _).alloc (Nat.le_refl _) _
  have q0 : W0.heap[w.heap.size]? = some (.cells #[.int .i64 0, .slice none 0 0, .slice none 0 0, .slice none 0 0] 58) := by rw [← hW0]; exact heap_alloc_new w _
  have hs0 : W0.heap.size = w.heap.size + 1 := by rw [← hW0]; simp
  obtain ⟨e1, f1⟩ := row_facts q0
  have x0 := e1 0
  have x1 := e1 1
  have x2 := e1 2
  have x3 := e1 3
  have y0 := f1 0
  have y1 := f1 1
  have y2 := f1 2
  have y3 := f1 3
  simp only [List.getElem?_toArray, List.getElem?_cons_succ, List.getElem?_cons_zero] at x0 x1 x2 x3
  clear e1 f1
  cases hn : nodeAt W i with
  | none =>
    have e0 : statusM W i = ⟨1, 0, [], [], []⟩ := by unfold statusM; rw [hn]
    rw [e0]
    go_enter Tryz.func33, Tryz.ntmps33
    go_wp2_with fail
    refine (at_no W0 S p _ ns vF fs (hr.below hb0) _ (by rw [hlen]; exact nodeAt_none hn) hl).mono ?_
    rintro e w' ⟨rfl, rfl⟩
    go_wp2_with fail
    have hbS : Below w.heap.size w ((((W0.setCell ⟨w.heap.size, 0, none⟩ (.int .i64 0)).setCell ⟨w.heap.size, 1, none⟩ (.slice none 0 0)).setCell ⟨w.heap.size, 2, none⟩ (.slice none 0 0)).setCell ⟨w.heap.size, 3, none⟩ (.slice none 0 0)) :=
      (((hb0.setCell (p := ⟨w.heap.size, 0, none⟩) (Nat.le_refl _) _).setCell (p := ⟨w.heap.size, 1, none⟩) (Nat.le_refl _) _).setCell (p := ⟨w.heap.size, 2, none⟩) (Nat.le_refl _) _).setCell (p := ⟨w.heap.size, 3, none⟩) (Nat.le_refl _) _
    refine bodyPost_ret (v := .tuple #[.agg #[.int .i64 0, .slice none 0 0, .slice none 0 0, .slice none 0 0], err 1]) (by simp [results, Tryz.results33, go_sem, x0, x1, x2, x3]) rfl ⟨_, _, _, rfl, World.ownsRow_nil .., World.ownsRow_nil .., World.ownsRow_nil .., by simp [Value.ownBlock], by simp [Value.ownBlock], by simp [Value.ownBlock], by simp [Value.ownBlock], by simp [Value.ownBlock], by simp [Value.ownBlock], hbS⟩
  | some d =>
    obtain ⟨k, rfl, hk⟩ := nodeAt_some hn
    obtain ⟨x, hx, rfl⟩ := pn_of hm hk
    have hkl : k < ns.length := (List.getElem?_eq_some_iff.1 hx).1
    have nk := ok.node k x.m hk
    have hx5 : k < 100 := by have := ok.five; omega
    obtain ⟨g, c, rfl, hSg, hg, hgp, hcell, hfz⟩ := hr.at hx
    have hnd := hr.node x (List.mem_of_getElem? hx)
    have c0 := hcell 0 (by decide)
    have c1 := hcell 1 (by decide)
    simp only [pnC, List.getElem?_cons_zero, List.getElem?_cons_succ, Nat.add_zero] at c0 c1
    obtain ⟨m1, hm1⟩ : ∃ m, x.vE = .map m := ⟨_, hnd.pc.E.form⟩
    obtain ⟨m2, hm2⟩ : ∃ m, x.vK = .map m := ⟨_, hnd.pc.K.form⟩
    have sE := hnd.pc.E
    have sK := hnd.pc.K
    have lenL : x.p.L.length ≤ 60 := Nat.le_trans (ok.llen nk.pc) (by decide)
    have lenK : x.p.K.length ≤ 30 := ok.klen nk.pc
    have hcnt : x.count ≤ 60 := ok.count hk
    have hkpt : x.kept.length ≤ 60 := by have := nk.kept; have : x.m.kept.length = x.kept.length := List.length_map _; have : x.m.count = x.count := rfl; omega
    have soL : x.p.L.Pairwise fun a b => aheadB a b = true := nk.pc.sL
    have soK : x.p.K.Pairwise fun a b => beforeB a b = true := nk.pc.sK
    rw [hm1] at c0 sE
    rw [hm2] at c1 sK
    clear hcell
    have e0 : statusM W k = ⟨0, x.count, x.m.kept.map fun k => (k.1 : Int), ackL x.count x.acked k W.nodes.length, tokL x.p.K W.nodes.length⟩ := by unfold statusM; rw [hn]; rfl
    rw [e0]
    have c2 := (hr.at hx)
    obtain ⟨g', c', hgc, _, _, _, hcell, _⟩ := c2
    simp only [Value.slice.injEq, Option.some.injEq, Addr.mk.injEq, and_true] at hgc
    obtain ⟨rfl, _, rfl⟩ := hgc
    have c2 := hcell 2 (by decide)
    have c3 := hcell 3 (by decide)
    have c4 := hcell 4 (by decide)
    simp only [pnC, List.getElem?_cons_zero, List.getElem?_cons_succ] at c2 c3 c4
    obtain ⟨oA, cA, hvA, _, _⟩ := own_form hnd.acked
    have hal : x.acked.length = W.nodes.length := nk.acked
    have h1 := ok.one
    have h5 := ok.five
    have a2 := (hb0.cell (p := ⟨g, k * 5 + 2, none⟩) hg).trans c2
    obtain ⟨ecp, _⟩ := row_facts hr.self
    have cp := ecp 0
    simp only [List.getElem?_toArray, List.getElem?_cons_zero] at cp
    have hplt : p < w.heap.size := lt_of_heap hr.self
    have bp := (hb0.cell (p := ⟨p, 0, none⟩) hplt).trans cp
    obtain ⟨ii, hi0, hi1, hi2, hi3⟩ := info_parts (P := Tryz.prog) (e := 3) (z := .int .i64 0) (size := 1) (bytes := 8) (by kernel_rfl)
    have Hi0 := hide hi0
    have Hi1 := hide hi1
    have Hi2 := hide hi2
    have Hi3 := hide hi3
    rw [hlen] at bp
    have Q0 := hide q0
    clear hcell ecp hi0 hi1 hi2 hi3 x0 x1 x2 x3 y0 y1 y2 y3 q0
    go_enter Tryz.func33, Tryz.ntmps33
    go_wp2_with fail
    refine (at_yes W0 S p g c ns vF fs (hr.below hb0) k hkl hl).mono ?_
    rintro e w' ⟨rfl, rfl⟩
    go_wp2_with (refine wpList_make_full _ (by rfl) _ _ 44 (by rfl) 0 3 ii (.int .i64 0) 1 Tryz.underlying44 Hi0.out Hi1.out Hi2.out .i64 .i64 (W.nodes.length : Int) (W.nodes.length : Int) W.nodes.length (by rfl) (by rfl) rfl rfl (by rw [Hi3.out]; omega) (by simp only [maxLen]; omega) (Nat.zero_le _) ?_; intro w4 hown4 hgr4)
    rw [hs0] at hown4
    have hT4 : w4.ownsRow 0 3 1 (.slice (some ⟨w.heap.size + 1, 0, none⟩) W.nodes.length W.nodes.length) W.nodes.length (tokZ x.p.K W.nodes.length 0) := by
      have := hown4
      simp only [Value.cells, Nat.mul_one, toList_madeCells_one] at this
      simpa [tokZ, tokL] using this
    have q4 := (hgr4.block w.heap.size (by rw [hs0]; omega) (by simp)).trans Q0.out
    have hb4 : Below w.heap.size w w4 := hb0.grown hgr4 (by rw [hs0]; omega) (fun j hj => by cases hj)
    have HT4 := hide hT4
    have Q4 := hide q4
    have HB4 := hide hb4
    have hsnd := sorted_nodup ord_before soK
    clear hT4 q4 hb4 hown4 hgr4 bp a2 hW0
    go_loopw [23] (fun i wr => ∃ j : Nat, j ≤ W.nodes.length ∧ i = .int .i64 j ∧ wr.ownsRow 0 3 1 (.slice (some ⟨w.heap.size + 1, 0, none⟩) W.nodes.length W.nodes.length) W.nodes.length (tokZ x.p.K W.nodes.length j) ∧
        wr.heap[w.heap.size]? = some (.cells #[.int .i64 0, .slice none 0 0, .slice none 0 0, .slice none 0 0] 58 (0, 0)) ∧ Below w.heap.size w wr) (fun i _ => W.nodes.length - (intOf i).toNat)
    case atStart => exact ⟨0, Nat.zero_le _, rfl, HT4.out, Q4.out, HB4.out⟩
    case round =>
      obtain ⟨j, hj, rfl, hT, hq, hbw⟩ := hrel
      have g0 := (hbw.cell (p := ⟨g, k * 5, none⟩) hg).trans c0
      have g1 := (hbw.cell (p := ⟨g, k * 5 + 1, none⟩) hg).trans c1
      by_cases hlt : j < W.nodes.length
      · have hK := knownOf_set wr (.map m1) (.map m2) x.p.K j (sK.below hbw) hsnd (by omega)
        have HT := hide hT
        have HQ := hide hq
        have HB := hide hbw
        clear hT hq hbw HT4 Q4 HB4
        go_wp2_with fail
        refine hK.mono ?_
        rintro e w5 ⟨rfl, hb5⟩
        have hT5 := own_below HT.out hb5
        have q5 := (hb5.block w.heap.size (lt_of_heap HQ.out)).trans HQ.out
        have hbw5 := HB.out.trans (hb5.mono HB.out.size)
        obtain ⟨u5, hu5⟩ := get_some (l := tokZ x.p.K W.nodes.length j) (k := j) (by rw [tokZ_len _ _ _ hj]; exact hlt)
        obtain ⟨gT', hgT', hgTl, hcT, hfT⟩ := own1_at hT5 hu5
        simp only [Option.some.injEq, Addr.mk.injEq, and_true] at hgT'
        obtain ⟨rfl, _⟩ := hgT'
        have hT6 := own_set (j := j) (u := .int .i64 (ofNode x.p.K j)) hT5 rfl (by rw [tokZ_len _ _ _ hj]; exact hlt)
        have eT : (tokZ x.p.K W.nodes.length j).set j (.int .i64 (ofNode x.p.K j)) = tokZ x.p.K W.nodes.length (j + 1) := tokZ_set _ _ _ hlt
        rw [eT] at hT6
        have q6 : (w5.setCell ⟨w.heap.size + 1, j, none⟩ (.int .i64 (ofNode x.p.K j))).heap[w.heap.size]? = _ := (Below.heap_setCell _ _ _ _ (by simp)).trans q5
        have hbw6 := hbw5.setCell (p := ⟨w.heap.size + 1, j, none⟩) (by simp) (.int .i64 (ofNode x.p.K j))
        have HT6 := hide hT6
        have Q6 := hide q6
        have HB6 := hide hbw6
        clear hT6 q6 hbw6 hT5 q5 hbw5 hu5 eT hK hb5
        go_wp2_with fail
        exact ⟨⟨j + 1, by omega, by go_num, HT6.out, Q6.out, HB6.out⟩, by simp [intOf]; omega⟩
      · have hjn : j = W.nodes.length := by omega
        subst hjn
        have hnd9 := hnd.below hbw
        have g2 := (hbw.cell (p := ⟨g, k * 5 + 2, none⟩) hg).trans c2
        have g3 := (hbw.cell (p := ⟨g, k * 5 + 3, none⟩) hg).trans c3
        have hkn := keptNumbers_any wr.drew S g k x (hnd9.below (Below.refl _ _).drew) g3 (by omega)
        have hlw : w.heap.size < wr.heap.size := lt_of_heap hq
        have hgl : g < wr.heap.size := by omega
        have HT := hide hT
        have HQ := hide hq
        have HB := hide hbw
        clear hT hq hbw HT4 Q4 HB4 g3 hnd9 g0 g1
        obtain ⟨Sx, hSx⟩ : ∃ Sx : Nat → Prop, Sx = fun b => b = w.heap.size := ⟨_, rfl⟩
        have sg : ¬ Sx g := by rw [hSx]; show ¬ g = w.heap.size; omega
        have HSx := hide hSx
        clear hSx
        have hG := GrS.cell wr Sx
        have hGn := GrS.some wr Sx
        go_wp2_with fail
        refine wp_region_fltC [0, 1, 2, 3, 4, 6, 7, 9] [5, 8, 10, 11, 12] (fun w' => ∃ x : GrS wr Sx, w' = x.w) (by kernel_rfl) (by kernel_rfl) (fun _ _ d _ _ h => by cases d <;> exact h) ⟨⟨wr.drew, (Kp.refl _ _ _).drew⟩, rfl⟩ ?_
        simp only [pickOps, List.getElem?_cons_zero, List.getElem?_cons_succ]
        repeat (go_big_quiet_step (fail))
        refine wpQuiet_nil ?_
        refine ⟨_, rfl, ?_⟩
        go_wp2_with fail
        refine hkn.mono ?_
        rintro e w6 ⟨r, rfl, hr6, hb6⟩
        have hb6' : Below wr.heap.size wr w6 := ⟨hb6.os, hb6.tape, hb6.output, hb6.size, hb6.block⟩
        have hbw6 : Below w.heap.size w w6 := HB.out.trans (hb6'.mono HB.out.size)
        have hA := ackedOf_any w6 S p g c ns vF fs (hr.below hbw6) k x hx W.nodes.length hal (by omega) (by omega)
        have HR6 := hide hr6
        have HB6 := hide hb6'
        have HBW6 := hide hbw6
        clear hkn hr6 hb6 hb6' hbw6
        go_wp2_with fail
        refine ⟨fun _ => ⟨⟨w6, Kp.ofBelow HB6.out⟩, rfl⟩, _, rfl, ?_⟩
        go_wp2_with fail
        refine hA.mono ?_
        rintro e w7 ⟨gA, cAA, rfl, hgA, hA7, hb67⟩
        have hb7' : Below wr.heap.size wr w7 := HB6.out.trans (hb67.mono HB6.out.size)
        have hr7 := own_below (own_mono HR6.out (Nat.zero_le _)) hb67
        have hnK6 : ∀ y, r.ownBlock = some y → wr.heap.size ≤ y ∧ y < w6.heap.size := fun y hy => HR6.out.lt y hy
        obtain ⟨oR, cR, rfl, _, _⟩ := own_form hr7
        have hq7 := (hb7'.block w.heap.size hlw).trans HQ.out
        obtain ⟨e9, f9⟩ := row_facts hq7
        have x0 := e9 0
        have x1 := e9 1
        have x2 := e9 2
        have x3 := e9 3
        have y0 := f9 0
        have y1 := f9 1
        have y2 := f9 2
        have y3 := f9 3
        simp only [List.getElem?_toArray, List.getElem?_cons_succ, List.getElem?_cons_zero] at x0 x1 x2 x3
        have HR7 := hide hr7
        have HB7 := hide hb7'
        have HA7 := hide hA7
        have hs6 := HB6.out.size
        clear hA hr7 hb67 hb7' e9 f9 hG hGn hq7 hA7
        go_wp2_with fail
        refine ⟨fun _ => ⟨⟨w7, Kp.ofBelow HB7.out⟩, rfl⟩, _, rfl, ?_⟩
        go_wp2_with fail
        refine ⟨fun _ => ⟨⟨w7, Kp.ofBelow HB7.out⟩, rfl⟩, _, rfl, ?_⟩
        go_wp2_with fail
        have hnK : ∀ y, (Value.slice oR x.kept.length cR).ownBlock = some y → wr.heap.size ≤ y := fun y hy => (hnK6 y hy).1
        have kpS : Kp w7.heap.size (fun b => b = w.heap.size) w7 ((((w7.setCell ⟨w.heap.size, 0, none⟩ (.int .i64 x.count)).setCell ⟨w.heap.size, 1, none⟩ (.slice oR x.kept.length cR)).setCell ⟨w.heap.size, 2, none⟩ (.slice (some ⟨gA, 0, none⟩) W.nodes.length cAA)).setCell ⟨w.heap.size, 3, none⟩ (.slice (some ⟨w.heap.size + 1, 0, none⟩) W.nodes.length W.nodes.length)) :=
          (((Kp.set1 w7 w.heap.size 0 _).setCell (p := ⟨w.heap.size, 1, none⟩) (Or.inr rfl) _).setCell (p := ⟨w.heap.size, 2, none⟩) (Or.inr rfl) _).setCell (p := ⟨w.heap.size, 3, none⟩) (Or.inr rfl) _
        have hs7 := HB7.out.size
        have rK := own_kp HR7.out kpS (fun y hy => ⟨(HR7.out.lt y hy).2, by show ¬ y = w.heap.size; have := hnK y hy; omega⟩)
        have rA := own_kp HA7.out kpS (fun y hy => ⟨(HA7.out.lt y hy).2, by simp [Value.ownBlock] at hy; show ¬ y = w.heap.size; omega⟩)
        have rT := own_kp (own_below HT.out HB7.out) kpS (fun y hy => ⟨((own_below HT.out HB7.out).lt y hy).2, by simp [Value.ownBlock] at hy; show ¬ y = w.heap.size; omega⟩)
        have hlT := (HT.out.lt (w.heap.size + 1) rfl).2
        have hbf : Below w.heap.size w ((((w7.setCell ⟨w.heap.size, 0, none⟩ (.int .i64 x.count)).setCell ⟨w.heap.size, 1, none⟩ (.slice oR x.kept.length cR)).setCell ⟨w.heap.size, 2, none⟩ (.slice (some ⟨gA, 0, none⟩) W.nodes.length cAA)).setCell ⟨w.heap.size, 3, none⟩ (.slice (some ⟨w.heap.size + 1, 0, none⟩) W.nodes.length W.nodes.length)) :=
          ((((HB.out.trans (HB7.out.mono HB.out.size)).setCell (p := ⟨w.heap.size, 0, none⟩) (Nat.le_refl _) _).setCell (p := ⟨w.heap.size, 1, none⟩) (Nat.le_refl _) _).setCell (p := ⟨w.heap.size, 2, none⟩) (Nat.le_refl _) _).setCell (p := ⟨w.heap.size, 3, none⟩) (Nat.le_refl _) _
        refine ⟨fun _ => ⟨⟨_, (Kp.ofBelow HB7.out).trans (kpS.mono hs7 fun b _ hb => by rw [HSx.out]; exact hb)⟩, rfl⟩, _, rfl, ?_⟩
        have RK := hide rK
        have RA := hide rA
        have RT := hide rT
        have HBF := hide hbf
        clear rK rA rT hbf kpS
        go_wp2_with fail
        refine ⟨fun h => absurd rfl h, ?_⟩
        unfold wpFin
        go_wp2_with fail
        refine bodyPost_ret (v := .tuple #[.agg #[.int .i64 x.count, .slice oR x.kept.length cR, .slice (some ⟨gA, 0, none⟩) W.nodes.length cAA, .slice (some ⟨w.heap.size + 1, 0, none⟩) W.nodes.length W.nodes.length], err 0]) (by simp [results, Tryz.results33, go_sem, x0, x1, x2, x3]) rfl ⟨_, _, _, rfl, ?_, ?_, ?_, ?_, ?_, ?_, ?_, ?_, ?_, HBF.out⟩
        · have e1 : (x.m.kept.map fun k => (k.1 : Int)) = x.kept.map fun k => (k.n : Int) := by simp [PN.m, PK.m, Function.comp_def]
          show IntR _ _ (x.m.kept.map fun k => (k.1 : Int))
          rw [e1]
          unfold IntR
          rw [List.length_map, List.map_map]
          exact RK.out
        · have := RA.out
          unfold IntR
          simpa [ackL] using this
        · have := RT.out
          unfold IntR
          simpa [tokZ, tokL] using this
        · intro y hy; have := hnK y hy; omega
        · intro y hy; simp [Value.ownBlock] at hy; omega
        · intro y hy; simp [Value.ownBlock] at hy; omega
        · intro y hy hz; have := hnK6 y hy; simp [Value.ownBlock] at hz; omega
        · intro y hy hz; have := hnK y hy; simp [Value.ownBlock] at hz; omega
        · intro y hy hz; simp [Value.ownBlock] at hy hz; omega
end Go.Proofs.YtnniimfinakioaaGreatDoor
