import Derived.Test.YtimbfdihjijdoaaGreatDoorYg
import Derived.Test.YtimbfdihjijdoaaGreatDoorXi
namespace Go.Proofs.YtimbfdihjijdoaaGreatDoor
open Go.RowKit
attribute [local go_sem] toList_nm app_nm size_nm


set_option maxHeartbeats 2000000 in
set_option maxRecDepth 100000 in
theorem pAdd (w : World) (S : Nat → Prop) (p : Nat) (W : Wd) (i : Int) (s : Nm) (h : ProgW w S p W) (ok : WOk W) (hs : s.length ≤ 2000000) :
    Calls Tryz.prog 20 #[ptr p, .int .i64 i, strV s] w fun e w' => e = .returned (err (addM W i s).1) ∧ ProgW w' (Ext S w w') p (addM W i s).2 ∧ Kp w.heap.size S w w' := by
  obtain ⟨vN, ns, hr, hm⟩ := h
  have hlen : ns.length = W.nodes.length := by rw [← hm, List.length_map]
  have hl : ns.length ≤ 1000 := by have := ok.five; omega
  have H : ProgW w S p W := ⟨vN, ns, hr, hm⟩
  cases hn : nodeAt W i with
  | none =>
    have e0 : addM W i s = (1, W) := by unfold addM; rw [hn]
    rw [e0]
    go_enter Tryz.func20, Tryz.ntmps20
    go_wp2_with fail
    refine (at_no w S p _ ns hr _ (by rw [hlen]; exact nodeAt_none hn) hl).mono ?_
    rintro e w' ⟨rfl, rfl⟩
    go_wp2_with fail
    go_ret
    exact ⟨rfl, H.same⟩
  | some d =>
    obtain ⟨k, rfl, hk⟩ := nodeAt_some hn
    obtain ⟨x, hx, rfl⟩ := pn_of hm hk
    have hkl : k < ns.length := (List.getElem?_eq_some_iff.1 hx).1
    have nk := ok.node k x.m hk
    have hx5 : k < 100 := by have := ok.five; omega
    obtain ⟨g, c, rfl, hSg, hg, hgp, hcell, hfz⟩ := hr.at hx
    have hnd := hr.node x (List.mem_of_getElem? hx)
    have c0 := hcell 0 (by decide)
    have c1 := hcell 1 (by decide)
    simp only [pnC, List.getElem?_cons_zero, List.getElem?_cons_succ, Nat.add_zero] at c0 c1
    obtain ⟨m1, hm1⟩ : ∃ m, x.vE = .map m := ⟨_, hnd.pc.E.form⟩
    obtain ⟨m2, hm2⟩ : ∃ m, x.vK = .map m := ⟨_, hnd.pc.K.form⟩
    have sE := hnd.pc.E
    have sK := hnd.pc.K
    have lenL : x.p.L.length ≤ 60 := by have := nk.len; have := nk.made; show x.m.p.L.length ≤ 60; omega
    have lenK : x.p.K.length ≤ 30 := by have := nk.klen; have := nk.made; show x.m.p.K.length ≤ 30; omega
    have hcnt : x.count ≤ 60 := by have := nk.len; have := nk.made; show x.m.count ≤ 60; omega
    have hkpt : x.kept.length ≤ 60 := by have := nk.kept; have : x.m.kept.length = x.kept.length := List.length_map _; have : x.m.count = x.count := rfl; omega
    have soL : x.p.L.Pairwise fun a b => aheadB a b = true := nk.sL
    have soK : x.p.K.Pairwise fun a b => beforeB a b = true := nk.sortedK
    rw [hm1] at c0 sE
    rw [hm2] at c1 sK
    clear hcell
    have hNm := pIsName_any s w hs
    cases hb : nameB s with
    | false =>
      have e0 : addM W k s = (2, W) := by unfold addM; rw [hn]; simp [hb]
      rw [e0]
      rw [hb] at hNm
      go_enter Tryz.func20, Tryz.ntmps20
      go_wp2_with fail
      refine (at_yes w S p g c ns hr k hkl hl).mono ?_
      rintro e w' ⟨rfl, rfl⟩
      go_wp2_with fail
      refine hNm.mono ?_
      rintro e w' ⟨rfl, rfl⟩
      go_wp2_with fail
      go_ret
      exact ⟨rfl, H.same⟩
    | true =>
      rw [hb] at hNm
      have hcn := cntOk hm ok
      have hA := adds_any w S p _ ns hr hcn
      rw [sum_made hm ok] at hA
      have hadds := ok.adds
      by_cases hfull : 30 ≤ W.adds
      · have e0 : addM W k s = (4, W) := by unfold addM; rw [hn]; simp [hb, hfull]
        rw [e0]
        have hf' : (30 : Int) ≤ (W.adds : Int) := by omega
        go_enter Tryz.func20, Tryz.ntmps20
        go_wp2_with fail
        refine (at_yes w S p g c ns hr k hkl hl).mono ?_
        rintro e w' ⟨rfl, rfl⟩
        go_wp2_with fail
        refine hNm.mono ?_
        rintro e w' ⟨rfl, rfl⟩
        go_wp2_with fail
        refine hA.mono ?_
        rintro e w1 ⟨rfl, hb1⟩
        go_wp2_with fail
        go_ret
        exact ⟨rfl, H.grew hb1⟩
      · have e0 : addM W k s = (0, { W with nodes := W.nodes.set k (addN x.m k s), adds := W.adds + 1 }) := by unfold addM; rw [hn]; simp [hb, hfull]
        rw [e0]
        have hf' : decide ((30 : Int) ≤ (W.adds : Int)) = false := by simp; omega
        have hmade : x.made ≤ 30 := nk.made
        go_enter Tryz.func20, Tryz.ntmps20
        go_wp2_with fail
        refine (at_yes w S p g c ns hr k hkl hl).mono ?_
        rintro e w' ⟨rfl, rfl⟩
        go_wp2_with fail
        refine hNm.mono ?_
        rintro e w' ⟨rfl, rfl⟩
        go_wp2_with fail
        refine hA.mono ?_
        rintro e w1 ⟨rfl, hb1⟩
        have hA2 := addsAt_any w1 S p _ ns (hr.below hb1) hcn k x hx
        clear hA
        go_wp2_with fail
        refine hA2.mono ?_
        rintro e w2 ⟨rfl, hb2⟩
        have hbw2 : Below w.heap.size w w2 := hb1.trans (hb2.mono hb1.size)
        have hs2 := hbw2.size
        clear hA2 hNm
        go_wp2_with fail
        have q0 : ((w2.alloc (.cells #[.int .i64 k, .int .i64 ((x.made : Int) + 1)] 103)).alloc (.cells #[strV s, .int .i64 k, .int .i64 ((x.made : Int) + 1)] 105)).heap[w2.heap.size + 1]? = some (.cells #[strV s, .int .i64 k, .int .i64 ((x.made : Int) + 1)] 105) := new_at _ _ (by simp)
        have hb3 : Below w2.heap.size w2 ((w2.alloc (.cells #[.int .i64 k, .int .i64 ((x.made : Int) + 1)] 103)).alloc (.cells #[strV s, .int .i64 k, .int .i64 ((x.made : Int) + 1)] 105)) := below2 w2 _ _
        generalize (w2.alloc (.cells #[.int .i64 k, .int .i64 ((x.made : Int) + 1)] 103)).alloc (.cells #[strV s, .int .i64 k, .int .i64 ((x.made : Int) + 1)] 105) = w3 at *
        obtain ⟨e1, _⟩ := row_facts q0
        have d1 := e1 0
        have d2 := e1 1
        have d3 := e1 2
        simp only [List.getElem?_toArray, List.getElem?_cons_succ, List.getElem?_cons_zero] at d1 d2 d3
        have z1 := lt_of_heap q0
        have hbw3 : Below w.heap.size w w3 := hbw2.trans (hb3.mono hs2)
        have hs3 := hbw3.size
        have hg3 : g < w3.heap.size := by omega
        have c0' := (hbw3.cell (p := ⟨g, k * 5, none⟩) hg).trans c0
        have c1' := (hbw3.cell (p := ⟨g, k * 5 + 1, none⟩) hg).trans c1
        have hNd := named_set w3.drew (.map m1) (.map m2) x.p.L s (sE.below hbw3.drew) soL (by omega)
        have hnl := named_len s x.p.L
        have HBW := hide hbw3
        clear e1 q0 c0 c1 hb3 hbw2 hbw3 hb1 hb2
        have hG := Grw.cell w3
        have hGn := Grw.some w3
        refine wp_region_fltC [0, 1, 2, 3, 4, 5, 6] [7, 8, 9] (fun w' => ∃ x : Grw w3, w' = x.w) (by kernel_rfl) (by kernel_rfl) (fun _ _ d _ _ h => by cases d <;> exact h) ⟨⟨w3.drew, (Below.refl _ _).drew⟩, rfl⟩ ?_
        simp only [pickOps, List.getElem?_cons_zero, List.getElem?_cons_succ]
        repeat (go_big_quiet_step (fail))
        refine wpQuiet_nil ?_
        refine ⟨_, rfl, ?_⟩
        go_wp2_with fail
        refine hNd.mono ?_
        rintro e w4 ⟨r, rfl, hr4, hb4⟩
        have hb4' : Below w3.heap.size w3 w4 := ⟨hb4.os, hb4.tape, hb4.output, hb4.size, hb4.block⟩
        have hPt := putting_any w4 r (s, ((k : Int), (x.made : Int) + 1)) (named s x.p.L) (own_mono hr4 (Nat.zero_le _)) (by omega)
        clear hNd hG hGn hr4 hb4
        go_wp2_with fail
        refine ⟨fun _ => ⟨⟨w4, hb4'⟩, rfl⟩, _, rfl, ?_⟩
        go_wp2_with fail
        refine hPt.mono ?_
        rintro e w5 ⟨bK, bE, rfl, hbK, hbE, hKE, hME, hMK, hb5⟩
        have hb35 : Below w3.heap.size w3 w5 := hb4'.trans (hb5.mono hb4'.size)
        have hbw5 : Below w.heap.size w w5 := HBW.out.trans (hb35.mono hs3)
        have hs5 := hbw5.size
        have hs35 := hb35.size
        have hs45 := hb5.size
        have hs34 := hb4'.size
        have hR5 := (hr.below hbw5).ext (w' := w) hr.lt hs5
        have hq : PPieceR w5 (Ext S w w5) (.map (some bE)) (.map (some bK)) (addPc x.p.L k (x.made + 1) s) := by
          refine ⟨⟨[(s, ((k : Int), (x.made : Int) + 1))], ⟨by simp, Or.inr ⟨bE, rfl, hME⟩⟩, fun y => ?_⟩, ⟨_, ⟨ins_nodup (insAll_nodup (by simp)), Or.inr ⟨bK, rfl, hMK⟩⟩, fun y => ?_⟩, fun y hy => ?_, fun y hy => ?_⟩
          · simp [addPc]
          · show _ ↔ y ∈ learnL _ _
            rw [ins_mem, insAll_ofK, mem_learn]
            simp
          · simp [mapB] at hy; subst hy; exact Or.inr ⟨by omega, hME.lt⟩
          · simp [mapB] at hy; subst hy; exact Or.inr ⟨by omega, hMK.lt⟩
        have hI := takeIn_any w5 (Ext S w w5) p g c ns hR5 k x hx _ _ _ hq (by omega) (by omega) (x.made + 1)
        clear hPt
        go_wp2_with fail
        refine ⟨fun _ => ⟨⟨w5, hb35⟩, rfl⟩, _, rfl, ?_⟩
        go_wp2_with fail
        refine hI.mono ?_
        rintro e w6 ⟨rfl, ⟨vE', vK', vKept', hR⟩, hK⟩
        clear hI
        go_wp2_with fail
        refine ⟨fun h => absurd rfl h, ?_⟩
        unfold wpFin
        go_wp2_with fail
        go_ret
        refine ⟨rfl, ⟨_, _, hR.mono (fun b hx => Ext.trans hx hs5 hK.size) (fun b hx => ?_), ?_⟩, hK.under (Kp.ofBelow hbw5)⟩
        · rcases hx with y | y
          · exact Nat.lt_of_lt_of_le (hr.lt b y) (Nat.le_trans hs5 hK.size)
          · exact y.2
        · rw [List.map_set, hm]
          simp [PN.m, addN, newsM, PK.m]
end Go.Proofs.YtimbfdihjijdoaaGreatDoor
namespace Go.Proofs.YtimbfdihjijdoaaGreatDoor
open Go.RowKit Go.Shelf
attribute [local go_sem] toList_nm app_nm size_nm


theorem clone_any (w : World) (v : Value) (l : List Nat) (h : w.ownsRow 0 3 1 v l.length (intC l)) (h1 : 1 ≤ l.length) (hl : l.length ≤ 1000) :
    Calls Tryz.prog 31 #[v] w fun e w' => ∃ g c, e = .returned (.slice (some ⟨g, 0, none⟩) l.length c) ∧ w.heap.size ≤ g ∧ w'.ownsRow 0 3 1 (.slice (some ⟨g, 0, none⟩) l.length c) l.length (intC l) ∧ Below w.heap.size w w' := by
  rcases h.2 with ⟨rfl, hz⟩ | ⟨g, cap, cur, rfl, hbase, hgb, r1, r2, r3, r4⟩
  · omega
  · refine (Any.slices_Clone_int Tryz.laysClone g 0 l.length cap (l.map fun (n : Nat) => (n : Int)) w (by simp) (by omega) (fun j hj => ?_)).mono ?_
    · have hj' : j < l.length := by simpa using hj
      have := own_cell h rfl (j := j) (u := .int .i64 ((l[j] : Nat) : Int)) (by simp [intC, hj'])
      rw [Nat.zero_add, this]
      simp [List.getD, hj']
    · rintro e w' ⟨v', rfl, hown, hne, hb⟩
      rcases hown.2 with ⟨rfl, _⟩ | ⟨g', cap', cur', rfl, hb', rest⟩
      · exact absurd rfl hne
      · refine ⟨g', cap', rfl, hb', ?_, hb⟩
        have := own_mono hown (Nat.zero_le _)
        rw [List.take_of_length_le (by simp)] at this
        rw [List.map_map] at this
        exact this

theorem ackL_set (cnt : Nat) (l : List Nat) (i : Nat) (hi : i < l.length) : (ackL cnt l i l.length).map (fun n => Value.int .i64 n) = (intC l).set i (.int .i64 cnt) := by
  apply List.ext_getElem?
  intro j
  rw [List.getElem?_set]
  unfold ackL intC
  by_cases hj : j < l.length
  · rw [List.getElem?_map, List.getElem?_map, List.getElem?_range hj]
    by_cases he : i = j
    · subst he
      simp [hj]
    · rw [if_neg he, List.getElem?_map, List.getElem?_eq_getElem hj]
      simp [show ¬ j = i from fun e => he e.symm, hj]
  · rw [List.getElem?_eq_none (by simp; omega)]
    by_cases he : i = j
    · subst he; omega
    · rw [if_neg he, List.getElem?_eq_none (by simp; omega)]
def tokZ (K : List Tok) (n j : Nat) : List Value := ((tokL K j).map fun n => Value.int .i64 n) ++ List.replicate (n - j) (.int .i64 0)
theorem tokZ_len (K : List Tok) (n j : Nat) (h : j ≤ n) : (tokZ K n j).length = n := by simp [tokZ, tokL]; omega
theorem tokZ_set (K : List Tok) (n j : Nat) (h : j < n) : (tokZ K n j).set j (.int .i64 (knownOf K j)) = tokZ K n (j + 1) := by
  unfold tokZ
  have hl : ((tokL K j).map fun n => Value.int .i64 n).length = j := by simp [tokL]
  rw [List.set_append_right _ _ (by omega), hl, Nat.sub_self, tokL_succ, List.map_append, show n - j = (n - (j + 1)) + 1 by omega, List.replicate_succ, List.set_cons_zero]
  simp


set_option maxHeartbeats 2000000 in
set_option maxRecDepth 100000 in
theorem pStatus (w : World) (S : Nat → Prop) (p : Nat) (W : Wd) (i : Int) (h : ProgW w S p W) (ok : WOk W) :
    Calls Tryz.prog 14 #[ptr p, .int .i64 i] w fun e w' => ∃ vK vA vT, e = .returned (.tuple #[.agg #[.int .i64 (statusM W i).count, vK, vA, vT], err (statusM W i).err]) ∧
      IntR w' vK (statusM W i).kept ∧ IntR w' vA (statusM W i).acked ∧ IntR w' vT (statusM W i).tokens ∧
      (∀ g, vK.ownBlock = some g → w.heap.size ≤ g) ∧ (∀ g, vA.ownBlock = some g → w.heap.size ≤ g) ∧ (∀ g, vT.ownBlock = some g → w.heap.size ≤ g) ∧
      (∀ g, vK.ownBlock = some g → vA.ownBlock = some g → False) ∧ (∀ g, vK.ownBlock = some g → vT.ownBlock = some g → False) ∧ (∀ g, vA.ownBlock = some g → vT.ownBlock = some g → False) ∧ Below w.heap.size w w' := by
  obtain ⟨vN, ns, hr, hm⟩ := h
  have hlen : ns.length = W.nodes.length := by rw [← hm, List.length_map]
  have hl : ns.length ≤ 1000 := by have := ok.five; omega
  have H : ProgW w S p W := ⟨vN, ns, hr, hm⟩
  obtain ⟨W0, hW0⟩ : ∃ W0, w.alloc (.cells #[.int .i64 0, .slice none 0 0, .slice none 0 0, .slice none 0 0] 40) = W0 := ⟨_, rfl⟩
  have hb0 : Below w.heap.size w W0 := by rw [← hW0]; exact (Below.refl _ _).alloc (Nat.le_refl _) _
  have q0 : W0.heap[w.heap.size]? = some (.cells #[.int .i64 0, .slice none 0 0, .slice none 0 0, .slice none 0 0] 40) := by rw [← hW0]; exact heap_alloc_new w _
  have hs0 : W0.heap.size = w.heap.size + 1 := by rw [← hW0]; simp
  obtain ⟨e1, f1⟩ := row_facts q0
  have x0 := e1 0
  have x1 := e1 1
  have x2 := e1 2
  have x3 := e1 3
  have y0 := f1 0
  have y1 := f1 1
  have y2 := f1 2
  have y3 := f1 3
  simp only [List.getElem?_toArray, List.getElem?_cons_succ, List.getElem?_cons_zero] at x0 x1 x2 x3
  clear e1 f1
  cases hn : nodeAt W i with
  | none =>
    have e0 : statusM W i = ⟨1, 0, [], [], []⟩ := by unfold statusM; rw [hn]
    rw [e0]
    go_enter Tryz.func14, Tryz.ntmps14
    go_wp2_with fail
    refine (at_no W0 S p _ ns (hr.below hb0) _ (by rw [hlen]; exact nodeAt_none hn) hl).mono ?_
    rintro e w' ⟨rfl, rfl⟩
    go_wp2_with fail
    have hbS : Below w.heap.size w ((((W0.setCell ⟨w.heap.size, 0, none⟩ (.int .i64 0)).setCell ⟨w.heap.size, 1, none⟩ (.slice none 0 0)).setCell ⟨w.heap.size, 2, none⟩ (.slice none 0 0)).setCell ⟨w.heap.size, 3, none⟩ (.slice none 0 0)) :=
      (((hb0.setCell (p := ⟨w.heap.size, 0, none⟩) (Nat.le_refl _) _).setCell (p := ⟨w.heap.size, 1, none⟩) (Nat.le_refl _) _).setCell (p := ⟨w.heap.size, 2, none⟩) (Nat.le_refl _) _).setCell (p := ⟨w.heap.size, 3, none⟩) (Nat.le_refl _) _
    refine bodyPost_ret (v := .tuple #[.agg #[.int .i64 0, .slice none 0 0, .slice none 0 0, .slice none 0 0], err 1]) (by simp [results, Tryz.results14, go_sem, x0, x1, x2, x3]) rfl ⟨_, _, _, rfl, World.ownsRow_nil .., World.ownsRow_nil .., World.ownsRow_nil .., by simp [Value.ownBlock], by simp [Value.ownBlock], by simp [Value.ownBlock], by simp [Value.ownBlock], by simp [Value.ownBlock], by simp [Value.ownBlock], hbS⟩
  | some d =>
    obtain ⟨k, rfl, hk⟩ := nodeAt_some hn
    obtain ⟨x, hx, rfl⟩ := pn_of hm hk
    have hkl : k < ns.length := (List.getElem?_eq_some_iff.1 hx).1
    have nk := ok.node k x.m hk
    have hx5 : k < 100 := by have := ok.five; omega
    obtain ⟨g, c, rfl, hSg, hg, hgp, hcell, hfz⟩ := hr.at hx
    have hnd := hr.node x (List.mem_of_getElem? hx)
    have c0 := hcell 0 (by decide)
    have c1 := hcell 1 (by decide)
    simp only [pnC, List.getElem?_cons_zero, List.getElem?_cons_succ, Nat.add_zero] at c0 c1
    obtain ⟨m1, hm1⟩ : ∃ m, x.vE = .map m := ⟨_, hnd.pc.E.form⟩
    obtain ⟨m2, hm2⟩ : ∃ m, x.vK = .map m := ⟨_, hnd.pc.K.form⟩
    have sE := hnd.pc.E
    have sK := hnd.pc.K
    have lenL : x.p.L.length ≤ 60 := by have := nk.len; have := nk.made; show x.m.p.L.length ≤ 60; omega
    have lenK : x.p.K.length ≤ 30 := by have := nk.klen; have := nk.made; show x.m.p.K.length ≤ 30; omega
    have hcnt : x.count ≤ 60 := by have := nk.len; have := nk.made; show x.m.count ≤ 60; omega
    have hkpt : x.kept.length ≤ 60 := by have := nk.kept; have : x.m.kept.length = x.kept.length := List.length_map _; have : x.m.count = x.count := rfl; omega
    have soL : x.p.L.Pairwise fun a b => aheadB a b = true := nk.sL
    have soK : x.p.K.Pairwise fun a b => beforeB a b = true := nk.sortedK
    rw [hm1] at c0 sE
    rw [hm2] at c1 sK
    clear hcell
    have e0 : statusM W k = ⟨0, x.count, x.m.kept.map fun k => (k.1 : Int), ackL x.count x.acked k W.nodes.length, tokL x.p.K W.nodes.length⟩ := by unfold statusM; rw [hn]; rfl
    rw [e0]
    have c2 := (hr.at hx)
    obtain ⟨g', c', hgc, _, _, _, hcell, _⟩ := c2
    simp only [Value.slice.injEq, Option.some.injEq, Addr.mk.injEq, and_true] at hgc
    obtain ⟨rfl, _, rfl⟩ := hgc
    have c2 := hcell 2 (by decide)
    have c3 := hcell 3 (by decide)
    have c4 := hcell 4 (by decide)
    simp only [pnC, List.getElem?_cons_zero, List.getElem?_cons_succ] at c2 c3 c4
    obtain ⟨oA, cA, hvA, _, _⟩ := own_form hnd.acked
    have hal : x.acked.length = W.nodes.length := nk.acked
    have h1 := ok.one
    have h5 := ok.five
    have hC := clone_any W0 x.vAcked x.acked (own_below hnd.acked hb0) (by omega) (by omega)
    have a2 := (hb0.cell (p := ⟨g, k * 5 + 2, none⟩) hg).trans c2
    have a4 := (hb0.cell (p := ⟨g, k * 5 + 4, none⟩) hg).trans c4
    obtain ⟨ecp, _⟩ := row_facts hr.self
    have cp := ecp 0
    simp only [List.getElem?_toArray, List.getElem?_cons_zero] at cp
    have hplt : p < w.heap.size := lt_of_heap hr.self
    rw [hvA, hal] at a4 hC
    obtain ⟨ii, hi0, hi1, hi2, hi3⟩ := info_parts (P := Tryz.prog) (e := 3) (z := .int .i64 0) (size := 1) (bytes := 8) (by kernel_rfl)
    have Hi0 := hide hi0
    have Hi1 := hide hi1
    have Hi2 := hide hi2
    have Hi3 := hide hi3
    clear hcell ecp hi0 hi1 hi2 hi3
    go_enter Tryz.func14, Tryz.ntmps14
    go_wp2_with fail
    refine (at_yes W0 S p g c ns (hr.below hb0) k hkl hl).mono ?_
    rintro e w' ⟨rfl, rfl⟩
    go_wp2_with fail
    clear hW0
    refine hC.mono ?_
    rintro e w2 ⟨gA, cAA, rfl, hgA, hAr, hb2⟩
    have hbw2 : Below w.heap.size w w2 := hb0.trans (hb2.mono hb0.size)
    have hs2 := hb2.size
    have b2 := (hbw2.cell (p := ⟨g, k * 5 + 2, none⟩) hg).trans c2
    have bp := (hbw2.cell (p := ⟨p, 0, none⟩) hplt).trans cp
    have q2 := (hb2.block w.heap.size (by omega)).trans q0
    have hAset := own_set (j := k) (u := .int .i64 x.count) hAr rfl (by simp [intC]; omega)
    rw [← ackL_set x.count x.acked k (by omega), hal] at hAset
    obtain ⟨u, hu⟩ := get_some (l := intC x.acked) (k := k) (by simp [intC]; omega)
    obtain ⟨gA', hgA', hgAl, hcA, hfA⟩ := own1_at hAr hu
    simp only [Option.some.injEq, Addr.mk.injEq, and_true] at hgA'
    subst hgA'
    have HA := hide hAset
    have hbw3 : Below w.heap.size w (w2.setCell ⟨gA, k, none⟩ (.int .i64 x.count)) := hbw2.setCell (p := ⟨gA, k, none⟩) (by simp; omega) _
    have q3 : (w2.setCell ⟨gA, k, none⟩ (.int .i64 x.count)).heap[w.heap.size]? = some (.cells #[.int .i64 0, .slice none 0 0, .slice none 0 0, .slice none 0 0] 40) := (Below.heap_setCell _ _ _ _ (by simp; omega)).trans q2
    have bp3 := (hbw3.cell (p := ⟨p, 0, none⟩) hplt).trans cp
    have hs3 : (w2.setCell ⟨gA, k, none⟩ (.int .i64 x.count)).heap.size = w2.heap.size := by simp [World.setCell]
    have HB3 := hide hbw3
    have Q3 := hide q3
    clear hC hb2 hAr a2 a4 hu hAset hbw3 q3 q2 q0 x0 x1 x2 x3 y0 y1 y2 y3
    go_wp2_with (refine wpList_make_full _ (by rfl) _ _ 38 (by rfl) 0 3 ii (.int .i64 0) 1 Tryz.underlying38 Hi0.out Hi1.out Hi2.out .i64 .i64 (W.nodes.length : Int) (W.nodes.length : Int) W.nodes.length (by rfl) (by rfl) rfl rfl (by rw [Hi3.out]; omega) (by simp only [maxLen]; omega) (Nat.zero_le _) ?_; intro w4 hown4 hgr4)
    rw [hs3] at hown4
    have hT4 : w4.ownsRow 0 3 1 (.slice (some ⟨w2.heap.size, 0, none⟩) W.nodes.length W.nodes.length) W.nodes.length (tokZ x.p.K W.nodes.length 0) := by
      have := hown4
      simp only [Value.cells, Nat.mul_one, toList_madeCells_one] at this
      simpa [tokZ, tokL] using this
    have hA4 := HA.out.kept hgr4 (Or.inr (by simp [Value.ownBlock]))
    have q4 := (hgr4.block w.heap.size (by rw [hs3]; omega) (by simp)).trans Q3.out
    have hb4 : Below w.heap.size w w4 := HB3.out.grown hgr4 (by rw [hs3]; omega) (fun j hj => by cases hj)
    have HT4 := hide hT4
    have HA4 := hide hA4
    have Q4 := hide q4
    have HB4 := hide hb4
    have hgT : gA ≠ w2.heap.size := by omega
    have hsnd := sorted_nodup ord_before soK
    clear hT4 hA4 q4 hb4 hown4 hgr4 HA Q3 HB3 bp3 hs3 bp b2 hbw2
    go_loopw [36] (fun i wr => ∃ j : Nat, j ≤ W.nodes.length ∧ i = .int .i64 j ∧ wr.ownsRow 0 3 1 (.slice (some ⟨w2.heap.size, 0, none⟩) W.nodes.length W.nodes.length) W.nodes.length (tokZ x.p.K W.nodes.length j) ∧
        wr.ownsRow 0 3 1 (.slice (some ⟨gA, 0, none⟩) W.nodes.length cAA) W.nodes.length ((ackL x.count x.acked k W.nodes.length).map fun n => .int .i64 n) ∧
        wr.heap[w.heap.size]? = some (.cells #[.int .i64 0, .slice none 0 0, .slice none 0 0, .slice none 0 0] 40 (0, 0)) ∧ Below w.heap.size w wr) (fun i _ => W.nodes.length - (intOf i).toNat)
    case atStart => exact ⟨0, Nat.zero_le _, rfl, HT4.out, HA4.out, Q4.out, HB4.out⟩
    case round =>
      obtain ⟨j, hj, rfl, hT, hA, hq, hbw⟩ := hrel
      have g0 := (hbw.cell (p := ⟨g, k * 5, none⟩) hg).trans c0
      have g1 := (hbw.cell (p := ⟨g, k * 5 + 1, none⟩) hg).trans c1
      by_cases hlt : j < W.nodes.length
      · have hK := knownOf_set wr (.map m1) (.map m2) x.p.K j (sK.below hbw) hsnd (by omega)
        have HT := hide hT
        have HA := hide hA
        have HQ := hide hq
        have HB := hide hbw
        clear hT hA hq hbw HT4 HA4 Q4 HB4
        go_wp2_with fail
        refine hK.mono ?_
        rintro e w5 ⟨rfl, hb5⟩
        have hT5 := own_below HT.out hb5
        have hA5 := own_below HA.out hb5
        have q5 := (hb5.block w.heap.size (lt_of_heap HQ.out)).trans HQ.out
        have hbw5 := HB.out.trans (hb5.mono HB.out.size)
        obtain ⟨u5, hu5⟩ := get_some (l := tokZ x.p.K W.nodes.length j) (k := j) (by rw [tokZ_len _ _ _ hj]; exact hlt)
        obtain ⟨gT', hgT', hgTl, hcT, hfT⟩ := own1_at hT5 hu5
        simp only [Option.some.injEq, Addr.mk.injEq, and_true] at hgT'
        obtain ⟨rfl, _⟩ := hgT'
        have hT6 := own_set (j := j) (u := .int .i64 (ofNode x.p.K j)) hT5 rfl (by rw [tokZ_len _ _ _ hj]; exact hlt)
        have eT : (tokZ x.p.K W.nodes.length j).set j (.int .i64 (ofNode x.p.K j)) = tokZ x.p.K W.nodes.length (j + 1) := tokZ_set _ _ _ hlt
        rw [eT] at hT6
        have hA6 := hA5.kept (w' := w5.setCell ⟨w2.heap.size, j, none⟩ (.int .i64 (ofNode x.p.K j))) (row := some w2.heap.size) ⟨rfl, rfl, rfl, by simp [World.setCell], fun b _ hne => Below.heap_setCell _ _ _ _ (fun e => hne (by rw [e]))⟩ (Or.inr (by simpa [Value.ownBlock] using hgT))
        have q6 : (w5.setCell ⟨w2.heap.size, j, none⟩ (.int .i64 (ofNode x.p.K j))).heap[w.heap.size]? = _ := (Below.heap_setCell _ _ _ _ (by simp; omega)).trans q5
        have hbw6 := hbw5.setCell (p := ⟨w2.heap.size, j, none⟩) (by simp; omega) (.int .i64 (ofNode x.p.K j))
        have HT6 := hide hT6
        have HA6 := hide hA6
        have Q6 := hide q6
        have HB6 := hide hbw6
        clear hT6 hA6 q6 hbw6 hT5 hA5 q5 hbw5 hu5 eT hK hb5
        go_wp2_with fail
        exact ⟨⟨j + 1, by omega, by go_num, HT6.out, HA6.out, Q6.out, HB6.out⟩, by simp [intOf]; omega⟩
      · have hjn : j = W.nodes.length := by omega
        subst hjn
        have hnd9 := hnd.below hbw
        have g2 := (hbw.cell (p := ⟨g, k * 5 + 2, none⟩) hg).trans c2
        have g3 := (hbw.cell (p := ⟨g, k * 5 + 3, none⟩) hg).trans c3
        have hkn := keptNumbers_any wr.drew S g k x (hnd9.below (Below.refl _ _).drew) g3 (by omega)
        obtain ⟨e9, f9⟩ := row_facts hq
        have hlw : w.heap.size < wr.heap.size := lt_of_heap hq
        have hgl : g < wr.heap.size := by omega
        have HT := hide hT
        have HA := hide hA
        have HQ := hide hq
        have HB := hide hbw
        clear hT hA hq hbw HT4 HA4 Q4 HB4 e9 f9 g3 hnd9 g0 g1
        obtain ⟨Sx, hSx⟩ : ∃ Sx : Nat → Prop, Sx = fun b => b = w.heap.size := ⟨_, rfl⟩
        have sg : ¬ Sx g := by rw [hSx]; show ¬ g = w.heap.size; omega
        have HSx := hide hSx
        clear hSx
        have hG := GrS.cell wr Sx
        have hGn := GrS.some wr Sx
        go_wp2_with fail
        refine wp_region_fltC [0, 1, 2, 3, 4, 6, 7] [5, 8, 9, 10] (fun w' => ∃ x : GrS wr Sx, w' = x.w) (by kernel_rfl) (by kernel_rfl) (fun _ _ d _ _ h => by cases d <;> exact h) ⟨⟨wr.drew, (Kp.refl _ _ _).drew⟩, rfl⟩ ?_
        simp only [pickOps, List.getElem?_cons_zero, List.getElem?_cons_succ]
        repeat (go_big_quiet_step (fail))
        refine wpQuiet_nil ?_
        refine ⟨_, rfl, ?_⟩
        go_wp2_with fail
        refine hkn.mono ?_
        rintro e w7 ⟨r, rfl, hr7, hb7⟩
        have hb7' : Below wr.heap.size wr w7 := ⟨hb7.os, hb7.tape, hb7.output, hb7.size, hb7.block⟩
        obtain ⟨oR, cR, rfl, _, _⟩ := own_form (own_mono hr7 (Nat.zero_le _))
        have hq7 := (hb7'.block w.heap.size hlw).trans HQ.out
        obtain ⟨e9, f9⟩ := row_facts hq7
        have x0 := e9 0
        have x1 := e9 1
        have x2 := e9 2
        have x3 := e9 3
        have y0 := f9 0
        have y1 := f9 1
        have y2 := f9 2
        have y3 := f9 3
        simp only [List.getElem?_toArray, List.getElem?_cons_succ, List.getElem?_cons_zero] at x0 x1 x2 x3
        have HR7 := hide hr7
        have HB7 := hide hb7'
        clear hkn hr7 hb7 hb7' e9 f9 hG hGn hq7
        go_wp2_with fail
        refine ⟨fun _ => ⟨⟨w7, Kp.ofBelow HB7.out⟩, rfl⟩, _, rfl, ?_⟩
        go_wp2_with fail
        refine ⟨fun _ => ⟨⟨w7, Kp.ofBelow HB7.out⟩, rfl⟩, _, rfl, ?_⟩
        go_wp2_with fail
        have hnK : ∀ y, (Value.slice oR x.kept.length cR).ownBlock = some y → wr.heap.size ≤ y := fun y hy => (HR7.out.lt y hy).1
        have kpS : Kp w7.heap.size (fun b => b = w.heap.size) w7 ((((w7.setCell ⟨w.heap.size, 0, none⟩ (.int .i64 x.count)).setCell ⟨w.heap.size, 1, none⟩ (.slice oR x.kept.length cR)).setCell ⟨w.heap.size, 2, none⟩ (.slice (some ⟨gA, 0, none⟩) W.nodes.length cAA)).setCell ⟨w.heap.size, 3, none⟩ (.slice (some ⟨w2.heap.size, 0, none⟩) W.nodes.length W.nodes.length)) :=
          (((Kp.set1 w7 w.heap.size 0 _).setCell (p := ⟨w.heap.size, 1, none⟩) (Or.inr rfl) _).setCell (p := ⟨w.heap.size, 2, none⟩) (Or.inr rfl) _).setCell (p := ⟨w.heap.size, 3, none⟩) (Or.inr rfl) _
        have hs7 := HB7.out.size
        have rK := own_kp (own_mono HR7.out (Nat.zero_le _)) kpS (fun y hy => ⟨(HR7.out.lt y hy).2, by show ¬ y = w.heap.size; have := hnK y hy; omega⟩)
        have rA := own_kp (own_below HA.out HB7.out) kpS (fun y hy => ⟨((own_below HA.out HB7.out).lt y hy).2, by simp [Value.ownBlock] at hy; show ¬ y = w.heap.size; omega⟩)
        have rT := own_kp (own_below HT.out HB7.out) kpS (fun y hy => ⟨((own_below HT.out HB7.out).lt y hy).2, by simp [Value.ownBlock] at hy; show ¬ y = w.heap.size; omega⟩)
        have hlA := (HA.out.lt gA rfl).2
        have hlT := (HT.out.lt w2.heap.size rfl).2
        have hbf : Below w.heap.size w ((((w7.setCell ⟨w.heap.size, 0, none⟩ (.int .i64 x.count)).setCell ⟨w.heap.size, 1, none⟩ (.slice oR x.kept.length cR)).setCell ⟨w.heap.size, 2, none⟩ (.slice (some ⟨gA, 0, none⟩) W.nodes.length cAA)).setCell ⟨w.heap.size, 3, none⟩ (.slice (some ⟨w2.heap.size, 0, none⟩) W.nodes.length W.nodes.length)) :=
          ((((HB.out.trans (HB7.out.mono HB.out.size)).setCell (p := ⟨w.heap.size, 0, none⟩) (Nat.le_refl _) _).setCell (p := ⟨w.heap.size, 1, none⟩) (Nat.le_refl _) _).setCell (p := ⟨w.heap.size, 2, none⟩) (Nat.le_refl _) _).setCell (p := ⟨w.heap.size, 3, none⟩) (Nat.le_refl _) _
        refine ⟨fun _ => ⟨⟨_, (Kp.ofBelow HB7.out).trans (kpS.mono hs7 fun b _ hb => by rw [HSx.out]; exact hb)⟩, rfl⟩, _, rfl, ?_⟩
        have RK := hide rK
        have RA := hide rA
        have RT := hide rT
        have HBF := hide hbf
        clear rK rA rT hbf kpS
        go_wp2_with fail
        refine ⟨fun h => absurd rfl h, ?_⟩
        unfold wpFin
        go_wp2_with fail
        refine bodyPost_ret (v := .tuple #[.agg #[.int .i64 x.count, .slice oR x.kept.length cR, .slice (some ⟨gA, 0, none⟩) W.nodes.length cAA, .slice (some ⟨w2.heap.size, 0, none⟩) W.nodes.length W.nodes.length], err 0]) (by simp [results, Tryz.results14, go_sem, x0, x1, x2, x3]) rfl ⟨_, _, _, rfl, ?_, ?_, ?_, ?_, ?_, ?_, ?_, ?_, ?_, HBF.out⟩
        · have e1 : (x.m.kept.map fun k => (k.1 : Int)) = x.kept.map fun k => (k.n : Int) := by simp [PN.m, PK.m, Function.comp_def]
          show IntR _ _ (x.m.kept.map fun k => (k.1 : Int))
          rw [e1]
          unfold IntR
          rw [List.length_map, List.map_map]
          exact RK.out
        · have := RA.out
          unfold IntR
          simpa [ackL] using this
        · have := RT.out
          unfold IntR
          simpa [tokZ, tokL] using this
        · intro y hy; have := hnK y hy; omega
        · intro y hy; simp [Value.ownBlock] at hy; omega
        · intro y hy; simp [Value.ownBlock] at hy; omega
        · intro y hy hz; have := hnK y hy; simp [Value.ownBlock] at hz; omega
        · intro y hy hz; have := hnK y hy; simp [Value.ownBlock] at hz; omega
        · intro y hy hz; simp [Value.ownBlock] at hy hz; omega
end Go.Proofs.YtimbfdihjijdoaaGreatDoor
namespace Go.Proofs.YtimbfdihjijdoaaGreatDoor
open Go.RowKit

theorem progOps : ProgOps ProgW where
  lt h := h.lt
  kp h k o := h.kp k o
  newNo n w hn := (pNew_arg n w hn).mono fun e w' ⟨h1, h2⟩ => ⟨h1, by rw [← h2]; exact Below.refl _ _⟩
  newYes n w h1 h5 := pNew_ok n w h1 h5
  add w S p W i s h ok hs := pAdd w S p W i s h ok hs
  remove w S p W i s h ok hs := pRemove w S p W i s h ok hs
  clear w S p W i h ok := pClear w S p W i h ok
  items w S p W i h ok := pItems w S p W i h ok
  text w S p W i h ok := pText w S p W i h ok
  status w S p W i h ok := pStatus w S p W i h ok

theorem aloneUpto : Rows.AloneUptoCardSaid := cardUpto progOps
end Go.Proofs.YtimbfdihjijdoaaGreatDoor
