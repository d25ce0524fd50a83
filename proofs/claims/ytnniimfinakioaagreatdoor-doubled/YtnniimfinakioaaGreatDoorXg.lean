import Derived.Test.YtnniimfinakioaaGreatDoorXf
namespace Go.Proofs.YtnniimfinakioaaGreatDoor
open Go.RowKit
attribute [local go_sem ↓] eqTok eqEnt
attribute [local go_sem] toList_nm app_nm size_nm

abbrev ackV (m : MS) : Value := .agg #[.int .i64 2, .int .i64 m.to, .int .i64 m.frm, .int .i64 m.number, .string ⟨#[]⟩, .slice none 0 0, .slice none 0 0]


set_option maxHeartbeats 1000000 in
set_option maxRecDepth 100000 in
theorem come_same (w : World) (S : Nat → Prop) (p : Nat) (vN : Value) (ns : List NS) (vF : Value) (ms : List MS) (adds : Nat) (h : RefR w S p vN ns vF ms adds) (m : MS) (hq : PieceR w S m.vL m.vK m.p) (d : NS) (hd : ns[m.to]? = some d) (hdp : SmallP d.p) (hqs : SmallP m.p) (he : joinP d.p m.p = d.p) :
    Calls Tryz.prog 143 #[ptr p, msV m] w fun e w' => e = .returned (ackV m) ∧ Below w.heap.size w w' := by
  obtain ⟨mk, mf, mt, mn, mx, vL, vK, mp⟩ := m
  dsimp only [msV, ackV] at hq hd hqs he ⊢
  obtain ⟨g, c, rfl, hSg, hg, hgp, hcell, hfz⟩ := h.at hd
  have hnd := h.node d (List.mem_of_getElem? hd)
  have hi : mt < ns.length := (List.getElem?_eq_some_iff.1 hd).1
  obtain ⟨e1, _⟩ := row_facts h.self
  have hplt : p < w.heap.size := lt_of_heap h.self
  have cp := e1 0
  have c0 := hcell 0 (by decide)
  have c1 := hcell 1 (by decide)
  simp only [nsC, List.getElem?_cons_zero, List.getElem?_cons_succ, Nat.add_zero, List.getElem?_toArray] at c0 c1 cp
  obtain ⟨odL, cdL, hdL, _, _⟩ := hnd.pc.L.form
  obtain ⟨odK, cdK, hdK, _, _⟩ := hnd.pc.K.form
  rw [hdL] at c0
  rw [hdK] at c1
  obtain ⟨oL, cL, rfl, _, _⟩ := hq.L.form
  obtain ⟨oK, cK, rfl, _, _⟩ := hq.K.form
  obtain ⟨W1, hW1⟩ : ∃ W1, (w.alloc (.cells #[.int .i64 mk, .int .i64 mf, .int .i64 mt, .int .i64 mn, strV mx, .slice oL mp.L.length cL, .slice oK mp.K.length cK] 198)).alloc (.cells #[.int .i64 0, .int .i64 0, .int .i64 0, .int .i64 0, .string ⟨#[]⟩, .slice none 0 0, .slice none 0 0] 198) = W1 := ⟨_, rfl⟩
  have hb1 : Below w.heap.size w W1 := by rw [← hW1]; exact below2 w _ _
  have q0 : W1.heap[w.heap.size]? = some (.cells #[.int .i64 mk, .int .i64 mf, .int .i64 mt, .int .i64 mn, strV mx, .slice oL mp.L.length cL, .slice oK mp.K.length cK] 198 (0, 0)) := by rw [← hW1]; exact alloc_at (heap_alloc_new w _) _
  have q1 : W1.heap[w.heap.size + 1]? = some (.cells #[.int .i64 0, .int .i64 0, .int .i64 0, .int .i64 0, .string ⟨#[]⟩, .slice none 0 0, .slice none 0 0] 198 (0, 0)) := by
    rw [← hW1]
    have := heap_alloc_new (w.alloc (.cells #[.int .i64 mk, .int .i64 mf, .int .i64 mt, .int .i64 mn, strV mx, .slice oL mp.L.length cL, .slice oK mp.K.length cK] 198)) (.cells #[.int .i64 0, .int .i64 0, .int .i64 0, .int .i64 0, .string ⟨#[]⟩, .slice none 0 0, .slice none 0 0] 198)
    rw [World.size_alloc] at this
    exact this
  have hs1 : W1.heap.size = w.heap.size + 1 + 1 := by rw [← hW1]; simp
  obtain ⟨e0, _⟩ := row_facts q0
  have d2 := e0 2
  have d5 := e0 5
  have d6 := e0 6
  simp only [List.getElem?_toArray, List.getElem?_cons_zero, List.getElem?_cons_succ] at d2 d5 d6
  have cp' := (hb1.cell (p := ⟨p, 0, none⟩) hplt).trans cp
  have c0' := (hb1.cell (p := ⟨g, mt * 6, none⟩) hg).trans c0
  have c1' := (hb1.cell (p := ⟨g, mt * 6 + 1, none⟩) hg).trans c1
  have hwl : w.heap.size < W1.heap.size := lt_of_heap q0
  have lp : p < W1.heap.size := by omega
  have lg : g < W1.heap.size := by omega
  have HS1 := hide hs1
  have HB := hide hb1
  have H0 := hide q0
  have H1 := hide q1
  clear hcell e1 e0 hb1 cp c0 c1 q0 q1 hs1
  have s1 : ∀ b, ¬ NoS b := fun b h => h
  go_enter Tryz.func143, Tryz.ntmps143
  go_wp2_with fail
  clear hW1
  have hG := GrS.cell W1 NoS
  have hGn := GrS.some W1 NoS
  refine wp_region_flt [0, 1, 2, 3, 4, 5, 6, 7, 8, 9] [10, 11] (fun w' => ∃ x : GrS W1 NoS, w' = x.w) (by kernel_rfl) (by kernel_rfl) (fun _ _ d _ _ h => by cases d <;> exact h) ⟨⟨W1.drew, (Kp.refl _ _ _).drew⟩, rfl⟩ ?_
  simp only [pickOps, List.getElem?_cons_zero, List.getElem?_cons_succ]
  repeat (go_big_quiet_step (fail))
  refine wpQuiet_nil ?_
  refine ⟨_, rfl, ?_⟩
  go_wp2_with fail
  refine ⟨fun _ => ⟨⟨_, ((Kp.refl _ _ _).alloc (Nat.le_refl _) _).drew⟩, rfl⟩, _, rfl, ?_⟩
  go_wp2_with fail
  refine ⟨fun h => absurd rfl h, ?_⟩
  unfold wpFin
  go_wp2_with fail
  obtain ⟨W2, hW2⟩ : ∃ W2, (W1.alloc (.cells #[.slice odL d.p.L.length cdL, .slice odK d.p.K.length cdK] 165)).drew = W2 := ⟨_, rfl⟩
  rw [hW2]
  have hb2 : Below W1.heap.size W1 W2 := by rw [← hW2]; exact ((Below.refl _ _).alloc (Nat.le_refl _) _).drew
  have q2 : W2.heap[W1.heap.size]? = some (.cells #[.slice odL d.p.L.length cdL, .slice odK d.p.K.length cdK] 165 (0, 0)) := by rw [← hW2]; exact heap_alloc_new W1 _
  have hbw := HB.out.trans (hb2.mono HB.out.size)
  clear hW2 hG hGn cp' c0' c1' d2 d5 d6
  refine (joined_any _ _ _ _ d.p.L mp.L d.p.K mp.K W2 (hdL ▸ hnd.pc.L.below hbw) (hdK ▸ hnd.pc.K.below hbw) (hq.L.below hbw) (hq.K.below hbw) hdp.1 hdp.2 hqs.1 hqs.2).mono ?_
  rintro e W3 ⟨vJ, vJK, rfl, jL, jK, fL, fK, hb3⟩
  obtain ⟨oJ, cJ, rfl, _, _⟩ := jL.form
  obtain ⟨oJK, cJK, rfl, _, _⟩ := jK.form
  have q2' := (hb3.block _ (lt_of_heap q2)).trans q2
  obtain ⟨e3, _⟩ := row_facts q2'
  have x0 := e3 0
  have x1 := e3 1
  simp only [List.getElem?_toArray, List.getElem?_cons_zero, List.getElem?_cons_succ] at x0 x1
  have hl3 := lt_of_heap q2'
  have hbw3 := hbw.trans (hb3.mono hbw.size)
  have HB2 := hide hb2
  have HB3 := hide hb3
  have HBW := hide hbw3
  clear e3 hb2 hb3 hbw hbw3 q2 q2'
  go_wp2_with fail
  obtain ⟨W4, hW4⟩ : ∃ W4, W3.alloc (.cells #[.slice oJ (joinL d.p.L d.p.K mp.L mp.K).length cJ, .slice oJK (joinK d.p.K mp.K).length cJK] 165) = W4 := ⟨_, rfl⟩
  rw [hW4]
  have hb4 : Below W3.heap.size W3 W4 := by rw [← hW4]; exact (Below.refl _ _).alloc (Nat.le_refl _) _
  have hbw4 := HBW.out.trans (hb4.mono HBW.out.size)
  clear hW4
  refine (same_any _ _ _ _ d.p.L (joinL d.p.L d.p.K mp.L mp.K) d.p.K (joinK d.p.K mp.K) W4 (hdL ▸ hnd.pc.L.below hbw4) (hdK ▸ hnd.pc.K.below hbw4) (jL.below hb4) (jK.below hb4) hdp.1 hdp.2).mono ?_
  rintro e W5 ⟨rfl, hb5⟩
  have hbw5 := hbw4.trans (hb5.mono hbw4.size)
  have hN : w.heap.size + 1 + 1 ≤ W2.heap.size := by have := HB2.out.size; have := HS1.out; omega
  have hN3 := HB3.out.size
  have hN4 := hb4.size
  have keep : ∀ b, b < W1.heap.size → W5.heap[b]? = W1.heap[b]? := fun b hb => by
    have h1 := HB2.out.size
    exact (hb5.block b (by omega)).trans ((hb4.block b (by omega)).trans ((HB3.out.block b (by omega)).trans (HB2.out.block b hb)))
  have q0 := (keep _ hwl).trans H0.out
  have q1 := (keep (w.heap.size + 1) (by have := HS1.out; omega)).trans H1.out
  obtain ⟨e0, _⟩ := row_facts q0
  have d1 := e0 1
  have d2 := e0 2
  have d3 := e0 3
  have d5 := e0 5
  have d6 := e0 6
  simp only [List.getElem?_toArray, List.getElem?_cons_zero, List.getElem?_cons_succ] at d1 d2 d3 d5 d6
  obtain ⟨e9, f9⟩ := row_facts q1
  have HBW5 := hide hbw5
  have HK := hide keep
  clear HBW HB2 HB3 hb4 hbw4 hb5 hbw5 keep e0 hN3 hN4 H0 H1 HB
  have hdec : decide (d.p.L = joinL d.p.L d.p.K mp.L mp.K ∧ d.p.K = joinK d.p.K mp.K) = true := by
    have a1 := congrArg Pc.L he
    have a2 := congrArg Pc.K he
    exact decide_eq_true ⟨a1.symm, a2.symm⟩
  rw [hdec]
  clear hdec he
  go_wp2_with fail
  refine bodyPost_ret (v := ackV ⟨mk, mf, mt, mn, mx, .slice none 0 0, .slice none 0 0, mp⟩) (by simp [results, Tryz.results143, go_sem, e9]) rfl ⟨rfl, ?_⟩
  exact ((((((HBW5.out.setCell (p := ⟨w.heap.size + 1, 0, none⟩) (by simp) _).setCell (p := ⟨w.heap.size + 1, 1, none⟩) (by simp) _).setCell (p := ⟨w.heap.size + 1, 2, none⟩) (by simp) _).setCell (p := ⟨w.heap.size + 1, 3, none⟩) (by simp) _).setCell (p := ⟨w.heap.size + 1, 4, none⟩) (by simp) _).setCell (p := ⟨w.heap.size + 1, 5, none⟩) (by simp) _).setCell (p := ⟨w.heap.size + 1, 6, none⟩) (by simp) _

set_option maxHeartbeats 1000000 in
set_option maxRecDepth 100000 in
theorem come_news (w : World) (S : Nat → Prop) (p : Nat) (vN : Value) (ns : List NS) (vF : Value) (ms : List MS) (adds : Nat) (h : RefR w S p vN ns vF ms adds) (m : MS) (hq : PieceR w S m.vL m.vK m.p) (d : NS) (hd : ns[m.to]? = some d) (hdp : SmallP d.p) (hqs : SmallP m.p) (he : joinP d.p m.p ≠ d.p) (hc : d.count ≤ 1000000000) (hk : d.kept.length ≤ 1000000000) :
    Calls Tryz.prog 143 #[ptr p, msV m] w fun e w' => e = .returned (ackV m) ∧ (∃ ns', RefR w' (Ext S w w') p vN ns' vF ms adds ∧ ns'.map NS.m = (ns.map NS.m).set m.to (newsM d.m m.p)) ∧ Kp w.heap.size S w w' := by
  obtain ⟨mk, mf, mt, mn, mx, vL, vK, mp⟩ := m
  dsimp only [msV, ackV] at hq hd hqs he ⊢
  obtain ⟨g, c, rfl, hSg, hg, hgp, hcell, hfz⟩ := h.at hd
  have hnd := h.node d (List.mem_of_getElem? hd)
  have hi : mt < ns.length := (List.getElem?_eq_some_iff.1 hd).1
  obtain ⟨e1, _⟩ := row_facts h.self
  have hplt : p < w.heap.size := lt_of_heap h.self
  have cp := e1 0
  have c0 := hcell 0 (by decide)
  have c1 := hcell 1 (by decide)
  simp only [nsC, List.getElem?_cons_zero, List.getElem?_cons_succ, Nat.add_zero, List.getElem?_toArray] at c0 c1 cp
  obtain ⟨odL, cdL, hdL, _, _⟩ := hnd.pc.L.form
  obtain ⟨odK, cdK, hdK, _, _⟩ := hnd.pc.K.form
  rw [hdL] at c0
  rw [hdK] at c1
  obtain ⟨oL, cL, rfl, _, _⟩ := hq.L.form
  obtain ⟨oK, cK, rfl, _, _⟩ := hq.K.form
  obtain ⟨W1, hW1⟩ : ∃ W1, (w.alloc (.cells #[.int .i64 mk, .int .i64 mf, .int .i64 mt, .int .i64 mn, strV mx, .slice oL mp.L.length cL, .slice oK mp.K.length cK] 198)).alloc (.cells #[.int .i64 0, .int .i64 0, .int .i64 0, .int .i64 0, .string ⟨#[]⟩, .slice none 0 0, .slice none 0 0] 198) = W1 := ⟨_, rfl⟩
  have hb1 : Below w.heap.size w W1 := by rw [← hW1]; exact below2 w _ _
  have q0 : W1.heap[w.heap.size]? = some (.cells #[.int .i64 mk, .int .i64 mf, .int .i64 mt, .int .i64 mn, strV mx, .slice oL mp.L.length cL, .slice oK mp.K.length cK] 198 (0, 0)) := by rw [← hW1]; exact alloc_at (heap_alloc_new w _) _
  have q1 : W1.heap[w.heap.size + 1]? = some (.cells #[.int .i64 0, .int .i64 0, .int .i64 0, .int .i64 0, .string ⟨#[]⟩, .slice none 0 0, .slice none 0 0] 198 (0, 0)) := by
    rw [← hW1]
    have := heap_alloc_new (w.alloc (.cells #[.int .i64 mk, .int .i64 mf, .int .i64 mt, .int .i64 mn, strV mx, .slice oL mp.L.length cL, .slice oK mp.K.length cK] 198)) (.cells #[.int .i64 0, .int .i64 0, .int .i64 0, .int .i64 0, .string ⟨#[]⟩, .slice none 0 0, .slice none 0 0] 198)
    rw [World.size_alloc] at this
    exact this
  have hs1 : W1.heap.size = w.heap.size + 1 + 1 := by rw [← hW1]; simp
  obtain ⟨e0, _⟩ := row_facts q0
  have d2 := e0 2
  have d5 := e0 5
  have d6 := e0 6
  simp only [List.getElem?_toArray, List.getElem?_cons_zero, List.getElem?_cons_succ] at d2 d5 d6
  have cp' := (hb1.cell (p := ⟨p, 0, none⟩) hplt).trans cp
  have c0' := (hb1.cell (p := ⟨g, mt * 6, none⟩) hg).trans c0
  have c1' := (hb1.cell (p := ⟨g, mt * 6 + 1, none⟩) hg).trans c1
  have hwl : w.heap.size < W1.heap.size := lt_of_heap q0
  have lp : p < W1.heap.size := by omega
  have lg : g < W1.heap.size := by omega
  have HS1 := hide hs1
  have HB := hide hb1
  have H0 := hide q0
  have H1 := hide q1
  clear hcell e1 e0 hb1 cp c0 c1 q0 q1 hs1
  have s1 : ∀ b, ¬ NoS b := fun b h => h
  go_enter Tryz.func143, Tryz.ntmps143
  go_wp2_with fail
  clear hW1
  have hG := GrS.cell W1 NoS
  have hGn := GrS.some W1 NoS
  refine wp_region_flt [0, 1, 2, 3, 4, 5, 6, 7, 8, 9] [10, 11] (fun w' => ∃ x : GrS W1 NoS, w' = x.w) (by kernel_rfl) (by kernel_rfl) (fun _ _ d _ _ h => by cases d <;> exact h) ⟨⟨W1.drew, (Kp.refl _ _ _).drew⟩, rfl⟩ ?_
  simp only [pickOps, List.getElem?_cons_zero, List.getElem?_cons_succ]
  repeat (go_big_quiet_step (fail))
  refine wpQuiet_nil ?_
  refine ⟨_, rfl, ?_⟩
  go_wp2_with fail
  refine ⟨fun _ => ⟨⟨_, ((Kp.refl _ _ _).alloc (Nat.le_refl _) _).drew⟩, rfl⟩, _, rfl, ?_⟩
  go_wp2_with fail
  refine ⟨fun h => absurd rfl h, ?_⟩
  unfold wpFin
  go_wp2_with fail
  obtain ⟨W2, hW2⟩ : ∃ W2, (W1.alloc (.cells #[.slice odL d.p.L.length cdL, .slice odK d.p.K.length cdK] 165)).drew = W2 := ⟨_, rfl⟩
  rw [hW2]
  have hb2 : Below W1.heap.size W1 W2 := by rw [← hW2]; exact ((Below.refl _ _).alloc (Nat.le_refl _) _).drew
  have q2 : W2.heap[W1.heap.size]? = some (.cells #[.slice odL d.p.L.length cdL, .slice odK d.p.K.length cdK] 165 (0, 0)) := by rw [← hW2]; exact heap_alloc_new W1 _
  have hbw := HB.out.trans (hb2.mono HB.out.size)
  clear hW2 hG hGn cp' c0' c1' d2 d5 d6
  refine (joined_any _ _ _ _ d.p.L mp.L d.p.K mp.K W2 (hdL ▸ hnd.pc.L.below hbw) (hdK ▸ hnd.pc.K.below hbw) (hq.L.below hbw) (hq.K.below hbw) hdp.1 hdp.2 hqs.1 hqs.2).mono ?_
  rintro e W3 ⟨vJ, vJK, rfl, jL, jK, fL, fK, hb3⟩
  obtain ⟨oJ, cJ, rfl, _, _⟩ := jL.form
  obtain ⟨oJK, cJK, rfl, _, _⟩ := jK.form
  have q2' := (hb3.block _ (lt_of_heap q2)).trans q2
  obtain ⟨e3, _⟩ := row_facts q2'
  have x0 := e3 0
  have x1 := e3 1
  simp only [List.getElem?_toArray, List.getElem?_cons_zero, List.getElem?_cons_succ] at x0 x1
  have hl3 := lt_of_heap q2'
  have hbw3 := hbw.trans (hb3.mono hbw.size)
  have HB2 := hide hb2
  have HB3 := hide hb3
  have HBW := hide hbw3
  clear e3 hb2 hb3 hbw hbw3 q2 q2'
  go_wp2_with fail
  obtain ⟨W4, hW4⟩ : ∃ W4, W3.alloc (.cells #[.slice oJ (joinL d.p.L d.p.K mp.L mp.K).length cJ, .slice oJK (joinK d.p.K mp.K).length cJK] 165) = W4 := ⟨_, rfl⟩
  rw [hW4]
  have hb4 : Below W3.heap.size W3 W4 := by rw [← hW4]; exact (Below.refl _ _).alloc (Nat.le_refl _) _
  have hbw4 := HBW.out.trans (hb4.mono HBW.out.size)
  clear hW4
  refine (same_any _ _ _ _ d.p.L (joinL d.p.L d.p.K mp.L mp.K) d.p.K (joinK d.p.K mp.K) W4 (hdL ▸ hnd.pc.L.below hbw4) (hdK ▸ hnd.pc.K.below hbw4) (jL.below hb4) (jK.below hb4) hdp.1 hdp.2).mono ?_
  rintro e W5 ⟨rfl, hb5⟩
  have hbw5 := hbw4.trans (hb5.mono hbw4.size)
  have hN : w.heap.size + 1 + 1 ≤ W2.heap.size := by have := HB2.out.size; have := HS1.out; omega
  have hN3 := HB3.out.size
  have hN4 := hb4.size
  have keep : ∀ b, b < W1.heap.size → W5.heap[b]? = W1.heap[b]? := fun b hb => by
    have h1 := HB2.out.size
    exact (hb5.block b (by omega)).trans ((hb4.block b (by omega)).trans ((HB3.out.block b (by omega)).trans (HB2.out.block b hb)))
  have q0 := (keep _ hwl).trans H0.out
  have q1 := (keep (w.heap.size + 1) (by have := HS1.out; omega)).trans H1.out
  obtain ⟨e0, _⟩ := row_facts q0
  have d1 := e0 1
  have d2 := e0 2
  have d3 := e0 3
  have d5 := e0 5
  have d6 := e0 6
  simp only [List.getElem?_toArray, List.getElem?_cons_zero, List.getElem?_cons_succ] at d1 d2 d3 d5 d6
  obtain ⟨e9, f9⟩ := row_facts q1
  have HBW5 := hide hbw5
  have HK := hide keep
  clear HBW HB2 HB3 hb4 hbw4 hb5 hbw5 keep e0 hN3 hN4 H0 H1 HB
  have hdec : decide (d.p.L = joinL d.p.L d.p.K mp.L mp.K ∧ d.p.K = joinK d.p.K mp.K) = false := by
    refine decide_eq_false fun e => he ?_
    rw [joinP, ← e.1, ← e.2]
  rw [hdec]
  clear hdec he e9 f9
  go_wp2_with fail
  refine (news_any W5 S p _ ns vF ms adds (h.below HBW5.out) mt d hd _ _ mp (hq.below HBW5.out) hdp hqs hc hk).mono ?_
  rintro e W6 ⟨rfl, ⟨vL', vK', vKept', hR⟩, hK⟩
  have hw5 := HBW5.out.size
  have l0 := lt_of_heap q0
  have l1 := lt_of_heap q1
  have n0 : ¬ S w.heap.size := fun hx => by have := h.lt _ hx; omega
  have n1 : ¬ S (w.heap.size + 1) := fun hx => by have := h.lt _ hx; omega
  have q0' := (hK.block _ l0 n0).trans q0
  have q1' := (hK.block _ l1 n1).trans q1
  clear d1 d2 d3 d5 d6
  obtain ⟨e0, _⟩ := row_facts q0'
  have d1 := e0 1
  have d2 := e0 2
  have d3 := e0 3
  simp only [List.getElem?_toArray, List.getElem?_cons_zero, List.getElem?_cons_succ] at d1 d2 d3
  obtain ⟨e9, f9⟩ := row_facts q1'
  have HR := hide hR
  have HKp := hide hK
  clear hR hK e0 q0 q1
  go_wp2_with fail
  obtain ⟨W7, hW7⟩ : ∃ W7, W7 = (((((((W6.setCell ⟨w.heap.size + 1, 0, none⟩ (.int .i64 2)).setCell ⟨w.heap.size + 1, 1, none⟩ (.int .i64 mt)).setCell ⟨w.heap.size + 1, 2, none⟩ (.int .i64 mf)).setCell ⟨w.heap.size + 1, 3, none⟩ (.int .i64 mn)).setCell ⟨w.heap.size + 1, 4, none⟩ (.string ⟨#[]⟩)).setCell ⟨w.heap.size + 1, 5, none⟩ (.slice none 0 0)).setCell ⟨w.heap.size + 1, 6, none⟩ (.slice none 0 0)) := ⟨_, rfl⟩
  have kpS : Kp W6.heap.size (fun b => b = w.heap.size + 1) W6 W7 := by
    rw [hW7]
    exact ((((((Kp.set1 W6 (w.heap.size + 1) 0 _).setCell (p := ⟨w.heap.size + 1, 1, none⟩) (Or.inr rfl) _).setCell (p := ⟨w.heap.size + 1, 2, none⟩) (Or.inr rfl) _).setCell (p := ⟨w.heap.size + 1, 3, none⟩) (Or.inr rfl) _).setCell (p := ⟨w.heap.size + 1, 4, none⟩) (Or.inr rfl) _).setCell (p := ⟨w.heap.size + 1, 5, none⟩) (Or.inr rfl) _).setCell (p := ⟨w.heap.size + 1, 6, none⟩) (Or.inr rfl) _
  have hsz := HKp.out.size
  have hs7 := kpS.size
  have off : Off (Ext S W5 W6) W6.heap.size (fun b => b = w.heap.size + 1) := fun b hx => by
    rcases hx with x | x
    · exact ⟨by have := h.lt b x; omega, by have := h.lt b x; omega⟩
    · exact ⟨x.2, by omega⟩
  have fin := HR.out.kp kpS off
  have kpf : Kp w.heap.size S w W7 := ((Kp.ofBelow HBW5.out).trans (HKp.out.mono hw5 fun _ _ x => x)).trans ⟨kpS.os, kpS.tape, kpS.output, kpS.size, fun b hb _ => kpS.block b (by omega) (by omega)⟩
  refine bodyPost_ret (v := ackV ⟨mk, mf, mt, mn, mx, .slice none 0 0, .slice none 0 0, mp⟩) (by simp [results, Tryz.results143, go_sem, e9]) rfl ⟨rfl, ?_⟩
  rw [← hW7]
  refine ⟨⟨_, fin.mono (fun b hx => ?_) (fun b hx => ?_), ?_⟩, kpf⟩
  · rcases hx with x | x
    · exact Or.inl x
    · exact Or.inr ⟨by omega, by omega⟩
  · rcases hx with x | x
    · have := h.lt b x; omega
    · exact x.2
  · rw [List.map_set]
    simp [NS.m, newsM, KS.m]
end Go.Proofs.YtnniimfinakioaaGreatDoor
namespace Go.Proofs.YtnniimfinakioaaGreatDoor
open Go.RowKit
attribute [local go_sem ↓] eqTok eqEnt
attribute [local go_sem] toList_nm app_nm size_nm

def flyL {α : Type} (l : List α) (m : α) : List α := if l.length < 40 then l ++ [m] else l
def comeN (d : Nd) (q : Pc) : Nd := if joinL d.p.L d.p.K q.L q.K = d.p.L ∧ joinK d.p.K q.K = d.p.K then d else newsM d q
def ackN (d : Nd) (frm n : Nat) : Nd := if d.acked.getD frm 0 < n then { d with acked := d.acked.set frm n } else d
def ackMS (m : MS) : MS := ⟨2, m.to, m.frm, m.number, [], .slice none 0 0, .slice none 0 0, ⟨[], []⟩⟩

theorem set_self {α : Type} {l : List α} {i : Nat} {a : α} (h : l[i]? = some a) : l.set i a = l := by
  apply List.ext_getElem?
  intro j
  rw [List.getElem?_set]
  split
  · rename_i e
    subst e
    split
    · exact h.symm
    · rename_i hn
      rw [List.getElem?_eq_none (by omega)]
  · rfl

theorem fly_any (w : World) (S : Nat → Prop) (p : Nat) (vN : Value) (ns : List NS) (vF : Value) (ms : List MS) (adds : Nat) (h : RefR w S p vN ns vF ms adds) (m : MS) (hq : PieceR w S m.vL m.vK m.p) (hl : ms.length ≤ 1000) :
    Calls Tryz.prog 140 #[ptr p, msV m] w fun e w' => e = .returned (.tuple #[]) ∧ (∃ vF', RefR w' (Ext S w w') p vN ns vF' (flyL ms m) adds) ∧ Kp w.heap.size S w w' := by
  by_cases hlt : ms.length < 40
  · simp only [flyL, if_pos hlt]
    exact fly_yes w S p vN ns vF ms adds h m hq hlt
  · simp only [flyL, if_neg hlt]
    refine (fly_no w S p vN ns vF ms adds h m (by omega) hl).mono ?_
    rintro e w' ⟨rfl, hb⟩
    exact ⟨rfl, ⟨_, (h.below hb).ext h.lt hb.size⟩, Kp.ofBelow hb⟩

theorem acked_any (w : World) (S : Nat → Prop) (p : Nat) (vN : Value) (ns : List NS) (vF : Value) (ms : List MS) (adds : Nat) (h : RefR w S p vN ns vF ms adds) (m : MS) (d : NS) (hd : ns[m.to]? = some d) (hf : m.frm < d.acked.length) :
    Calls Tryz.prog 142 #[ptr p, msV m] w fun e w' => e = .returned (.tuple #[]) ∧ (∃ ns', RefR w' (Ext S w w') p vN ns' vF ms adds ∧ ns'.map NS.m = (ns.map NS.m).set m.to (ackN d.m m.frm m.number)) ∧ Kp w.heap.size S w w' := by
  obtain ⟨a, ha⟩ := get_some hf
  have hg : d.m.acked.getD m.frm 0 = a := by simp [NS.m, List.getD, ha]
  have hm : (ns.map NS.m)[m.to]? = some d.m := by simp [hd]
  by_cases hlt : a < m.number
  · refine (acked_yes w S p vN ns vF ms adds h m d hd a ha hlt).mono ?_
    rintro e w' ⟨rfl, hR, hK⟩
    refine ⟨rfl, ⟨_, hR.ext h.lt hK.size, ?_⟩, hK⟩
    rw [List.map_set, ackN, hg, if_pos hlt]
    rfl
  · refine (acked_no w S p vN ns vF ms adds h m d hd a ha (by omega)).mono ?_
    rintro e w' ⟨rfl, hb⟩
    refine ⟨rfl, ⟨_, (h.below hb).ext h.lt hb.size, ?_⟩, Kp.ofBelow hb⟩
    rw [ackN, hg, if_neg hlt, set_self hm]

theorem come_any (w : World) (S : Nat → Prop) (p : Nat) (vN : Value) (ns : List NS) (vF : Value) (ms : List MS) (adds : Nat) (h : RefR w S p vN ns vF ms adds) (m : MS) (hq : PieceR w S m.vL m.vK m.p) (d : NS) (hd : ns[m.to]? = some d) (hdp : SmallP d.p) (hqs : SmallP m.p) (hc : d.count ≤ 1000000000) (hk : d.kept.length ≤ 1000000000) :
    Calls Tryz.prog 143 #[ptr p, msV m] w fun e w' => e = .returned (ackV m) ∧ (∃ ns', RefR w' (Ext S w w') p vN ns' vF ms adds ∧ ns'.map NS.m = (ns.map NS.m).set m.to (comeN d.m m.p)) ∧ Kp w.heap.size S w w' := by
  have hm : (ns.map NS.m)[m.to]? = some d.m := by simp [hd]
  by_cases he : joinL d.p.L d.p.K m.p.L m.p.K = d.p.L ∧ joinK d.p.K m.p.K = d.p.K
  · have hc : comeN d.m m.p = d.m := if_pos he
    rw [hc, set_self hm]
    refine (come_same w S p vN ns vF ms adds h m hq d hd hdp hqs (by rw [joinP, he.1, he.2])).mono ?_
    rintro e w' ⟨rfl, hb⟩
    exact ⟨rfl, ⟨_, (h.below hb).ext h.lt hb.size, rfl⟩, Kp.ofBelow hb⟩
  · have hc' : comeN d.m m.p = newsM d.m m.p := if_neg he
    rw [hc']
    exact come_news w S p vN ns vF ms adds h m hq d hd hdp hqs (fun e => he ⟨congrArg Pc.L e, congrArg Pc.K e⟩) hc hk

section
variable (w : World) (S : Nat → Prop) (p : Nat) (vN : Value) (ns : List NS) (vF : Value) (ms : List MS) (adds : Nat) (h : RefR w S p vN ns vF ms adds)
include h

set_option maxHeartbeats 1000000 in
set_option maxRecDepth 100000 in
theorem send_arg (hl : ns.length ≤ 1000) (a b : Int) (hx : (a < 0 ∨ (ns.length : Int) ≤ a) ∨ (b < 0 ∨ (ns.length : Int) ≤ b) ∨ a = b) :
    Calls Tryz.prog 110 #[ptr p, .int .i64 a, .int .i64 b] w fun e w' => e = .returned (err 1) ∧ Below w.heap.size w w' := by
  by_cases ha : a < 0 ∨ (ns.length : Int) ≤ a
  · by_cases hb : b < 0 ∨ (ns.length : Int) ≤ b
    · go_enter Tryz.func110, Tryz.ntmps110
      go_wp2_with fail
      refine (is_no w S p vN ns vF ms adds h a ha hl).mono ?_
      rintro e w' ⟨rfl, rfl⟩
      go_wp2_with fail
      refine (is_no w S p vN ns vF ms adds h b hb hl).mono ?_
      rintro e w' ⟨rfl, rfl⟩
      go_wp2_with fail
      go_ret
      exact ⟨rfl, Below.refl _ _⟩
    · obtain ⟨j, rfl⟩ : ∃ j : Nat, b = j := ⟨b.toNat, by omega⟩
      go_enter Tryz.func110, Tryz.ntmps110
      go_wp2_with fail
      refine (is_no w S p vN ns vF ms adds h a ha hl).mono ?_
      rintro e w' ⟨rfl, rfl⟩
      go_wp2_with fail
      refine (is_yes w S p vN ns vF ms adds h j (by omega) hl).mono ?_
      rintro e w' ⟨rfl, rfl⟩
      go_wp2_with fail
      go_ret
      exact ⟨rfl, Below.refl _ _⟩
  · obtain ⟨i, rfl⟩ : ∃ i : Nat, a = i := ⟨a.toNat, by omega⟩
    by_cases hb : b < 0 ∨ (ns.length : Int) ≤ b
    · go_enter Tryz.func110, Tryz.ntmps110
      go_wp2_with fail
      refine (is_yes w S p vN ns vF ms adds h i (by omega) hl).mono ?_
      rintro e w' ⟨rfl, rfl⟩
      go_wp2_with fail
      refine (is_no w S p vN ns vF ms adds h b hb hl).mono ?_
      rintro e w' ⟨rfl, rfl⟩
      go_wp2_with fail
      go_ret
      exact ⟨rfl, Below.refl _ _⟩
    · have e : (i : Int) = b := by omega
      subst e
      have hi : i < ns.length := by omega
      clear hx ha hb
      go_enter Tryz.func110, Tryz.ntmps110
      go_wp2_with fail
      refine (is_yes w S p vN ns vF ms adds h i hi hl).mono ?_
      rintro e w' ⟨rfl, rfl⟩
      go_wp2_with fail
      refine (is_yes w S p vN ns vF ms adds h i hi hl).mono ?_
      rintro e w' ⟨rfl, rfl⟩
      go_wp2_with fail
      go_ret
      exact ⟨rfl, Below.refl _ _⟩


set_option maxHeartbeats 1000000 in
set_option maxRecDepth 100000 in
theorem send_none (hl : ns.length ≤ 1000) (i j : Nat) (hj : j < ns.length) (hne : i ≠ j) (d : NS) (hd : ns[i]? = some d) (a : Nat) (ha : d.acked[j]? = some a) (hlt : d.count ≤ a) :
    Calls Tryz.prog 110 #[ptr p, .int .i64 i, .int .i64 j] w fun e w' => e = .returned (err 3) ∧ Below w.heap.size w w' := by
  have hne' : ((i : Int) == (j : Int)) = false := by
    rw [beq_eq_false_iff_ne]
    omega
  have hi : i < ns.length := (List.getElem?_eq_some_iff.1 hd).1
  have HN := hide hne
  clear hne
  go_enter Tryz.func110, Tryz.ntmps110
  go_wp2_with fail
  refine (is_yes w S p vN ns vF ms adds h i hi hl).mono ?_
  rintro e w' ⟨rfl, rfl⟩
  go_wp2_with fail
  refine (is_yes w S p vN ns vF ms adds h j hj hl).mono ?_
  rintro e w' ⟨rfl, rfl⟩
  go_wp2_with fail
  refine (message_no w S p vN ns vF ms adds h i j d hd a ha hlt).mono ?_
  rintro e w' ⟨rfl, hb⟩
  go_wp2_with fail
  go_ret
  exact ⟨rfl, hb.alloc hb.size _⟩

set_option maxHeartbeats 1000000 in
set_option maxRecDepth 100000 in
theorem send_ok (hl : ns.length ≤ 1000) (hml : ms.length ≤ 1000) (i j : Nat) (hj : j < ns.length) (hne : i ≠ j) (d : NS) (hd : ns[i]? = some d) (a : Nat) (ha : d.acked[j]? = some a) (hlt : a < d.count)
    (hk : d.kept.length ≤ 1000000) (hks : ∀ x ∈ d.kept, SmallP x.p ∧ x.n ≤ 1000000) (hsm : ∀ k, SmallP ((d.kept.take k).foldl (stepS a) ⟨[], []⟩)) (hok : SmallP (sendP d.m a) ∧ (∀ e ∈ (sendP d.m a).L, EntOk e) ∧ ∀ t ∈ (sendP d.m a).K, TokOk t) :
    Calls Tryz.prog 110 #[ptr p, .int .i64 i, .int .i64 j] w fun e w' => e = .returned (err 0) ∧ (∃ vF' ms', RefR w' (Ext S w w') p vN ns vF' ms' adds ∧ ms'.map MS.m = flyL (ms.map MS.m) ⟨1, i, j, d.count, pieceT (sendP d.m a).L (sendP d.m a).K, sendP d.m a⟩) ∧ Kp w.heap.size S w w' := by
  have hne' : ((i : Int) == (j : Int)) = false := by
    rw [beq_eq_false_iff_ne]
    omega
  have hi : i < ns.length := (List.getElem?_eq_some_iff.1 hd).1
  have HN := hide hne
  clear hne
  go_enter Tryz.func110, Tryz.ntmps110
  go_wp2_with fail
  refine (is_yes w S p vN ns vF ms adds h i hi hl).mono ?_
  rintro e w' ⟨rfl, rfl⟩
  go_wp2_with fail
  refine (is_yes w S p vN ns vF ms adds h j hj hl).mono ?_
  rintro e w' ⟨rfl, rfl⟩
  go_wp2_with fail
  refine (message_yes w S p vN ns vF ms adds h i j d hd a ha hlt hk hks hsm hok).mono ?_
  rintro e w1 ⟨vL, vK, rfl, hP, hb⟩
  obtain ⟨oL, cL, rfl, _, _⟩ := hP.L.form
  obtain ⟨oK, cK, rfl, _, _⟩ := hP.K.form
  obtain ⟨TX, hTX⟩ : ∃ TX, pieceT (sendP d.m a).L (sendP d.m a).K = TX := ⟨_, rfl⟩
  obtain ⟨Q, hQ⟩ : ∃ Q, sendP d.m a = Q := ⟨_, rfl⟩
  rw [hTX]
  rw [hQ] at hP ⊢
  have HQ := hide hQ
  have HT := hide hTX
  clear hQ hTX hok
  go_wp2_with fail
  have hb2 : Below w.heap.size w (w1.alloc (.cells #[.int .i64 1, .int .i64 i, .int .i64 j, .int .i64 d.count, strV TX, .slice oL Q.L.length cL, .slice oK Q.K.length cK] 198)) := hb.alloc hb.size _
  have hb3 : Below w1.heap.size w1 (w1.alloc (.cells #[.int .i64 1, .int .i64 i, .int .i64 j, .int .i64 d.count, strV TX, .slice oL Q.L.length cL, .slice oK Q.K.length cK] 198)) := (Below.refl _ _).alloc (Nat.le_refl _) _
  have hS2 := hb3.size
  have hRx := (h.below hb2).ext h.lt hb2.size
  have hPx := (hP.below hb3).mono (S' := Ext S w (w1.alloc (.cells #[.int .i64 1, .int .i64 i, .int .i64 j, .int .i64 d.count, strV TX, .slice oL Q.L.length cL, .slice oK Q.K.length cK] 198))) (fun b hx => by
    rcases hx with x | x
    · exact Or.inl x
    · exact Or.inr ⟨x.1, by omega⟩)
  refine (fly_any _ _ p vN ns vF ms adds hRx ⟨1, i, j, d.count, TX, .slice oL Q.L.length cL, .slice oK Q.K.length cK, Q⟩ hPx hml).mono ?_
  rintro e w2 ⟨rfl, ⟨vF', hR⟩, hK⟩
  go_wp2_with fail
  go_ret
  refine ⟨rfl, ⟨vF', _, hR.mono (fun b hx => Ext.trans hx hb2.size hK.size) (fun b hx => ?_), ?_⟩, hK.under (Kp.ofBelow hb2)⟩
  · rcases hx with x | x
    · exact Nat.lt_of_lt_of_le (h.lt b x) (Nat.le_trans hb2.size hK.size)
    · exact x.2
  · simp only [flyL, List.length_map]
    rw [HT.out, HQ.out]
    split <;> simp [MS.m]
set_option maxHeartbeats 1000000 in
set_option maxRecDepth 100000 in
theorem drop_no (hl : ms.length ≤ 1000) (i : Int) (hi : i < 0 ∨ (ms.length : Int) ≤ i) :
    Calls Tryz.prog 112 #[ptr p, .int .i64 i] w fun e w' => e = .returned (err 3) ∧ Below w.heap.size w w' := by
  go_enter Tryz.func112, Tryz.ntmps112
  go_wp2_with fail
  refine (taken_no w S p vN ns vF ms adds h i hi hl).mono ?_
  rintro e w' ⟨rfl, hb⟩
  go_wp2_with fail
  go_ret
  exact ⟨rfl, hb.alloc hb.size _⟩

set_option maxHeartbeats 1000000 in
set_option maxRecDepth 100000 in
theorem deliver_no (hl : ms.length ≤ 1000) (i : Int) (hi : i < 0 ∨ (ms.length : Int) ≤ i) :
    Calls Tryz.prog 111 #[ptr p, .int .i64 i] w fun e w' => e = .returned (err 3) ∧ Below w.heap.size w w' := by
  go_enter Tryz.func111, Tryz.ntmps111
  go_wp2_with fail
  refine (taken_no w S p vN ns vF ms adds h i hi hl).mono ?_
  rintro e w' ⟨rfl, hb⟩
  go_wp2_with fail
  go_ret
  exact ⟨rfl, hb.alloc hb.size _⟩


set_option maxHeartbeats 1000000 in
set_option maxRecDepth 100000 in
theorem drop_ok (hl : ms.length ≤ 1000) (i : Nat) (m : MS) (hm : ms[i]? = some m) :
    Calls Tryz.prog 112 #[ptr p, .int .i64 i] w fun e w' => e = .returned (err 0) ∧ (∃ vF', RefR w' (Ext S w w') p vN ns vF' (ms.take i ++ ms.drop (i + 1)) adds) ∧ Kp w.heap.size S w w' := by
  obtain ⟨mk, mf, mt, mn, mx, vL, vK, mp⟩ := m
  have hpc := h.fly.piece _ (List.mem_of_getElem? hm)
  dsimp only [msV] at *
  obtain ⟨oL, cL, rfl, _, _⟩ := hpc.L.form
  obtain ⟨oK, cK, rfl, _, _⟩ := hpc.K.form
  go_enter Tryz.func112, Tryz.ntmps112
  go_wp2_with fail
  refine (taken_yes w S p vN ns vF ms adds h i _ hm hl).mono ?_
  rintro e w1 ⟨rfl, ⟨vF1, hR⟩, hP, hK⟩
  dsimp only [msV] at *
  obtain ⟨L1, hL1⟩ : ∃ L1, ms.take i ++ ms.drop (i + 1) = L1 := ⟨_, rfl⟩
  rw [hL1] at hR
  have HL1 := hide hL1
  clear hL1
  go_wp2_with fail
  go_ret
  have hbA : Below w1.heap.size w1 (w1.alloc (.cells #[.int .i64 mk, .int .i64 mf, .int .i64 mt, .int .i64 mn, strV mx, .slice oL mp.L.length cL, .slice oK mp.K.length cK] 198)) := (Below.refl _ _).alloc (Nat.le_refl _) _
  refine ⟨rfl, ⟨vF1, ?_⟩, hK.alloc hK.size _⟩
  rw [HL1.out]
  refine (hR.below hbA).mono (fun b hx => ?_) (fun b hx => ?_)
  · rcases hx with x | x
    · exact Or.inl x
    · exact Or.inr ⟨x.1, Nat.lt_of_lt_of_le x.2 hbA.size⟩
  · rcases hx with x | x
    · exact Nat.lt_of_lt_of_le (h.lt b x) (Nat.le_trans hK.size hbA.size)
    · exact x.2

set_option maxHeartbeats 1000000 in
set_option maxRecDepth 100000 in
theorem double_no (_hl : ms.length ≤ 1000) (i : Int) (hi : i < 0 ∨ (ms.length : Int) ≤ i) :
    Calls Tryz.prog 113 #[ptr p, .int .i64 i] w fun e w' => e = .returned (err 3) ∧ Below w.heap.size w w' := by
  obtain ⟨o, c, rfl, _, _⟩ := own_form h.fly.row
  obtain ⟨e1, f1⟩ := row_facts h.self
  have hp : p < w.heap.size := lt_of_heap h.self
  have c1 := e1 1
  simp only [List.getElem?_toArray, List.getElem?_cons_zero, List.getElem?_cons_succ] at c1
  clear e1 f1
  by_cases h0 : i < 0
  · have h0' : decide (i < 0) = true := by simp [h0]
    go_enter Tryz.func113, Tryz.ntmps113
    go_wp2_with fail
    go_ret
    exact ⟨rfl, Below.refl _ _⟩
  · have h0' : decide (i < 0) = false := by simp [h0]
    have h1' : decide ((ms.length : Int) ≤ i) = true := by simp; omega
    go_enter Tryz.func113, Tryz.ntmps113
    go_wp2_with fail
    go_ret
    exact ⟨rfl, Below.refl _ _⟩

set_option maxHeartbeats 1000000 in
set_option maxRecDepth 100000 in
theorem double_ok (hl : ms.length ≤ 1000) (i : Nat) (m : MS) (hm : ms[i]? = some m) :
    Calls Tryz.prog 113 #[ptr p, .int .i64 i] w fun e w' => e = .returned (err 0) ∧ (∃ vF', RefR w' (Ext S w w') p vN ns vF' (flyL ms m) adds) ∧ Kp w.heap.size S w w' := by
  have hi : i < ms.length := (List.getElem?_eq_some_iff.1 hm).1
  obtain ⟨mk, mf, mt, mn, mx, vL, vK, mp⟩ := m
  have hpc := h.fly.piece _ (List.mem_of_getElem? hm)
  dsimp only [msV] at *
  obtain ⟨oL, cL, rfl, _, _⟩ := hpc.L.form
  obtain ⟨oK, cK, rfl, _, _⟩ := hpc.K.form
  obtain ⟨o, c, rfl, hcc, hcm⟩ := own_form h.fly.row
  obtain ⟨g, rfl, hg, hcell⟩ := fly_at h.fly.row hm
  have c0 := hcell 0 (by decide)
  have c1 := hcell 1 (by decide)
  have c2 := hcell 2 (by decide)
  have c3 := hcell 3 (by decide)
  have c4 := hcell 4 (by decide)
  have c5 := hcell 5 (by decide)
  have c6 := hcell 6 (by decide)
  obtain ⟨e1, f1⟩ := row_facts h.self
  have hp : p < w.heap.size := lt_of_heap h.self
  have cp := e1 1
  simp only [msC, List.getElem?_cons_zero, List.getElem?_cons_succ, Nat.add_zero, List.getElem?_toArray] at c0 c1 c2 c3 c4 c5 c6 cp
  have hlo : decide ((i : Int) < 0) = false := by simp
  have hhi : decide ((ms.length : Int) ≤ (i : Int)) = false := by simp; omega
  clear e1 f1 hcell
  go_enter Tryz.func113, Tryz.ntmps113
  go_wp2_with fail
  refine (fly_any w S p vN ns _ ms adds h ⟨mk, mf, mt, mn, mx, .slice oL mp.L.length cL, .slice oK mp.K.length cK, mp⟩ hpc hl).mono ?_
  rintro e w' ⟨rfl, hR, hK⟩
  go_wp2_with fail
  go_ret
  exact ⟨rfl, hR, hK⟩
end
end Go.Proofs.YtnniimfinakioaaGreatDoor
namespace Go.Proofs.YtnniimfinakioaaGreatDoor
open Go.RowKit
attribute [local go_sem ↓] eqTok eqEnt
attribute [local go_sem] toList_nm app_nm size_nm

section
variable (w : World) (S : Nat → Prop) (p : Nat) (vN : Value) (ns : List NS) (vF : Value) (ms : List MS) (adds : Nat) (h : RefR w S p vN ns vF ms adds)
include h


set_option maxHeartbeats 1000000 in
set_option maxRecDepth 100000 in
theorem deliver_ack (hl : ms.length ≤ 1000) (i : Nat) (m : MS) (hm : ms[i]? = some m) (hk2 : m.kind = 2) (d : NS) (hd : ns[m.to]? = some d) (hf : m.frm < d.acked.length) :
    Calls Tryz.prog 111 #[ptr p, .int .i64 i] w fun e w' => e = .returned (err 0) ∧ (∃ vF' ns', RefR w' (Ext S w w') p vN ns' vF' (ms.take i ++ ms.drop (i + 1)) adds ∧ ns'.map NS.m = (ns.map NS.m).set m.to (ackN d.m m.frm m.number)) ∧ Kp w.heap.size S w w' := by
  obtain ⟨mk, mf, mt, mn, mx, vL, vK, mp⟩ := m
  have hpc := h.fly.piece _ (List.mem_of_getElem? hm)
  dsimp only [msV] at *
  obtain ⟨oL, cL, rfl, _, _⟩ := hpc.L.form
  obtain ⟨oK, cK, rfl, _, _⟩ := hpc.K.form
  go_enter Tryz.func111, Tryz.ntmps111
  go_wp2_with fail
  refine (taken_yes w S p vN ns vF ms adds h i _ hm hl).mono ?_
  rintro e w1 ⟨rfl, ⟨vF1, hR⟩, hP, hK⟩
  dsimp only [msV] at *
  obtain ⟨L1, hL1⟩ : ∃ L1, ms.take i ++ ms.drop (i + 1) = L1 := ⟨_, rfl⟩
  rw [hL1] at hR
  have hl1 : L1.length ≤ 1000 := by rw [← hL1]; simp; omega
  have HL1 := hide hL1
  clear hL1
  have hbA : Below w1.heap.size w1 (w1.alloc (.cells #[.int .i64 mk, .int .i64 mf, .int .i64 mt, .int .i64 mn, strV mx, .slice oL mp.L.length cL, .slice oK mp.K.length cK] 198)) := (Below.refl _ _).alloc (Nat.le_refl _) _
  have hRA := hR.below hbA
  have hPA := hP.below hbA
  have hKA : Kp w.heap.size S w (w1.alloc (.cells #[.int .i64 mk, .int .i64 mf, .int .i64 mt, .int .i64 mn, strV mx, .slice oL mp.L.length cL, .slice oK mp.K.length cK] 198)) := hK.alloc hK.size _
  obtain ⟨W2, hW2⟩ : ∃ W2, w1.alloc (.cells #[.int .i64 mk, .int .i64 mf, .int .i64 mt, .int .i64 mn, strV mx, .slice oL mp.L.length cL, .slice oK mp.K.length cK] 198) = W2 := ⟨_, rfl⟩
  have q0 : W2.heap[w1.heap.size]? = some (.cells #[.int .i64 mk, .int .i64 mf, .int .i64 mt, .int .i64 mn, strV mx, .slice oL mp.L.length cL, .slice oK mp.K.length cK] 198 (0, 0)) := by rw [← hW2]; exact heap_alloc_new w1 _
  rw [hW2] at hRA hPA hKA hbA
  have hRS : RefR W2 (Ext S w W2) p vN ns vF1 L1 adds := hRA.mono (fun b hx => by
    rcases hx with x | x
    · exact Or.inl x
    · exact Or.inr ⟨x.1, Nat.lt_of_lt_of_le x.2 hbA.size⟩) (fun b hx => by
    rcases hx with x | x
    · exact Nat.lt_of_lt_of_le (h.lt b x) hKA.size
    · exact x.2)
  have HR := hide hRS
  have HP := hide hPA
  have HK := hide hKA
  obtain ⟨e0, _⟩ := row_facts q0
  have d0 := e0 0
  have d1 := e0 1
  have d2 := e0 2
  have d3 := e0 3
  have d4 := e0 4
  have d5 := e0 5
  have d6 := e0 6
  simp only [List.getElem?_toArray, List.getElem?_cons_zero, List.getElem?_cons_succ] at d0 d1 d2 d3 d4 d5 d6
  clear hR hP hK hRA hPA hKA hRS hbA e0 q0
  have hk2' : ((mk : Int) == 2) = true := by
    rw [beq_iff_eq]
    omega
  clear hk2
  go_wp2_with fail
  refine (acked_any W2 (Ext S w W2) p vN ns vF1 L1 adds HR.out ⟨mk, mf, mt, mn, mx, .slice oL mp.L.length cL, .slice oK mp.K.length cK, mp⟩ d hd hf).mono ?_
  rintro e w3 ⟨rfl, ⟨ns', hR3, hns⟩, hK3⟩
  have HR3 := hide hR3
  clear hR3
  go_wp2_with fail
  go_ret
  rw [HL1.out]
  refine ⟨rfl, ⟨vF1, ns', HR3.out.mono (fun b hx => Ext.trans hx HK.out.size hK3.size) (fun b hx => ?_), hns⟩, hK3.under HK.out⟩
  rcases hx with x | x
  · exact Nat.lt_of_lt_of_le (h.lt b x) (Nat.le_trans HK.out.size hK3.size)
  · exact x.2

set_option maxHeartbeats 1000000 in
set_option maxRecDepth 100000 in
theorem deliver_news (hl : ms.length ≤ 1000) (i : Nat) (m : MS) (hm : ms[i]? = some m) (hk1 : m.kind ≠ 2) (d : NS) (hd : ns[m.to]? = some d) (hdp : SmallP d.p) (hqs : SmallP m.p) (hc : d.count ≤ 1000000000) (hk : d.kept.length ≤ 1000000000) :
    Calls Tryz.prog 111 #[ptr p, .int .i64 i] w fun e w' => e = .returned (err 0) ∧ (∃ vF' ns', RefR w' (Ext S w w') p vN ns' vF' (flyL (ms.take i ++ ms.drop (i + 1)) (ackMS m)) adds ∧ ns'.map NS.m = (ns.map NS.m).set m.to (comeN d.m m.p)) ∧ Kp w.heap.size S w w' := by
  obtain ⟨mk, mf, mt, mn, mx, vL, vK, mp⟩ := m
  have hpc := h.fly.piece _ (List.mem_of_getElem? hm)
  dsimp only [msV] at *
  obtain ⟨oL, cL, rfl, _, _⟩ := hpc.L.form
  obtain ⟨oK, cK, rfl, _, _⟩ := hpc.K.form
  go_enter Tryz.func111, Tryz.ntmps111
  go_wp2_with fail
  refine (taken_yes w S p vN ns vF ms adds h i _ hm hl).mono ?_
  rintro e w1 ⟨rfl, ⟨vF1, hR⟩, hP, hK⟩
  dsimp only [msV] at *
  obtain ⟨L1, hL1⟩ : ∃ L1, ms.take i ++ ms.drop (i + 1) = L1 := ⟨_, rfl⟩
  rw [hL1] at hR
  have hl1 : L1.length ≤ 1000 := by rw [← hL1]; simp; omega
  have HL1 := hide hL1
  clear hL1
  have hbA : Below w1.heap.size w1 (w1.alloc (.cells #[.int .i64 mk, .int .i64 mf, .int .i64 mt, .int .i64 mn, strV mx, .slice oL mp.L.length cL, .slice oK mp.K.length cK] 198)) := (Below.refl _ _).alloc (Nat.le_refl _) _
  have hRA := hR.below hbA
  have hPA := hP.below hbA
  have hKA : Kp w.heap.size S w (w1.alloc (.cells #[.int .i64 mk, .int .i64 mf, .int .i64 mt, .int .i64 mn, strV mx, .slice oL mp.L.length cL, .slice oK mp.K.length cK] 198)) := hK.alloc hK.size _
  obtain ⟨W2, hW2⟩ : ∃ W2, w1.alloc (.cells #[.int .i64 mk, .int .i64 mf, .int .i64 mt, .int .i64 mn, strV mx, .slice oL mp.L.length cL, .slice oK mp.K.length cK] 198) = W2 := ⟨_, rfl⟩
  have q0 : W2.heap[w1.heap.size]? = some (.cells #[.int .i64 mk, .int .i64 mf, .int .i64 mt, .int .i64 mn, strV mx, .slice oL mp.L.length cL, .slice oK mp.K.length cK] 198 (0, 0)) := by rw [← hW2]; exact heap_alloc_new w1 _
  rw [hW2] at hRA hPA hKA hbA
  have hRS : RefR W2 (Ext S w W2) p vN ns vF1 L1 adds := hRA.mono (fun b hx => by
    rcases hx with x | x
    · exact Or.inl x
    · exact Or.inr ⟨x.1, Nat.lt_of_lt_of_le x.2 hbA.size⟩) (fun b hx => by
    rcases hx with x | x
    · exact Nat.lt_of_lt_of_le (h.lt b x) hKA.size
    · exact x.2)
  have HR := hide hRS
  have HP := hide hPA
  have HK := hide hKA
  obtain ⟨e0, _⟩ := row_facts q0
  have d0 := e0 0
  have d1 := e0 1
  have d2 := e0 2
  have d3 := e0 3
  have d4 := e0 4
  have d5 := e0 5
  have d6 := e0 6
  simp only [List.getElem?_toArray, List.getElem?_cons_zero, List.getElem?_cons_succ] at d0 d1 d2 d3 d4 d5 d6
  clear hR hP hK hRA hPA hKA hRS hbA e0 q0
  have hk1' : ((mk : Int) == 2) = false := by
    rw [beq_eq_false_iff_ne]
    omega
  go_wp2_with fail
  refine (come_any W2 (Ext S w W2) p vN ns vF1 L1 adds HR.out ⟨mk, mf, mt, mn, mx, .slice oL mp.L.length cL, .slice oK mp.K.length cK, mp⟩ (HP.out.mono fun b hb => Or.inl hb) d hd hdp hqs hc hk).mono ?_
  rintro e w3 ⟨rfl, ⟨ns', hR3, hns⟩, hK3⟩
  have HR3 := hide hR3
  clear hR3
  go_wp2_with fail
  refine (fly_any w3 _ p vN ns' vF1 L1 adds HR3.out (ackMS ⟨mk, mf, mt, mn, mx, .slice oL mp.L.length cL, .slice oK mp.K.length cK, mp⟩) ⟨World.ownsRow_nil _ _ _ _, World.ownsRow_nil _ _ _ _, fun g hg => by simp [ackMS, Value.ownBlock] at hg, fun g hg => by simp [ackMS, Value.ownBlock] at hg⟩ hl1).mono ?_
  rintro e w4 ⟨rfl, ⟨vF4, hR4⟩, hK4⟩
  have HR4 := hide hR4
  clear hR4
  go_wp2_with fail
  go_ret
  rw [HL1.out]
  refine ⟨rfl, ⟨vF4, ns', HR4.out.mono (fun b hx => Ext.trans (Ext.trans hx hK3.size hK4.size) HK.out.size (Nat.le_trans hK3.size hK4.size)) (fun b hx => ?_), hns⟩, (hK4.under hK3).under HK.out⟩
  rcases hx with x | x
  · exact Nat.lt_of_lt_of_le (h.lt b x) (Nat.le_trans HK.out.size (Nat.le_trans hK3.size hK4.size))
  · exact x.2
end
end Go.Proofs.YtnniimfinakioaaGreatDoor
namespace Go.Proofs.YtnniimfinakioaaGreatDoor
open Go.RowKit
attribute [local go_sem ↓] eqTok eqEnt
attribute [local go_sem] toList_nm app_nm size_nm

theorem eTold : ElemT Tryz.prog 34 63 5 48 := ElemT.mk' (z := .agg #[.int .i64 0, .int .i64 0, .int .i64 0, .int .i64 0, .string ByteArray.empty]) (by kernel_rfl) (by kernel_rfl) rfl (by decide)
/-- A message as it is told. -/
structure Tm where
  kind : Int
  frm : Int
  to : Int
  number : Int
  text : Nm
def tmC (m : Tm) : List Value := [.int .i64 m.kind, .int .i64 m.frm, .int .i64 m.to, .int .i64 m.number, strV m.text]
theorem tmW : FW tmC 5 := fun _ => rfl
theorem tmC_one (m : Tm) : ∀ u ∈ tmC m, u.oneCell' = true := by
  intro u hu
  simp only [tmC, List.mem_cons, List.not_mem_nil, or_false] at hu
  rcases hu with rfl | rfl | rfl | rfl | rfl <;> rfl
def Md.t (m : Md) : Tm := ⟨m.kind, m.frm, m.to, m.number, m.text⟩
def MS.t (m : MS) : Tm := ⟨m.kind, m.frm, m.to, m.number, m.text⟩
/-- A row of told messages. -/
def TmR (w : World) (v : Value) (l : List Tm) : Prop := w.ownsRow 0 63 5 v l.length (l.flatMap tmC)

set_option maxHeartbeats 1000000 in
set_option maxRecDepth 100000 in
theorem told_any (w : World) (S : Nat → Prop) (p : Nat) (vN : Value) (ns : List NS) (vF : Value) (ms : List MS) (adds : Nat) (h : RefR w S p vN ns vF ms adds) (hl : ms.length ≤ 1000) :
    Calls Tryz.prog 105 #[ptr p] w fun e w' => ∃ v, e = .returned v ∧ TmR w' v (ms.map MS.t) ∧ (∀ g, v.ownBlock = some g → w.heap.size ≤ g) ∧ Below w.heap.size w w' := by
  obtain ⟨oF, cF, rfl, _, _⟩ := own_form h.fly.row
  obtain ⟨e1, f1⟩ := row_facts h.self
  have hp : p < w.heap.size := lt_of_heap h.self
  have cp := e1 1
  simp only [List.getElem?_cons_zero, List.getElem?_cons_succ, List.getElem?_toArray] at cp
  clear e1 f1
  go_enter Tryz.func105, Tryz.ntmps105
  go_wp2_with fail
  go_loopw [3, 4] (fun r j wr => ∃ (k : Nat) (v : Value), k ≤ ms.length ∧ j = .int .i64 k ∧ r = v ∧ TmR wr v ((ms.take k).map MS.t) ∧ (∀ g, v.ownBlock = some g → w.heap.size ≤ g) ∧ Below w.heap.size w wr) (fun _ j _ => ms.length - (intOf j).toNat)
  case atStart => exact ⟨0, _, Nat.zero_le _, rfl, rfl, World.ownsRow_nil _ _ _ _, by simp [Value.ownBlock], Below.refl _ _⟩
  case round =>
    obtain ⟨k, v, hk, rfl, rfl, hrow, hnew, hbel⟩ := hrel
    have hlen : ((ms.take k).map MS.t).length = k := by simp; omega
    generalize hR : (ms.take k).map MS.t = R at *
    unfold TmR at hrow
    rw [hlen] at hrow
    have HR := hide hR
    clear hR hlen
    obtain ⟨o, c', rfl, _, _⟩ := own_form hrow
    have hcl : ∀ b j, b < w.heap.size → wr.cell? ⟨b, j, none⟩ = w.cell? ⟨b, j, none⟩ := fun b j hb => hbel.cell (p := ⟨b, j, none⟩) hb
    by_cases hlt : k < ms.length
    · obtain ⟨x, hx⟩ := get_some hlt
      obtain ⟨g, rfl, hg, hcell⟩ := fly_at h.fly.row hx
      have c0 := hcell 0 (by decide)
      have c1 := hcell 1 (by decide)
      have c2 := hcell 2 (by decide)
      have c3 := hcell 3 (by decide)
      have c4 := hcell 4 (by decide)
      simp only [msC, List.getElem?_cons_zero, List.getElem?_cons_succ, Nat.add_zero] at c0 c1 c2 c3 c4
      have htk := take_snoc' hx
      have HT := hide htk
      clear hcell hx htk
      go_wp2_with (first | (at_builtin; refine wpList_app (t := 34) _ eTold (by rfl) _ _ (by rfl) (.slice o k c') k (R.flatMap tmC) (by rfl) ?own _ 1 (tmC x.t) (by rfl) ?src ?h63 ?hby ?next))
      case own => exact hrow.alloc _
      case src => exact ⟨rfl, tmC_one _, Or.inr ⟨_, _, rfl, World.news_of_block (cs := (tmC x.t).toArray) (heap_alloc_new wr _)⟩⟩
      case h63 => simp only [maxLen]; omega
      case hby => omega
      case next =>
        intro v1 w1 hown1 hgr1 hat1
        have hs := hbel.size
        have hv1 := at_ge (N := w.heap.size) hat1 hnew (by first | omega | (simp; omega))
        have hb1 := (hbel.alloc hbel.size _).grown hgr1 (by first | omega | (simp; omega)) hnew
        go_wp2_with fail
        refine ⟨⟨k + 1, v1, by omega, by go_num, rfl, ?_, hv1, ⟨hb1.os, hb1.tape, hb1.output, hb1.size, hb1.block⟩⟩, by simp [intOf]; omega⟩
        rw [HT.out, List.map_append, HR.out]
        unfold TmR
        have el : (R ++ [x].map MS.t).length = k + 1 := by rw [← HR.out]; simp; omega
        rw [el, List.flatMap_append]
        simpa using hown1
    · have hke : k = ms.length := by omega
      subst hke
      have e := HR.out
      rw [List.take_of_length_le (Nat.le_refl _)] at e
      have HR2 := hide e
      clear e HR
      go_wp2_with fail
      go_ret
      refine ⟨_, rfl, ?_, hnew, hbel⟩
      rw [HR2.out]
      unfold TmR
      have el : R.length = ms.length := by rw [← HR2.out]; simp
      rw [el]
      exact hrow
end Go.Proofs.YtnniimfinakioaaGreatDoor
