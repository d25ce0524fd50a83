import Derived.Test.YtnniimfinakioaaGreatDoorYj
import Derived.Test.YtnniimfinakioaaGreatDoorYh
import Derived.Test.YtnniimfinakioaaGreatDoorXg
namespace Go.Proofs.YtnniimfinakioaaGreatDoor
open Go.RowKit
attribute [local go_sem] toList_nm app_nm size_nm


set_option maxHeartbeats 4000000 in
set_option maxRecDepth 100000 in
theorem pDeliver (w : World) (S : Nat → Prop) (p : Nat) (W : Wd) (i : Int) (h : ProgW w S p W) (ok : WG W) :
    Calls Tryz.prog 19 #[ptr p, .int .i64 i] w fun e w' => e = .returned (err (deliverM W i).1) ∧ ProgW w' (Ext S w w') p (deliverM W i).2 ∧ Kp w.heap.size S w w' := by
  obtain ⟨HH, ok⟩ := ok
  obtain ⟨vN, ns, vF, fs, hr, hm, hf⟩ := h
  have hlen : ns.length = W.nodes.length := by rw [← hm, List.length_map]
  have hl : ns.length ≤ 1000 := by have := ok.five; omega
  have hfl : fs.length = W.fly.length := by rw [← hf, List.length_map]
  have hfl' : fs.length ≤ 1000 := by have := ok.forty; omega
  have H : ProgW w S p W := ⟨vN, ns, vF, fs, hr, hm, hf⟩
  have hI := isFlying_any w S p vN ns vF fs hr i hfl'
  cases hn : msgAt W i with
  | none =>
    have e0 : deliverM W i = (3, W) := by unfold deliverM; rw [hn]
    have e1 : decide (0 ≤ i ∧ i < (fs.length : Int)) = false := by rw [hfl]; have := msgAt_none hn; exact decide_eq_false (by omega)
    rw [e0]
    rw [e1] at hI
    go_enter Tryz.func19, Tryz.ntmps19
    go_wp2_with fail
    refine hI.mono ?_
    rintro e w' ⟨rfl, rfl⟩
    go_wp2_with fail
    go_ret
    exact ⟨rfl, H.same⟩
  | some m =>
    obtain ⟨k, rfl, hk⟩ := msgAt_some hn
    obtain ⟨x, hx, rfl⟩ := pm_of hf hk
    have hkl : k < fs.length := (List.getElem?_eq_some_iff.1 hx).1
    have e1 : decide (0 ≤ (k : Int) ∧ (k : Int) < (fs.length : Int)) = true := by simp; omega
    rw [e1] at hI
    have hP := hr.fly.piece x (List.mem_of_getElem? hx)
    have hG := ok.fly x.m (List.mem_of_getElem? hk)
    obtain ⟨dm, hdm⟩ := get_some (l := W.nodes) (k := x.to) hG.to
    obtain ⟨d, hd, rfl⟩ := pn_of hm hdm
    have nk := ok.node x.to d.m hdm
    have hcnt : d.count ≤ 60 := ok.count hdm
    have hkpt : d.kept.length ≤ 60 := by have := nk.kept; have : d.m.kept.length = d.kept.length := List.length_map _; have : d.m.count = d.count := rfl; omega
    obtain ⟨g, c, rfl, hSg, hg, hgp, _, _⟩ := hr.at hd
    obtain ⟨o, cF, hvF, _, _⟩ := own_form hr.fly.row
    have hrow := hr.fly.row
    rw [hvF] at hrow
    obtain ⟨gF, rfl, hgF, d0, d1, d2, d3, d4, d5⟩ := pFly_at hrow hx
    obtain ⟨m1, hm1⟩ : ∃ m, x.vE = .map m := ⟨_, hP.E.form⟩
    obtain ⟨m2, hm2⟩ : ∃ m, x.vK = .map m := ⟨_, hP.K.form⟩
    obtain ⟨q1, _⟩ := row_facts hr.self
    have cp := q1 1
    simp only [List.getElem?_cons_zero, List.getElem?_cons_succ, List.getElem?_toArray] at cp
    have hplt : p < w.heap.size := lt_of_heap hr.self
    rw [hvF] at cp
    rw [hm1] at d4
    rw [hm2] at d5
    clear q1 hrow
    have hfm : (fs.take k ++ fs.drop (k + 1)).map PM.m = gone W k := by simp [gone, ← hf]
    have hfl2 : (fs.take k ++ fs.drop (k + 1)).length ≤ 1000 := by simp; omega
    by_cases hkd : x.kind = 2
    · have e0 : deliverM W k = (0, { W with nodes := W.nodes.set x.to (ackN d.m x.frm x.number), fly := gone W k }) := by
        unfold deliverM
        rw [hn]
        simp only [Int.toNat_natCast]
        rw [show W.nodes[x.m.to]? = some d.m from hdm]
        simp only [show x.m.kind = 2 from hkd, if_true]
        rfl
      rw [e0]
      obtain ⟨a, ha, _⟩ := acked_of nk (j := x.frm) hG.frm
      rw [hkd] at d0
      have hb : Below w.heap.size w (w.alloc (.cells #[.int .i64 2, .int .i64 x.frm, .int .i64 x.to, .int .i64 x.number, .map m1, .map m2] 92)) := (Below.refl _ _).alloc (Nat.le_refl _) _
      have q0 := heap_alloc_new w (.cells #[.int .i64 2, .int .i64 x.frm, .int .i64 x.to, .int .i64 x.number, .map m1, .map m2] 92)
      have HB := hide hb
      have Q0 := hide q0
      clear hb q0 e0
      have cp1 := (HB.out.cell (p := ⟨p, 1, none⟩) hplt).trans cp
      have hr0 := hr.below HB.out
      have hL := land_any _ S p _ ns vF fs hr0 k hkl hfl'
      have hwl := lt_of_heap Q0.out
      go_enter Tryz.func19, Tryz.ntmps19
      go_wp2_with fail
      refine hI.mono ?_
      rintro e w' ⟨rfl, rfl⟩
      go_wp2_with fail
      refine hL.mono ?_
      rintro e w1 ⟨rfl, ⟨vF', hR1⟩, hK1, hP1⟩
      generalize w.alloc (.cells #[.int .i64 2, .int .i64 x.frm, .int .i64 x.to, .int .i64 x.number, .map m1, .map m2] 92) = W0 at *
      have hq1 : w1.heap[w.heap.size]? = some (.cells #[.int .i64 2, .int .i64 x.frm, .int .i64 x.to, .int .i64 x.number, .map m1, .map m2] 92 (0, 0)) := (hK1.block w.heap.size hwl (fun hs => by have := hr.lt _ hs; omega)).trans Q0.out
      obtain ⟨b1, _⟩ := row_facts hq1
      have t0 := b1 0
      have t1 := b1 1
      have t2 := b1 2
      have t3 := b1 3
      have t4 := b1 4
      have t5 := b1 5
      simp only [List.getElem?_toArray, List.getElem?_cons_zero, List.getElem?_cons_succ] at t0 t1 t2 t3 t4 t5
      have hPx := hP1 _ _ _ (hP.below HB.out)
      rw [hm1, hm2] at hPx
      have hs0 := HB.out.size
      have hs1 := hK1.size
      have kw1 : Kp w.heap.size S w w1 := (Kp.ofBelow HB.out).trans (hK1.mono hs0 fun _ _ x => x)
      clear hL hI b1 hP1
      have hC := pCome_ack w1 (Ext S W0 w1) p g c ns vF' _ hR1 ⟨2, x.frm, x.to, x.number, .map m1, .map m2, x.p⟩ rfl hPx d hd a ha
      dsimp only [pmV] at hC
      clear hPx
      go_wp2_with fail
      refine hC.mono ?_
      rintro e w2 ⟨rfl, ⟨ns', hR2, hm2'⟩, hK2⟩
      have hs2 := hK2.size
      have hq2 := (hK2.block w.heap.size (lt_of_heap hq1) (fun hs => by
        rcases hs with x | x
        · have := hr.lt _ x; omega
        · omega)).trans hq1
      have u0 := (row_facts hq2).1 0
      simp only [List.getElem?_toArray, List.getElem?_cons_zero] at u0
      clear hC
      go_wp2_with fail
      go_ret
      refine ⟨rfl, ⟨_, ns', _, _, hR2.mono (fun b hb => ?_) (fun b hb => ?_), by rw [hm2', hm], hfm⟩, kw1.trans (hK2.mono (by omega) fun b hb hs => ?_)⟩
      · rcases hb with (x | x) | x
        · exact Or.inl x
        · exact Or.inr ⟨by omega, by omega⟩
        · exact Or.inr ⟨by omega, x.2⟩
      · rcases hb with x | x
        · exact Nat.lt_of_lt_of_le (hr.lt b x) (by omega)
        · exact x.2
      · rcases hs with x | x
        · exact x
        · omega
    · have hk1 : x.kind = 1 := hG.kind.resolve_right hkd
      have e0 : deliverM W k = (0, { W with nodes := W.nodes.set x.to (comeN d.m x.p), fly := flyL (gone W k) (ackMd x.m) }) := by
        unfold deliverM
        rw [hn]
        simp only [Int.toNat_natCast]
        rw [show W.nodes[x.m.to]? = some d.m from hdm]
        simp only [show ¬ x.m.kind = 2 from hkd, if_false]
        rfl
      rw [e0]
      rw [hk1] at d0
      have hb : Below w.heap.size w (w.alloc (.cells #[.int .i64 1, .int .i64 x.frm, .int .i64 x.to, .int .i64 x.number, .map m1, .map m2] 92)) := (Below.refl _ _).alloc (Nat.le_refl _) _
      have q0 := heap_alloc_new w (.cells #[.int .i64 1, .int .i64 x.frm, .int .i64 x.to, .int .i64 x.number, .map m1, .map m2] 92)
      have HB := hide hb
      have Q0 := hide q0
      clear hb q0 e0
      have cp1 := (HB.out.cell (p := ⟨p, 1, none⟩) hplt).trans cp
      have hr0 := hr.below HB.out
      have hL := land_any _ S p _ ns vF fs hr0 k hkl hfl'
      have hwl := lt_of_heap Q0.out
      go_enter Tryz.func19, Tryz.ntmps19
      go_wp2_with fail
      refine hI.mono ?_
      rintro e w' ⟨rfl, rfl⟩
      go_wp2_with fail
      refine hL.mono ?_
      rintro e w1 ⟨rfl, ⟨vF', hR1⟩, hK1, hP1⟩
      generalize w.alloc (.cells #[.int .i64 1, .int .i64 x.frm, .int .i64 x.to, .int .i64 x.number, .map m1, .map m2] 92) = W0 at *
      have hq1 : w1.heap[w.heap.size]? = some (.cells #[.int .i64 1, .int .i64 x.frm, .int .i64 x.to, .int .i64 x.number, .map m1, .map m2] 92 (0, 0)) := (hK1.block w.heap.size hwl (fun hs => by have := hr.lt _ hs; omega)).trans Q0.out
      obtain ⟨b1, _⟩ := row_facts hq1
      have t0 := b1 0
      have t1 := b1 1
      have t2 := b1 2
      have t3 := b1 3
      have t4 := b1 4
      have t5 := b1 5
      simp only [List.getElem?_toArray, List.getElem?_cons_zero, List.getElem?_cons_succ] at t0 t1 t2 t3 t4 t5
      have hPx := hP1 _ _ _ (hP.below HB.out)
      rw [hm1, hm2] at hPx
      have hs0 := HB.out.size
      have hs1 := hK1.size
      have kw1 : Kp w.heap.size S w w1 := (Kp.ofBelow HB.out).trans (hK1.mono hs0 fun _ _ x => x)
      clear hL hI b1 hP1
      have hC := pCome_news w1 (Ext S W0 w1) p g c ns vF' _ hR1 ⟨1, x.frm, x.to, x.number, .map m1, .map m2, x.p⟩ rfl hPx d hd HH nk.pc hG.pc (by omega) (by omega)
      dsimp only [pmV] at hC
      clear hPx
      go_wp2_with fail
      refine hC.mono ?_
      rintro e w2 ⟨rfl, ⟨ns', hR2, hm2'⟩, hK2⟩
      have hs2 := hK2.size
      have hq2 := (hK2.block w.heap.size (lt_of_heap hq1) (fun hs => by
        rcases hs with x | x
        · have := hr.lt _ x; omega
        · omega)).trans hq1
      obtain ⟨b2, _⟩ := row_facts hq2
      have u0 := b2 0
      have u1 := b2 1
      have u2 := b2 2
      have u3 := b2 3
      have u4 := b2 4
      have u5 := b2 5
      simp only [List.getElem?_toArray, List.getElem?_cons_zero, List.getElem?_cons_succ] at u0 u1 u2 u3 u4 u5
      have hA := pAck_any w2 ⟨1, x.frm, x.to, x.number, .map m1, .map m2, x.p⟩ ⟨_, rfl⟩ ⟨_, rfl⟩
      dsimp only [pmV] at hA
      clear hC b2
      go_wp2_with fail
      refine hA.mono ?_
      rintro e w3 ⟨rfl, hb3⟩
      have hs3 := hb3.size
      have hR3 := hR2.below hb3
      have hLa := launch_any w3 _ p _ ns' vF' _ hR3 ⟨2, x.to, x.frm, x.number, .map none, .map none, ⟨[], []⟩⟩ ⟨SetV.nil _ _, SetV.nil _ _, fun b hb => by simp [mapB] at hb, fun b hb => by simp [mapB] at hb⟩ hfl2
      dsimp only [pmV] at hLa
      clear hA
      go_wp2_with fail
      refine hLa.mono ?_
      rintro e w4 ⟨rfl, ⟨vF2, hR4⟩, hK4⟩
      have hs4 := hK4.size
      clear hLa
      go_wp2_with fail
      go_ret
      refine ⟨rfl, ⟨_, ns', _, _, hR4.mono (fun b hb => ?_) (fun b hb => ?_), by rw [hm2', hm], ?_⟩, (kw1.trans (hK2.mono (by omega) fun b hb hs => ?_)).trans (((Kp.ofBelow hb3).trans (hK4.mono hs3 fun b _ hs => hs)).mono (by omega) fun b hb hs => ?_)⟩
      · rcases hb with ((x | x) | x) | x
        · exact Or.inl x
        · exact Or.inr ⟨by omega, by omega⟩
        · exact Or.inr ⟨by omega, by omega⟩
        · exact Or.inr ⟨by omega, x.2⟩
      · rcases hb with x | x
        · exact Nat.lt_of_lt_of_le (hr.lt b x) (by omega)
        · exact x.2
      · rw [flyL_map, hfm]
        rfl
      · rcases hs with x | x
        · exact x
        · omega
      · rcases hs with (x | x) | x
        · exact x
        · omega
        · omega
end Go.Proofs.YtnniimfinakioaaGreatDoor
namespace Go.Proofs.YtnniimfinakioaaGreatDoor
open Go.RowKit
attribute [local go_sem] toList_nm app_nm size_nm

/-- What is wanted of a message, that its text may be told. -/
structure MsgT (m : PM) : Prop where
  kind : m.kind = 1 ∨ m.kind = 2
  soL : m.p.L.Pairwise fun a b => aheadB a b = true
  soK : m.p.K.Pairwise fun a b => beforeB a b = true
  lL : m.p.L.length ≤ 1000
  lK : m.p.K.length ≤ 1000
  eL : ∀ e ∈ m.p.L, e.1.length ≤ 8 ∧ TokS e.2
  tK : ∀ t ∈ m.p.K, TokS t

set_option maxHeartbeats 1000000 in
set_option maxRecDepth 100000 in
theorem msgText_any (w : World) (S : Nat → Prop) (m : PM) (hq : PPieceR w S m.vE m.vK m.p) (ht : MsgT m) :
    Calls Tryz.prog 85 #[pmV m] w fun e w' => e = .returned (strV m.m.text) ∧ Below w.heap.size w w' := by
  obtain ⟨k1, k2, k3, k4, k5, k6, k7⟩ := ht
  obtain ⟨mk, mf, mt, mn, vE, vK, mp⟩ := m
  dsimp only [pmV, PM.m] at *
  obtain ⟨m1, rfl⟩ : ∃ m1, vE = .map m1 := ⟨_, hq.E.form⟩
  obtain ⟨m2, rfl⟩ : ∃ m2, vK = .map m2 := ⟨_, hq.K.form⟩
  rcases k1 with rfl | rfl
  · rw [if_pos rfl]
    have hb : Below w.heap.size w (w.alloc (.cells #[.int .i64 1, .int .i64 mf, .int .i64 mt, .int .i64 mn, .map m1, .map m2] 92)) := (Below.refl _ _).alloc (Nat.le_refl _) _
    have hT := text_set (w.alloc (.cells #[.int .i64 1, .int .i64 mf, .int .i64 mt, .int .i64 mn, .map m1, .map m2] 92)) (.map m1) (.map m2) mp.L mp.K (hq.E.below hb) (hq.K.below hb) k2 k3 k4 k5 k6 k7
    have HB := hide hb
    clear hb hq
    go_enter Tryz.func85, Tryz.ntmps85
    go_wp2_with fail
    refine hT.mono ?_
    rintro e w1 ⟨rfl, hb1⟩
    have HB1 := hide (HB.out.trans (hb1.mono HB.out.size))
    clear hT hb1
    go_wp2_with fail
    go_ret
    exact ⟨rfl, HB1.out⟩
  · rw [if_neg (by decide)]
    have hb : Below w.heap.size w (w.alloc (.cells #[.int .i64 2, .int .i64 mf, .int .i64 mt, .int .i64 mn, .map m1, .map m2] 92)) := (Below.refl _ _).alloc (Nat.le_refl _) _
    have HB := hide hb
    clear hb hq
    go_enter Tryz.func85, Tryz.ntmps85
    go_wp2_with fail
    go_ret
    exact ⟨rfl, HB.out⟩

set_option maxHeartbeats 2000000 in
set_option maxRecDepth 100000 in
theorem msgTold_any (w : World) (S : Nat → Prop) (m : PM) (hq : PPieceR w S m.vE m.vK m.p) (ht : MsgT m) (TX : Nm) (hTX : m.m.text = TX) :
    Calls Tryz.prog 49 #[pmV m] w fun e w' => e = .returned (.agg #[.int .i64 m.kind, .int .i64 m.frm, .int .i64 m.to, .int .i64 m.number, strV TX]) ∧ Below w.heap.size w w' := by
  have hT0 := fun w' (hb : Below w.heap.size w w') => msgText_any w' S m (hq.below hb) ht
  rw [hTX] at hT0
  obtain ⟨mk, mf, mt, mn, vE, vK, mp⟩ := m
  dsimp only [pmV] at *
  obtain ⟨m1, rfl⟩ : ∃ m1, vE = .map m1 := ⟨_, hq.E.form⟩
  obtain ⟨m2, rfl⟩ : ∃ m2, vK = .map m2 := ⟨_, hq.K.form⟩
  have hb : Below w.heap.size w ((w.alloc (.cells #[.int .i64 mk, .int .i64 mf, .int .i64 mt, .int .i64 mn, .map m1, .map m2] 92)).alloc (.cells #[.int .i64 0, .int .i64 0, .int .i64 0, .int .i64 0, .string ⟨#[]⟩] 63)) := below2 w _ _
  have q0 : ((w.alloc (.cells #[.int .i64 mk, .int .i64 mf, .int .i64 mt, .int .i64 mn, .map m1, .map m2] 92)).alloc (.cells #[.int .i64 0, .int .i64 0, .int .i64 0, .int .i64 0, .string ⟨#[]⟩] 63)).heap[w.heap.size]? = some (.cells #[.int .i64 mk, .int .i64 mf, .int .i64 mt, .int .i64 mn, .map m1, .map m2] 92) := alloc_at (heap_alloc_new w _) _
  have q1 : ((w.alloc (.cells #[.int .i64 mk, .int .i64 mf, .int .i64 mt, .int .i64 mn, .map m1, .map m2] 92)).alloc (.cells #[.int .i64 0, .int .i64 0, .int .i64 0, .int .i64 0, .string ⟨#[]⟩] 63)).heap[w.heap.size + 1]? = some (.cells #[.int .i64 0, .int .i64 0, .int .i64 0, .int .i64 0, .string ⟨#[]⟩] 63) := new_at _ _ (by simp)
  have HB := hide hb
  have Q0 := hide q0
  have Q1 := hide q1
  have HT0 := hide hT0
  clear hb q0 q1 hq ht hT0 hTX
  go_enter Tryz.func49, Tryz.ntmps49
  go_wp2_with fail
  generalize (w.alloc (.cells #[.int .i64 mk, .int .i64 mf, .int .i64 mt, .int .i64 mn, .map m1, .map m2] 92)).alloc (.cells #[.int .i64 0, .int .i64 0, .int .i64 0, .int .i64 0, .string ⟨#[]⟩] 63) = W0 at *
  obtain ⟨e0, _⟩ := row_facts Q0.out
  have d0 := e0 0
  have d1 := e0 1
  have d2 := e0 2
  have d3 := e0 3
  have d4 := e0 4
  have d5 := e0 5
  simp only [List.getElem?_toArray, List.getElem?_cons_zero, List.getElem?_cons_succ] at d0 d1 d2 d3 d4 d5
  have hwl : w.heap.size < W0.heap.size := lt_of_heap Q0.out
  have hC := HT0.out W0.drew HB.out.drew
  clear e0
  have hG := Grw.cell W0
  have hGn := Grw.some W0
  refine wp_region_fltC [0, 1, 2, 3, 4, 5, 6, 7, 8] [9, 10, 11] (fun w' => ∃ x : Grw W0, w' = x.w) (by kernel_rfl) (by kernel_rfl) (fun _ _ d _ _ h => by cases d <;> exact h) ⟨⟨W0.drew, (Below.refl _ _).drew⟩, rfl⟩ ?_
  simp only [pickOps, List.getElem?_cons_zero, List.getElem?_cons_succ]
  repeat (go_big_quiet_step (fail))
  refine wpQuiet_nil ?_
  refine ⟨_, rfl, ?_⟩
  go_wp2_with fail
  refine hC.mono ?_
  rintro e w1 ⟨rfl, hb1⟩
  have hb1' : Below W0.heap.size W0 w1 := ⟨hb1.os, hb1.tape, hb1.output, hb1.size, hb1.block⟩
  have HB1 := hide hb1'
  clear hb1 hb1' hC hG hGn
  go_wp2_with fail
  refine ⟨fun _ => ⟨⟨w1, HB1.out⟩, rfl⟩, _, rfl, ?_⟩
  go_wp2_with fail
  refine ⟨fun _ => ⟨⟨w1, HB1.out⟩, rfl⟩, _, rfl, ?_⟩
  have q1 := (HB1.out.block (w.heap.size + 1) (lt_of_heap Q1.out)).trans Q1.out
  obtain ⟨o1, f1⟩ := row_facts q1
  have x0 := o1 0
  have x1 := o1 1
  have x2 := o1 2
  have x3 := o1 3
  have x4 := o1 4
  have y0 := f1 0
  have y1 := f1 1
  have y2 := f1 2
  have y3 := f1 3
  have y4 := f1 4
  simp only [List.getElem?_toArray, List.getElem?_cons_zero, List.getElem?_cons_succ] at x0 x1 x2 x3 x4
  have hbw := HB.out.trans (HB1.out.mono HB.out.size)
  have fB : Below w.heap.size w (((((w1.setCell ⟨w.heap.size + 1, 0, none⟩ (.int .i64 mk)).setCell ⟨w.heap.size + 1, 1, none⟩ (.int .i64 mf)).setCell ⟨w.heap.size + 1, 2, none⟩ (.int .i64 mt)).setCell ⟨w.heap.size + 1, 3, none⟩ (.int .i64 mn)).setCell ⟨w.heap.size + 1, 4, none⟩ (strV TX)) :=
    ((((hbw.setCell (p := ⟨w.heap.size + 1, 0, none⟩) (by simp) _).setCell (p := ⟨w.heap.size + 1, 1, none⟩) (by simp) _).setCell (p := ⟨w.heap.size + 1, 2, none⟩) (by simp) _).setCell (p := ⟨w.heap.size + 1, 3, none⟩) (by simp) _).setCell (p := ⟨w.heap.size + 1, 4, none⟩) (by simp) _
  have FB := hide fB
  clear fB o1 f1 q1 hbw
  go_wp2_with fail
  refine ⟨fun h => absurd rfl h, ?_⟩
  unfold wpFin
  go_wp2_with fail
  refine bodyPost_ret (v := .agg #[.int .i64 mk, .int .i64 mf, .int .i64 mt, .int .i64 mn, strV TX]) (by simp [results, Tryz.results49, go_sem, x0, x1, x2, x3, x4]) rfl ⟨rfl, FB.out⟩

def PM.t (m : PM) : Tm := m.m.t
set_option maxHeartbeats 2000000 in
set_option maxRecDepth 100000 in
theorem flying_any (w : World) (S : Nat → Prop) (p : Nat) (vN : Value) (ns : List PN) (vF : Value) (fs : List PM) (h : ProgR w S p vN ns vF fs) (hl : fs.length ≤ 1000) (ht : ∀ m ∈ fs, MsgT m) :
    Calls Tryz.prog 18 #[ptr p] w fun e w' => ∃ v, e = .returned v ∧ TmR w' v (fs.map PM.t) ∧ (∀ g, v.ownBlock = some g → w.heap.size ≤ g) ∧ Below w.heap.size w w' := by
  obtain ⟨oF, cF, rfl, _, _⟩ := own_form h.fly.row
  obtain ⟨e1, f1⟩ := row_facts h.self
  have hp : p < w.heap.size := lt_of_heap h.self
  have cp := e1 1
  simp only [List.getElem?_cons_zero, List.getElem?_cons_succ, List.getElem?_toArray] at cp
  clear e1 f1
  go_enter Tryz.func18, Tryz.ntmps18
  go_wp2_with fail
  go_loopw [3, 13] (fun r j wr => ∃ (k : Nat) (v : Value), k ≤ fs.length ∧ j = .int .i64 k ∧ r = v ∧ TmR wr v ((fs.take k).map PM.t) ∧ (∀ g, v.ownBlock = some g → w.heap.size ≤ g) ∧ Below w.heap.size w wr) (fun _ j _ => fs.length - (intOf j).toNat)
  case atStart => exact ⟨0, _, Nat.zero_le _, rfl, rfl, World.ownsRow_nil _ _ _ _, by simp [Value.ownBlock], Below.refl _ _⟩
  case round =>
    obtain ⟨k, v, hk, rfl, rfl, hrow, hnew, hbel⟩ := hrel
    have hlen : ((fs.take k).map PM.t).length = k := by simp; omega
    generalize hR : (fs.take k).map PM.t = R at *
    unfold TmR at hrow
    rw [hlen] at hrow
    have HR := hide hR
    clear hR hlen
    obtain ⟨o, c', rfl, _, _⟩ := own_form hrow
    by_cases hlt : k < fs.length
    · obtain ⟨x, hx⟩ := get_some hlt
      obtain ⟨g, rfl, hg, d0, d1, d2, d3, d4, d5⟩ := pFly_at h.fly.row hx
      have hP := h.fly.piece x (List.mem_of_getElem? hx)
      have hx2 := ht x (List.mem_of_getElem? hx)
      have g0 := (hbel.cell (p := ⟨g, k * 6, none⟩) hg).trans d0
      have g1 := (hbel.cell (p := ⟨g, k * 6 + 1, none⟩) hg).trans d1
      have g2 := (hbel.cell (p := ⟨g, k * 6 + 2, none⟩) hg).trans d2
      have g3 := (hbel.cell (p := ⟨g, k * 6 + 3, none⟩) hg).trans d3
      have g4 := (hbel.cell (p := ⟨g, k * 6 + 4, none⟩) hg).trans d4
      have g5 := (hbel.cell (p := ⟨g, k * 6 + 5, none⟩) hg).trans d5
      obtain ⟨m1, hm1⟩ : ∃ m, x.vE = .map m := ⟨_, hP.E.form⟩
      obtain ⟨m2, hm2⟩ : ∃ m, x.vK = .map m := ⟨_, hP.K.form⟩
      rw [hm1] at g4
      rw [hm2] at g5
      have htk := take_snoc' hx
      have HT := hide htk
      obtain ⟨TX, hTX⟩ : ∃ TX, x.m.text = TX := ⟨_, rfl⟩
      have hb2 : Below w.heap.size w (wr.alloc (.cells #[.int .i64 x.kind, .int .i64 x.frm, .int .i64 x.to, .int .i64 x.number, .map m1, .map m2] 92)) := hbel.alloc hbel.size _
      have hb2r : Below wr.heap.size wr (wr.alloc (.cells #[.int .i64 x.kind, .int .i64 x.frm, .int .i64 x.to, .int .i64 x.number, .map m1, .map m2] 92)) := (Below.refl _ _).alloc (Nat.le_refl _) _
      have hC := msgTold_any (wr.alloc (.cells #[.int .i64 x.kind, .int .i64 x.frm, .int .i64 x.to, .int .i64 x.number, .map m1, .map m2] 92)) S x (hP.below hb2) hx2 TX hTX
      simp only [pmV] at hC
      rw [hm1, hm2] at hC
      have xt : x.t = ⟨x.kind, x.frm, x.to, x.number, TX⟩ := by unfold PM.t Md.t; rw [hTX]; rfl
      have XT := hide xt
      have HB2 := hide hb2
      have HB2r := hide hb2r
      clear hx htk d0 d1 d2 d3 d4 d5 hm1 hm2 hP hx2 hTX xt hb2 hb2r
      go_wp2_with fail
      refine hC.mono ?_
      rintro e w2 ⟨rfl, hb3⟩
      have hbw2 := HB2.out.trans (hb3.mono HB2.out.size)
      have hrow2 := own_below (own_below hrow HB2r.out) hb3
      have hs2 := hbw2.size
      clear hC
      go_wp2_with (first | (at_builtin; refine wpList_app (t := 34) _ eTold (by rfl) _ _ (by rfl) (.slice o k c') k (R.flatMap tmC) (by rfl) ?own _ 1 (tmC ⟨x.kind, x.frm, x.to, x.number, TX⟩) (by rfl) ?src ?h63 ?hby ?next))
      case own => exact hrow2.alloc _
      case src => exact ⟨rfl, tmC_one _, Or.inr ⟨_, _, rfl, World.news_of_block (cs := (tmC ⟨x.kind, x.frm, x.to, x.number, TX⟩).toArray) (heap_alloc_new w2 _)⟩⟩
      case h63 => simp only [maxLen]; omega
      case hby => omega
      case next =>
        intro v1 w1 hown1 hgr1 hat1
        have hv1 := at_ge (N := w.heap.size) hat1 hnew (by first | omega | (simp; omega))
        have hb1 := (hbw2.alloc hbw2.size _).grown hgr1 (by first | omega | (simp; omega)) hnew
        go_wp2_with fail
        refine ⟨⟨k + 1, v1, by omega, by go_num, rfl, ?_, hv1, ⟨hb1.os, hb1.tape, hb1.output, hb1.size, hb1.block⟩⟩, by simp [intOf]; omega⟩
        rw [HT.out, List.map_append, HR.out]
        unfold TmR
        have el : (R ++ [x].map PM.t).length = k + 1 := by rw [← HR.out]; simp; omega
        rw [el, List.flatMap_append]
        simp only [List.map_cons, List.map_nil, List.flatMap_cons, List.flatMap_nil, List.append_nil]
        rw [XT.out]
        exact hown1
    · have hke : k = fs.length := by omega
      subst hke
      have e := HR.out
      rw [List.take_of_length_le (Nat.le_refl _)] at e
      have HR2 := hide e
      clear e HR
      go_wp2_with fail
      go_ret
      refine ⟨_, rfl, ?_, hnew, hbel⟩
      rw [HR2.out]
      unfold TmR
      have el : R.length = fs.length := by rw [← HR2.out]; simp
      rw [el]
      exact hrow

theorem pFlying (w : World) (S : Nat → Prop) (p : Nat) (W : Wd) (h : ProgW w S p W) (ok : WG W) :
    Calls Tryz.prog 18 #[ptr p] w fun e w' => ∃ v, e = .returned v ∧ TmR w' v (flyingM W) ∧ (∀ g, v.ownBlock = some g → w.heap.size ≤ g) ∧ Below w.heap.size w w' := by
  obtain ⟨HH, ok⟩ := ok
  obtain ⟨vN, ns, vF, fs, hr, hm, hf⟩ := h
  have hfl : fs.length = W.fly.length := by rw [← hf, List.length_map]
  have hfl' : fs.length ≤ 1000 := by have := ok.forty; omega
  have e : flyingM W = fs.map PM.t := by unfold flyingM; rw [← hf, List.map_map]; rfl
  rw [e]
  refine flying_any w S p vN ns vF fs hr hfl' fun m hm => ?_
  have hG := ok.fly m.m (by rw [← hf]; exact List.mem_map.2 ⟨m, hm, rfl⟩)
  have hpc : PcOk HH m.p := hG.pc
  exact ⟨hG.kind, hpc.sL, hpc.sK, Nat.le_trans (ok.llen hpc) (by decide), Nat.le_trans (ok.klen hpc) (by decide), fun e he => ⟨nameB_len (ok.nm e (hpc.hL e he)), ok.tokS (hpc.hK _ (hpc.sub e he))⟩, fun t ht => ok.tokS (hpc.hK t ht)⟩
end Go.Proofs.YtnniimfinakioaaGreatDoor
