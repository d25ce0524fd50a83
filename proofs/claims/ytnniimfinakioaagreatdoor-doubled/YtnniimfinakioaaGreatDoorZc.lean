import Derived.Test.YtnniimfinakioaaGreatDoorZb
namespace Go.Proofs.YtnniimfinakioaaGreatDoor
open Go.RowKit
attribute [local go_sem] toList_nm app_nm size_nm

theorem eStrK : ElemT Tryz.prog 53 9 1 16 := ElemT.mk' (z := .string ByteArray.empty) (by kernel_rfl) (by kernel_rfl) rfl (by decide)
theorem eStat : ElemT Tryz.prog 65 58 4 80 := ElemT.mk' (z := .agg #[.int .i64 0, .slice none 0 0, .slice none 0 0, .slice none 0 0]) (by kernel_rfl) (by kernel_rfl) rfl (by decide)
structure Sv where
  c : Nat
  vK : Value
  vA : Value
  vT : Value
def svC (s : Sv) : List Value := [.int .i64 s.c, s.vK, s.vA, s.vT]
theorem svW : FW svC 4 := fun _ => rfl
/-- A status that was told. -/
structure SvR (w : World) (B : Nat) (s : Sv) (t : St) : Prop where
  c : s.c = t.count
  K : IntR w s.vK t.kept
  A : IntR w s.vA t.acked
  T : IntR w s.vT t.tokens
  bK : ∀ g, s.vK.ownBlock = some g → B ≤ g
  bA : ∀ g, s.vA.ownBlock = some g → B ≤ g
  bT : ∀ g, s.vT.ownBlock = some g → B ≤ g
/-- The texts and the statuses of the first k nodes, as they were told since B. -/
structure KnR (wr : World) (B : Nat) (W : Wd) (k : Nat) (vt vk : Value) (ss : List Sv) : Prop where
  t : wr.ownsRow 0 9 1 vt k (strC ((List.range k).map fun (j : Nat) => (textM W j).2))
  bt : ∀ g, vt.ownBlock = some g → B ≤ g
  kr : wr.ownsRow 0 58 4 vk k (ss.flatMap svC)
  bk : ∀ g, vk.ownBlock = some g → B ≤ g
  len : ss.length = k
  s : ∀ (j : Nat) (x : Sv), ss[j]? = some x → SvR wr B x (statusM W j)
section
variable {w w' : World} {B E : Nat} {S' : Nat → Prop}
theorem SvR.kp {C : Nat} {s : Sv} {t : St} (h : SvR w B s t) (k : Kp C S' w w') (hC : w.heap.size ≤ C) (hn : ∀ b, B ≤ b → ¬ S' b) : SvR w' B s t :=
  ⟨h.c, own_kp h.K k fun g hg => ⟨Nat.lt_of_lt_of_le (h.K.lt g hg).2 hC, hn g (h.bK g hg)⟩, own_kp h.A k fun g hg => ⟨Nat.lt_of_lt_of_le (h.A.lt g hg).2 hC, hn g (h.bA g hg)⟩, own_kp h.T k fun g hg => ⟨Nat.lt_of_lt_of_le (h.T.lt g hg).2 hC, hn g (h.bT g hg)⟩, h.bK, h.bA, h.bT⟩
theorem SvR.kpE {s : Sv} {t : St} (h : SvR w B s t) (k : Kp w.heap.size S' w w') (hT : OfT w S' E) (hne : 3 ≠ E) : SvR w' B s t :=
  ⟨h.c, own_kpE h.K k (Nat.le_refl _) hT hne, own_kpE h.A k (Nat.le_refl _) hT hne, own_kpE h.T k (Nat.le_refl _) hT hne, h.bK, h.bA, h.bT⟩
theorem SvR.below {s : Sv} {t : St} (h : SvR w B s t) (k : Below w.heap.size w w') : SvR w' B s t := ⟨h.c, own_below h.K k, own_below h.A k, own_below h.T k, h.bK, h.bA, h.bT⟩
theorem KnR.below {W : Wd} {k : Nat} {vt vk : Value} {ss : List Sv} (h : KnR w B W k vt vk ss) (b : Below w.heap.size w w') : KnR w' B W k vt vk ss :=
  ⟨own_below h.t b, h.bt, own_below h.kr b, h.bk, h.len, fun j x hx => (h.s j x hx).below b⟩
theorem KnR.kp {W : Wd} {k : Nat} {vt vk : Value} {ss : List Sv} (h : KnR w B W k vt vk ss) (kk : Kp w.heap.size S' w w') (hn : ∀ b, B ≤ b → ¬ S' b) : KnR w' B W k vt vk ss :=
  ⟨own_kp h.t kk fun g hg => ⟨(h.t.lt g hg).2, hn g (h.bt g hg)⟩, h.bt, own_kp h.kr kk fun g hg => ⟨(h.kr.lt g hg).2, hn g (h.bk g hg)⟩, h.bk, h.len, fun j x hx => (h.s j x hx).kp kk (Nat.le_refl _) hn⟩
end
theorem KnR.zero (w : World) (B : Nat) (W : Wd) : KnR w B W 0 (.slice none 0 0) (.slice none 0 0) [] :=
  ⟨World.ownsRow_nil .., by simp [Value.ownBlock], World.ownsRow_nil .., by simp [Value.ownBlock], rfl, fun j x hx => by simp at hx⟩
/-- One more of each. -/
theorem KnR.more {w w1 w2 : World} {B : Nat} {W : Wd} {k : Nat} {vt vk vt' vk' : Value} {ss : List Sv} {s : Sv} (h : KnR w B W k vt vk ss) (hs : SvR w B s (statusM W k)) (hB : B ≤ w.heap.size)
    (a1 : w1.ownsRow 0 9 1 vt' (k + 1) (strC ((List.range k).map fun (j : Nat) => (textM W j).2) ++ [strV (textM W k).2])) (b1 : vt'.ownBlock = vt.ownBlock ∨ ∃ g, vt'.ownBlock = some g ∧ w.heap.size ≤ g) (k1 : Kp w.heap.size (fun b => vt.ownBlock = some b) w w1)
    (a2 : w1.ownsRow 0 58 4 vk k (ss.flatMap svC) → w2.ownsRow 0 58 4 vk' (k + 1) (ss.flatMap svC ++ svC s)) (b2 : vk'.ownBlock = vk.ownBlock ∨ ∃ g, vk'.ownBlock = some g ∧ w1.heap.size ≤ g) (k2 : Kp w1.heap.size (fun b => vk.ownBlock = some b) w1 w2) :
    KnR w2 B W (k + 1) vt' vk' (ss ++ [s]) := by
  have o1 : OfT w (fun b => vt.ownBlock = some b) 9 := OfT.own h.t
  have r1 := own_kpE h.kr k1 (Nat.le_refl _) o1 (by decide)
  have o2 : OfT w1 (fun b => vk.ownBlock = some b) 58 := OfT.own r1
  have hs1 := k1.size
  have mv : ∀ {x : Sv} {t : St}, SvR w B x t → SvR w2 B x t := fun hx => (hx.kpE k1 o1 (by decide)).kpE k2 o2 (by decide)
  refine ⟨?_, ?_, ?_, ?_, by simp [h.len], ?_⟩
  · have e : strC ((List.range (k + 1)).map fun (j : Nat) => (textM W j).2) = strC ((List.range k).map fun (j : Nat) => (textM W j).2) ++ [strV (textM W k).2] := by
      rw [List.range_succ, List.map_append]
      simp [strC]
    rw [e]
    exact own_kpE a1 k2 (Nat.le_refl _) o2 (by decide)
  · intro g hg
    rcases b1 with e | ⟨g', e, hg'⟩
    · exact h.bt g (e ▸ hg)
    · rw [e] at hg; cases hg; omega
  · rw [List.flatMap_append]
    simpa using a2 r1
  · intro g hg
    rcases b2 with e | ⟨g', e, hg'⟩
    · exact h.bk g (e ▸ hg)
    · rw [e] at hg; cases hg; omega
  · intro j x hx
    rw [List.getElem?_append] at hx
    split at hx
    · exact mv (h.s j x hx)
    · rename_i hj
      have hjl := (List.getElem?_eq_some_iff.1 hx).1
      simp only [List.length_singleton] at hjl
      have hl := h.len
      have : j = k := by omega
      subst this
      rw [hl, Nat.sub_self] at hx
      simp only [List.getElem?_cons_zero, Option.some.injEq] at hx
      subst hx
      exact mv hs
theorem textE {W : Wd} (h : Ok3 W) {k : Nat} (hk : k < 3) : (textM W k).1 = 0 := by
  obtain ⟨d, hd, _⟩ := nodeAt_lt (W := W) (k := k) (by rw [h.n]; exact hk)
  unfold textM
  rw [hd]
theorem statusE {W : Wd} (h : Ok3 W) {k : Nat} (hk : k < 3) : (statusM W k).err = 0 := by
  obtain ⟨d, hd, _⟩ := nodeAt_lt (W := W) (k := k) (by rw [h.n]; exact hk)
  unfold statusM
  rw [hd]
theorem statusL {W : Wd} (h : Ok3 W) {k : Nat} (hk : k < 3) : (statusM W k).kept.length ≤ 1000 ∧ (statusM W k).acked.length ≤ 1000 ∧ (statusM W k).tokens.length ≤ 1000 := by
  obtain ⟨d, hd, hd'⟩ := nodeAt_lt (W := W) (k := k) (by rw [h.n]; exact hk)
  obtain ⟨H, ok⟩ := h.wg
  have := (ok.node _ d hd').kept
  have := ok.count hd'
  unfold statusM
  rw [hd]
  refine ⟨by simp; omega, by simp [ackL, h.n], by simp [tokL, h.n]⟩
theorem sv_at {w : World} {o : Option Addr} {n c : Nat} {ss : List Sv} (h : w.ownsRow 0 58 4 (.slice o n c) n (ss.flatMap svC)) (hn : ss.length = n) {k : Nat} {x : Sv} (hk : ss[k]? = some x) :
    ∃ g, o = some ⟨g, 0, none⟩ ∧ g < w.heap.size ∧ w.cell? ⟨g, k * 4, none⟩ = some (.int .i64 x.c) ∧ w.cell? ⟨g, k * 4 + 1, none⟩ = some x.vK ∧ w.cell? ⟨g, k * 4 + 2, none⟩ = some x.vA ∧ w.cell? ⟨g, k * 4 + 3, none⟩ = some x.vT := by
  have hk' : k < ss.length := (List.getElem?_eq_some_iff.1 hk).1
  obtain ⟨g, cap, e, _, hlt⟩ := World.ownsRow.form h (by omega)
  simp only [Value.slice.injEq] at e
  obtain ⟨rfl, _, _⟩ := e
  have f := fun j (hj : j < 4) => flat_get svW ss k j x hk hj
  exact ⟨g, rfl, hlt, own_cell h rfl (f 0 (by decide)), own_cell h rfl (f 1 (by decide)), own_cell h rfl (f 2 (by decide)), own_cell h rfl (f 3 (by decide))⟩
theorem tmK_at {w : World} {o : Option Addr} {n c : Nat} {ts : List Tm} (h : w.ownsRow 0 63 5 (.slice o n c) n (ts.flatMap tmC)) (hn : ts.length = n) {k : Nat} {x : Tm} (hk : ts[k]? = some x) :
    ∃ g, o = some ⟨g, 0, none⟩ ∧ g < w.heap.size ∧ w.cell? ⟨g, k * 5, none⟩ = some (.int .i64 x.kind) := by
  have hk' : k < ts.length := (List.getElem?_eq_some_iff.1 hk).1
  obtain ⟨g, cap, e, _, hlt⟩ := World.ownsRow.form h (by omega)
  simp only [Value.slice.injEq] at e
  obtain ⟨rfl, _, _⟩ := e
  exact ⟨g, rfl, hlt, own_cell h rfl (flat_get tmW ts k 0 x hk (by decide))⟩
end Go.Proofs.YtnniimfinakioaaGreatDoor
namespace Go.Proofs.YtnniimfinakioaaGreatDoor
open Go.RowKit
attribute [local go_sem] toList_nm app_nm size_nm

set_option maxHeartbeats 8000000 in
set_option maxRecDepth 100000 in
theorem doubled_any (w : World) (o : Option Addr) (cap : Nat) (l : List StD) (hr : StepsR w o l) (hok : ∀ x ∈ l, StOk x) (which : Int) (hwh : I64 which) :
    Calls Tryz.prog 10 #[.slice o l.length cap, .int .i64 which] w fun e w' => e = .returned (.bool true) ∧ Below w.heap.size w w' := by
  have hT := kTold_any w
  have HR := hide hr
  have Hok := hide hok
  clear hr hok
  go_enter Tryz.func10, Tryz.ntmps10
  go_wp2_with fail
  refine hT.mono ?_
  rintro e w1 ⟨rfl, hb1⟩
  have hRn := kRun_any w w1 hb1 o cap l HR.out Hok.out
  clear hT
  go_wp2_with fail
  refine hRn.mono ?_
  rintro e w2 ⟨q, W, rfl, ⟨S, hP, hS, hB2⟩, ok⟩
  have hF := pFlying w2 S q W hP ok.wg
  have hlen : (flyingM W).length = W.fly.length := List.length_map _
  have h40 : W.fly.length ≤ 40 := ok.wg.elim fun _ h => h.forty
  clear hRn hb1
  go_wp2_with fail
  refine hF.mono ?_
  rintro e w3 ⟨v, rfl, hv, hvb, hb3⟩
  have hB3 : Below w.heap.size w w3 := hB2.trans (hb3.mono hB2.size)
  have hs2 := hB2.size
  have hs3 := hb3.size
  unfold TmR at hv
  rw [hlen] at hv
  obtain ⟨oF, cF, rfl, _, _⟩ := own_form hv
  clear hF
  by_cases hn0 : W.fly.length = 0
  · have hn' : ((W.fly.length : Int) == 0) = true := by rw [hn0]; rfl
    have HB := hide hB3
    clear hv hvb hb3
    go_wp2_with fail
    go_ret
    exact ⟨rfl, HB.out⟩
  · have hn' : ((W.fly.length : Int) == 0) = false := by rw [beq_eq_false_iff_ne]; omega
    by_cases hn40 : 40 ≤ W.fly.length
    · have h40' : decide ((40 : Int) ≤ (W.fly.length : Int)) = true := by simp; omega
      have HB := hide hB3
      clear hv hvb hb3
      go_wp2_with fail
      go_ret
      exact ⟨rfl, HB.out⟩
    · have h40' : decide ((40 : Int) ≤ (W.fly.length : Int)) = false := by simp; omega
      have hPk := kPick_any which W.fly.length w3 (by omega) (by omega) hwh.1 hwh.2
      have hi := pickN_lt which W.fly.length (by omega)
      generalize pickN which W.fly.length = i at *
      obtain ⟨m, W1, W2, W3, hmi, tw⟩ := twice_model ok.wg i hi (by omega)
      have ok1 : Ok3 W1 := by have := ok.double i; rw [tw.d1] at this; exact this
      have ok2 : Ok3 W2 := by have := ok1.deliver i; rw [tw.d2] at this; exact this
      have ok3 : Ok3 W3 := by have := ok2.deliver ((W.fly.length - 1 : Nat) : Int); rw [tw.d3] at this; exact this
      have hP3 := hP.below hb3
      have hD := pDouble w3 S q W i hP3 ok.wg
      rw [tw.d1] at hD
      have hlt2 := hP.lt
      have HV := hide hv
      clear hv
      go_wp2_with fail
      refine hPk.mono ?_
      rintro e w' ⟨rfl, rfl⟩
      go_wp2_with fail
      refine hD.mono ?_
      rintro e w4 ⟨rfl, hP4, hK4⟩
      have hE := pDeliver w4 _ q W1 i hP4 ok1.wg
      rw [tw.d2] at hE
      clear hD hPk
      go_wp2_with fail
      refine hE.mono ?_
      rintro e w5 ⟨rfl, hP5, hK5⟩
      have hs4 := hK4.size
      have hs5 := hK5.size
      have notS : ∀ b, w2.heap.size ≤ b → b < w3.heap.size → ¬ Ext S w3 w4 b := fun b h1 h2 h3 => by
        rcases h3 with x | x
        · have := hlt2 b x; omega
        · omega
      have hv5 := own_kp (own_kp HV.out hK4 fun g hg => ⟨(HV.out.lt g hg).2, fun x => by have := hlt2 g x; have := hvb g hg; omega⟩) hK5 (fun g hg => ⟨Nat.lt_of_lt_of_le (HV.out.lt g hg).2 hs4, notS g (hvb g hg) (HV.out.lt g hg).2⟩)
      have hB5 : Below w.heap.size w w5 := by
        have hB4 : Below w.heap.size w w4 := ⟨hK4.os.trans hB3.os, hK4.tape.trans hB3.tape, hK4.output.trans hB3.output, Nat.le_trans hB3.size hs4, fun b hb => (hK4.block b (by omega) (fun h => by have := hS b h; omega)).trans (hB3.block b hb)⟩
        refine ⟨hK5.os.trans hB4.os, hK5.tape.trans hB4.tape, hK5.output.trans hB4.output, Nat.le_trans hB4.size hs5, fun b hb => (hK5.block b (by omega) (fun h => ?_)).trans (hB4.block b hb)⟩
        rcases h with x | x
        · have := hS b x; omega
        · omega
      have notS5 : ∀ b, (w2.heap.size ≤ b ∧ b < w3.heap.size) → ¬ Ext (Ext S w3 w4) w4 w5 b := fun b h1 h2 => by
        rcases h2 with x | x
        · exact notS b h1.1 h1.2 x
        · omega
      have hS5 : ∀ b, Ext (Ext S w3 w4) w4 w5 b → w.heap.size ≤ b := fun b h => by
        rcases h with (x | x) | x
        · exact hS b x
        · omega
        · omega
      generalize Ext (Ext S w3 w4) w4 w5 = S5 at *
      have HV5 := hide hv5
      have HB5 := hide hB5
      have Hn5 := hide notS5
      have HS5 := hide hS5
      have hvl : ∀ g, (Value.slice oF W.fly.length cF).ownBlock = some g → w2.heap.size ≤ g ∧ g < w3.heap.size := fun g hg => ⟨hvb g hg, (HV.out.lt g hg).2⟩
      have HVL := hide hvl
      clear hE hv5 hB5 notS5 hS5 notS HV hvb hvl hP4 hK4 hK5 hP3 hP hb3 hB3 hB2 hS hlt2
      go_wp2_with fail
      go_loopw [12, 13, 14] (fun a b j wr => ∃ (k : Nat) (ss : List Sv), k ≤ 3 ∧ j = .int .i64 k ∧ KnR wr w5.heap.size W2 k a b ss ∧ Below w5.heap.size w5 wr) (fun _ _ j _ => 3 - (intOf j).toNat)
      case atStart => exact ⟨0, [], Nat.zero_le _, rfl, KnR.zero _ _ _, Below.refl _ _⟩
      case round =>
        obtain ⟨k, ss, hk3, rfl, hKn, hbel⟩ := hrel
        have hPr := hP5.below hbel
        by_cases hlt : k < 3
        · have hlt' : decide ((k : Int) < 3) = true := by simp; omega
          have hlt'' : decide (k < 3) = true := by simpa using hlt
          have hTx := pText wr S5 q W2 k hPr ok2.wg
          rw [textE ok2 hlt] at hTx
          have hsE := statusE ok2 hlt
          obtain ⟨TX, hTX⟩ : ∃ TX, (textM W2 k).2 = TX := ⟨_, rfl⟩
          rw [hTX] at hTx
          have HTX := hide hTX
          have HKn := hide hKn
          have HBl := hide hbel
          clear hTX hKn hbel
          go_wp2_with fail
          refine hTx.mono ?_
          rintro e w6 ⟨rfl, hb6⟩
          have hSt := pStatus w6 S5 q W2 k (hPr.below hb6) ok2.wg
          rw [hsE] at hSt
          have HB6 := hide hb6
          clear hTx hb6 hPr
          go_wp2_with fail
          refine hSt.mono ?_
          rintro e w7 ⟨sK, sA, sT, rfl, rK, rA, rT, bK, bA, bT, _, _, _, hb7⟩
          obtain ⟨oK, cK, rfl, _, _⟩ := own_form rK
          obtain ⟨oA, cA, rfl, _, _⟩ := own_form rA
          obtain ⟨oT, cT, rfl, _, _⟩ := own_form rT
          have hb67 : Below wr.heap.size wr w7 := HB6.out.trans (hb7.mono HB6.out.size)
          have hs6 := HB6.out.size
          have hs7 := hb7.size
          have hsr := HBl.out.size
          have hsv : SvR w7 w5.heap.size ⟨(statusM W2 k).count, .slice oK (statusM W2 k).kept.length cK, .slice oA (statusM W2 k).acked.length cA, .slice oT (statusM W2 k).tokens.length cT⟩ (statusM W2 k) :=
            ⟨rfl, rK, rA, rT, fun g hg => by have := bK g hg; omega, fun g hg => by have := bA g hg; omega, fun g hg => by have := bT g hg; omega⟩
          generalize hst : statusM W2 k = st at *
          have HST := hide hst
          have HSV := hide hsv
          have HB67 := hide hb67
          clear hSt rK rA rT bK bA bT hb7 hb67 hsv hst hsE
          have hKn7 := HKn.out.below HB67.out
          obtain ⟨ot, ct, rfl, _, _⟩ := own_form hKn7.t
          obtain ⟨ok', ck', rfl, _, _⟩ := own_form hKn7.kr
          have hb8 : Below w7.heap.size w7 (w7.alloc (.cells #[.int .i64 st.count, .slice oK st.kept.length cK, .slice oA st.acked.length cA, .slice oT st.tokens.length cT] 58)) := (Below.refl _ _).alloc (Nat.le_refl _) _
          have q8 := heap_alloc_new w7 (.cells #[.int .i64 st.count, .slice oK st.kept.length cK, .slice oA st.acked.length cA, .slice oT st.tokens.length cT] 58)
          have hsz8 : (w7.alloc (.cells #[.int .i64 st.count, .slice oK st.kept.length cK, .slice oA st.acked.length cA, .slice oT st.tokens.length cT] 58)).heap.size = w7.heap.size + 1 := by simp
          have hKn8 := hKn7.below hb8
          have hsv8 := HSV.out.below hb8
          have HKN8 := hide hKn8
          have HSV8 := hide hsv8
          have Q8 := hide q8
          have HB8 := hide hb8
          clear hKn7 hKn8 hsv8 q8 hb8 HKn HSV
          go_wp2_with (first | (at_builtin; refine wpList_app (t := 53) _ eStr (by rfl) _ _ (by rfl) (.slice ot k ct) k (strC ((List.range k).map fun (j : Nat) => (textM W2 j).2)) (by rfl) ?own _ 1 [strV TX] (by rfl) ?src ?h63 ?hby ?next))
          case own => exact HKN8.out.t.alloc _
          case src => exact ⟨rfl, by intro u hu; simp at hu; subst hu; rfl, Or.inr ⟨_, _, rfl, World.news_of_block (cs := #[strV TX]) (new_at _ _ (by simp))⟩⟩
          case h63 => simp only [maxLen]; omega
          case hby => omega
          case next =>
            intro v9 w9 hown9 hgr9 hat9
            generalize w7.alloc (.cells #[.int .i64 st.count, .slice oK st.kept.length cK, .slice oA st.acked.length cA, .slice oT st.tokens.length cT] 58) = W8 at *
            have kp9 : Kp W8.heap.size (fun b => (Value.slice ot k ct).ownBlock = some b) W8 w9 := ((Kp.refl W8.heap.size _ W8).alloc (Nat.le_refl _) _).grown hgr9 (by simp) (fun x hx => Or.inr hx)
            obtain ⟨o9, c9, rfl, _, _⟩ := own_form hown9
            have ot9 : OfT W8 (fun b => (Value.slice ot k ct).ownBlock = some b) 9 := OfT.own HKN8.out.t
            have kr9 := own_kpE HKN8.out.kr kp9 (Nat.le_refl _) ot9 (by decide)
            have l8 := lt_of_heap Q8.out
            have hs9 := kp9.size
            have q9 : w9.heap[w7.heap.size]? = some (.cells #[.int .i64 st.count, .slice oK st.kept.length cK, .slice oA st.acked.length cA, .slice oT st.tokens.length cT] 58 (0, 0)) := (kp9.block w7.heap.size l8 (fun hx => by
              have := own_ne HKN8.out.t Q8.out (by decide)
              exact this hx)).trans Q8.out
            obtain ⟨f9, _⟩ := row_facts q9
            have z0 := f9 0
            have z1 := f9 1
            have z2 := f9 2
            have z3 := f9 3
            simp only [List.getElem?_toArray, List.getElem?_cons_zero, List.getElem?_cons_succ] at z0 z1 z2 z3
            have hs8 := HB8.out.size
            have hB8 : w5.heap.size ≤ W8.heap.size := by omega
            have KR9 := hide kr9
            have HO9 := hide hown9
            have KP9 := hide kp9
            have hat9' : (Value.slice o9 (k + 1) c9).ownBlock = (Value.slice ot k ct).ownBlock ∨ ∃ g, (Value.slice o9 (k + 1) c9).ownBlock = some g ∧ W8.heap.size ≤ g := by
              rcases hat9 with e | e
              · exact Or.inl e
              · exact Or.inr ⟨_, e, by first | omega | (simp; omega)⟩
            have HAT9 := hide hat9'
            clear kr9 hown9 hgr9 hat9 hat9' f9 q9 ot9 kp9
            go_wp2_with (first | (at_builtin; refine wpList_app (t := 65) _ eStat (by rfl) _ _ (by rfl) (.slice ok' k ck') k (ss.flatMap svC) (by rfl) ?own2 _ 1 (svC ⟨st.count, .slice oK st.kept.length cK, .slice oA st.acked.length cA, .slice oT st.tokens.length cT⟩) (by rfl) ?src2 ?h632 ?hby2 ?next2))
            case own2 => exact KR9.out.alloc _
            case src2 => exact ⟨rfl, by intro u hu; simp [svC] at hu; rcases hu with rfl | rfl | rfl | rfl <;> rfl, Or.inr ⟨_, _, rfl, World.news_of_block (cs := #[.int .i64 st.count, .slice oK st.kept.length cK, .slice oA st.acked.length cA, .slice oT st.tokens.length cT]) (heap_alloc_new _ _)⟩⟩
            case h632 => simp only [maxLen]; omega
            case hby2 => omega
            case next2 =>
              intro v10 w10 hown10 hgr10 hat10
              have kp10 : Kp w9.heap.size (fun b => (Value.slice ok' k ck').ownBlock = some b) w9 w10 := ((Kp.refl w9.heap.size _ w9).alloc (Nat.le_refl _) _).grown hgr10 (by simp) (fun x hx => Or.inr hx)
              have hmore := HKN8.out.more (s := ⟨st.count, .slice oK st.kept.length cK, .slice oA st.acked.length cA, .slice oT st.tokens.length cT⟩) (vt' := .slice o9 (k + 1) c9) (vk' := v10) (w1 := w9) (w2 := w10) (by rw [HST.out]; exact HSV8.out) hB8 (by rw [HTX.out]; exact HO9.out) HAT9.out KP9.out (fun _ => hown10) (by
                rcases hat10 with e | e
                · exact Or.inl e
                · exact Or.inr ⟨_, e, by first | omega | (simp; omega)⟩) kp10
              have hbw : Below w5.heap.size w5 w10 := by
                have hB7 := HBl.out.trans (HB67.out.mono HBl.out.size)
                have hBW8 := hB7.trans (HB8.out.mono (by omega))
                have h9 : Below w5.heap.size w5 w9 := ⟨KP9.out.os.trans hBW8.os, KP9.out.tape.trans hBW8.tape, KP9.out.output.trans hBW8.output, Nat.le_trans hBW8.size hs9, fun b hb => (KP9.out.block b (by omega) (fun h => by have := HKN8.out.bt b h; omega)).trans (hBW8.block b hb)⟩
                exact ⟨kp10.os.trans h9.os, kp10.tape.trans h9.tape, kp10.output.trans h9.output, Nat.le_trans h9.size kp10.size, fun b hb => (kp10.block b (by omega) (fun h => by have := HKN8.out.bk b h; omega)).trans (h9.block b hb)⟩
              have HM := hide hmore
              have HBW := hide hbw
              clear hown10 hgr10 hat10 kp10 hmore hbw
              go_wp2_with fail
              exact ⟨⟨k + 1, _, by omega, by go_num, HM.out, HBW.out⟩, by simp [intOf]; omega⟩
        · have hke : k = 3 := by omega
          subst hke
          clear hlt
          have em : ((W.fly.length : Nat) : Int) - 1 = ((W.fly.length - 1 : Nat) : Int) := by omega
          have hD3 := pDeliver wr S5 q W2 ((W.fly.length - 1 : Nat) : Int) hPr ok2.wg
          rw [tw.d3, ← em] at hD3
          have hlt5 := hP5.lt
          have HKn := hide hKn
          have HBl := hide hbel
          clear hKn hbel em hPr
          go_wp2_with fail
          refine hD3.mono ?_
          rintro e w7 ⟨rfl, hP7, hK7⟩
          have hsr := HBl.out.size
          have hs7 := hK7.size
          have hKn7 := HKn.out.kp hK7 (fun b hb hs => by have := hlt5 b hs; omega)
          have hv7 := own_kp (own_below HV5.out HBl.out) hK7 (fun g hg => ⟨((own_below HV5.out HBl.out).lt g hg).2, Hn5.out g (HVL.out g hg)⟩)
          have hB7 : Below w.heap.size w w7 := by
            have hBr := HB5.out.trans (HBl.out.mono HB5.out.size)
            exact ⟨hK7.os.trans hBr.os, hK7.tape.trans hBr.tape, hK7.output.trans hBr.output, Nat.le_trans hBr.size hs7, fun b hb => (hK7.block b (by have := HB5.out.size; omega) (fun h => by have := HS5.out b h; omega)).trans (hBr.block b hb)⟩
          obtain ⟨ot, ct, rfl, _, _⟩ := own_form hKn7.t
          obtain ⟨ok', ck', rfl, _, _⟩ := own_form hKn7.kr
          have HK7n := hide hKn7
          have HV7 := hide hv7
          have HB7 := hide hB7
          clear hD3 hKn7 hv7 hB7 HKn hK7 HV5 HB5 hlt5 hP5
          go_wp2_with fail
          go_loopw [20] (fun j wq => ∃ k : Nat, k ≤ 3 ∧ j = .int .i64 k ∧ Below w7.heap.size w7 wq) (fun j _ => 3 - (intOf j).toNat)
          case atStart => exact ⟨0, Nat.zero_le _, rfl, Below.refl _ _⟩
          case round =>
            obtain ⟨k, hk3', rfl, hb⟩ := hrel
            have hPr := hP7.below hb
            by_cases hlt : k < 3
            · have hlt' : decide ((k : Int) < 3) = true := by simp; omega
              have hlt'' : decide (k < 3) = true := by simpa using hlt
              have hTx := pText wr _ q W3 k hPr ok3.wg
              rw [textM_congr tw.nodes, textE ok2 hlt] at hTx
              obtain ⟨TX, hTX⟩ : ∃ TX, (textM W2 k).2 = TX := ⟨_, rfl⟩
              rw [hTX] at hTx
              obtain ⟨gt, hgt, hgtl, hct, _⟩ := own1_at (k := k) (u := strV TX) HK7n.out.t (by simp [strC, hlt, hTX])
              subst hgt
              obtain ⟨x, hx⟩ := get_some (l := ss) (k := k) (by rw [HK7n.out.len]; exact hlt)
              obtain ⟨gs, hgs, hgsl, y0, y1, y2, y3⟩ := sv_at HK7n.out.kr HK7n.out.len hx
              subst hgs
              have hsx := HK7n.out.s k x hx
              obtain ⟨hl1, hl2, hl3⟩ := statusL ok2 hlt
              have hsE := statusE ok2 hlt
              have HTX := hide hTX
              have HB := hide hb
              clear hTX hb hx
              go_wp2_with fail
              refine hTx.mono ?_
              rintro e w8 ⟨rfl, hb8⟩
              have hSt := pStatus w8 _ q W3 k (hPr.below hb8) ok3.wg
              rw [statusM_congr tw.nodes, hsE] at hSt
              have HB8 := hide hb8
              clear hTx hb8 hPr
              go_wp2_with fail
              refine hSt.mono ?_
              rintro e w9 ⟨sK, sA, sT, rfl, rK, rA, rT, _, _, _, _, _, _, hb9⟩
              have hb79 : Below w7.heap.size w7 w9 := HB.out.trans ((HB8.out.trans (hb9.mono HB8.out.size)).mono HB.out.size)
              obtain ⟨c0, cK0, cA0, cT0, _, _, _⟩ := hsx
              obtain ⟨xc, xK, xA, xT⟩ := x
              dsimp only at c0 cK0 cA0 cT0 y0 y1 y2 y3
              subst c0
              generalize statusM W2 k = st at *
              obtain ⟨oK, cK, rfl, _, _⟩ := own_form rK
              obtain ⟨oA, cA, rfl, _, _⟩ := own_form rA
              obtain ⟨oT, cT, rfl, _, _⟩ := own_form rT
              obtain ⟨oK', cK', rfl, _, _⟩ := own_form cK0
              obtain ⟨oA', cA', rfl, _, _⟩ := own_form cA0
              obtain ⟨oT', cT', rfl, _, _⟩ := own_form cT0
              have hb10 : Below w9.heap.size w9 (w9.alloc (.cells #[.int .i64 st.count, .slice oK st.kept.length cK, .slice oA st.acked.length cA, .slice oT st.tokens.length cT] 58)) := (Below.refl _ _).alloc (Nat.le_refl _) _
              have q10 := heap_alloc_new w9 (.cells #[.int .i64 st.count, .slice oK st.kept.length cK, .slice oA st.acked.length cA, .slice oT st.tokens.length cT] 58)
              have hb710 := hb79.trans (hb10.mono hb79.size)
              have g0 := (hb710.cell (p := ⟨gs, k * 4, none⟩) hgsl).trans y0
              have g1 := (hb710.cell (p := ⟨gs, k * 4 + 1, none⟩) hgsl).trans y1
              have g2 := (hb710.cell (p := ⟨gs, k * 4 + 2, none⟩) hgsl).trans y2
              have g3 := (hb710.cell (p := ⟨gs, k * 4 + 3, none⟩) hgsl).trans y3
              have gt0 := (hb710.cell (p := ⟨gt, k, none⟩) hgtl).trans hct
              have hgs10 : gs < (w9.alloc (.cells #[.int .i64 st.count, .slice oK st.kept.length cK, .slice oA st.acked.length cA, .slice oT st.tokens.length cT] 58)).heap.size := Nat.lt_of_lt_of_le hgsl hb710.size
              have dr : ∀ W : World, Below W.heap.size W W.drew := fun W => (Below.refl _ _).drew
              have bd : Below w9.heap.size w9 (w9.alloc (.cells #[.int .i64 st.count, .slice oK st.kept.length cK, .slice oA st.acked.length cA, .slice oT st.tokens.length cT] 58)).drew := hb10.drew
              have b7d : Below w7.heap.size w7 (w9.alloc (.cells #[.int .i64 st.count, .slice oK st.kept.length cK, .slice oA st.acked.length cA, .slice oT st.tokens.length cT] 58)).drew := hb710.drew
              have hSm := kSame_any (w9.alloc (.cells #[.int .i64 st.count, .slice oK st.kept.length cK, .slice oA st.acked.length cA, .slice oT st.tokens.length cT] 58)).drew st.count _ _ _ _ _ _ st.kept st.acked st.tokens (own_below rK bd) (own_below rA bd) (own_below rT bd) (own_below cK0 b7d) (own_below cA0 b7d) (own_below cT0 b7d) (by omega) (by omega) (by omega)
              have HSm := hide hSm
              have HB710 := hide hb710
              have Q10 := hide q10
              clear hSt hSm rK rA rT cK0 cA0 cT0 hb9 hb79 hb10 q10 hb710 y0 y1 y2 y3 hct dr bd b7d hsE
              go_wp2_with fail
              generalize w9.alloc (.cells #[.int .i64 st.count, .slice oK st.kept.length cK, .slice oA st.acked.length cA, .slice oT st.tokens.length cT] 58) = W10 at *
              obtain ⟨f10, _⟩ := row_facts Q10.out
              have z0 := f10 0
              have z1 := f10 1
              have z2 := f10 2
              have z3 := f10 3
              simp only [List.getElem?_toArray, List.getElem?_cons_zero, List.getElem?_cons_succ] at z0 z1 z2 z3
              have l10 := lt_of_heap Q10.out
              have lgt : gt < W10.heap.size := Nat.lt_of_lt_of_le hgtl HB710.out.size
              clear f10
              have hG := Grw.cell W10
              have hGn := Grw.some W10
              refine wp_region_fltC [0, 1, 2, 3, 4] [5, 6] (fun w' => ∃ x : Grw W10, w' = x.w) (by kernel_rfl) (by kernel_rfl) (fun _ _ d _ _ h => by cases d <;> exact h) ⟨⟨W10.drew, (Below.refl _ _).drew⟩, rfl⟩ ?_
              simp only [pickOps, List.getElem?_cons_zero, List.getElem?_cons_succ]
              repeat (go_big_quiet_step (fail))
              refine wpQuiet_nil ?_
              refine ⟨_, rfl, ?_⟩
              go_wp2_with fail
              refine HSm.out.mono ?_
              rintro e w11 ⟨rfl, hb11⟩
              have hb11' : Below W10.heap.size W10 w11 := ⟨hb11.os, hb11.tape, hb11.output, hb11.size, hb11.block⟩
              have gt1 := (hb11'.cell (p := ⟨gt, k, none⟩) lgt).trans gt0
              have HB11 := hide hb11'
              clear hb11 hb11' hG hGn g0 g1 g2 g3 gt0 z0 z1 z2 z3 HSm
              go_wp2_with fail
              refine ⟨fun _ => ⟨⟨w11, HB11.out⟩, rfl⟩, _, rfl, ?_⟩
              go_wp2_with fail
              refine ⟨fun h => absurd rfl h, ?_⟩
              unfold wpFin
              go_wp2_with fail
              exact ⟨⟨k + 1, by omega, by go_num, HB710.out.trans (HB11.out.mono HB710.out.size)⟩, by simp [intOf]; omega⟩
            · have hke : k = 3 := by omega
              subst hke
              have hFl := pFlying wr _ q W3 hPr ok3.wg
              have hlen3 : (flyingM W3).length = W3.fly.length := List.length_map _
              have h403 : W3.fly.length ≤ 40 := ok3.wg.elim fun _ h => h.forty
              have htm : (flyingM W)[i]? = some m.t := by simp [flyingM, hmi]
              obtain ⟨gF, hgF, hgFl, yk⟩ := tmK_at HV7.out hlen htm
              subst hgF
              have hyk : m.t.kind = (m.kind : Int) := rfl
              rw [hyk] at yk
              have HB := hide hb
              clear hlt hb hPr htm hyk
              go_wp2_with fail
              refine hFl.mono ?_
              rintro e w8 ⟨v8, rfl, hv8, _, hb8⟩
              unfold TmR at hv8
              rw [hlen3] at hv8
              obtain ⟨o8, c8, rfl, _, _⟩ := own_form hv8
              have hb78 : Below w7.heap.size w7 w8 := HB.out.trans (hb8.mono HB.out.size)
              have yk8 := (hb78.cell (p := ⟨gF, i * 5, none⟩) hgFl).trans yk
              have HBf := hide (HB7.out.trans (hb78.mono HB7.out.size))
              have hfl3 := tw.fly
              have HF3 := hide hfl3
              clear hFl hv8 hb8 hb78 yk
              rcases tw.kind with hkd | hkd
              · have e3 : W3.fly.length = W.fly.length + 1 := by rw [HF3.out, if_pos hkd]
                rw [hkd] at yk8
                rw [e3]
                clear hfl3 tw
                go_wp2_with fail
                go_ret
                exact ⟨rfl, HBf.out⟩
              · have e3 : W3.fly.length = W.fly.length - 1 := by rw [HF3.out, if_neg (by rw [hkd]; decide)]
                have em : ((W.fly.length - 1 : Nat) : Int) = (W.fly.length : Int) - 1 := by omega
                have em2 : (((W.fly.length - 1 : Nat) : Int) == (W.fly.length : Int) - 1) = true := by rw [em]; simp
                rw [hkd] at yk8
                rw [e3]
                clear hfl3 tw
                go_wp2_with fail
                go_ret
                exact ⟨rfl, HBf.out⟩
end Go.Proofs.YtnniimfinakioaaGreatDoor
