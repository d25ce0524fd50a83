import Derived.Test.YtnniimfinakioaaGreatDoorXd
namespace Go.Proofs.YtnniimfinakioaaGreatDoor
open Go.RowKit
attribute [local go_sem ↓] eqTok eqEnt
attribute [local go_sem] toList_nm app_nm size_nm

theorem eMsg : ElemT Tryz.prog 159 198 7 96 := ElemT.mk' (z := .agg #[.int .i64 0, .int .i64 0, .int .i64 0, .int .i64 0, .string ByteArray.empty, .slice none 0 0, .slice none 0 0]) (by kernel_rfl) (by kernel_rfl) rfl (by decide)
abbrev msV (m : MS) : Value := .agg #[.int .i64 m.kind, .int .i64 m.frm, .int .i64 m.to, .int .i64 m.number, strV m.text, m.vL, m.vK]

theorem msC_one (m : MS) (hL : m.vL.oneCell' = true) (hK : m.vK.oneCell' = true) : ∀ u ∈ msC m, u.oneCell' = true := by
  intro u hu
  simp only [msC, List.mem_cons, List.not_mem_nil, or_false] at hu
  rcases hu with rfl | rfl | rfl | rfl | rfl | rfl | rfl <;> first | rfl | assumption

/-- One message more. -/
theorem RefR.flown {w w3 : World} {S Sx : Nat → Prop} {p adds : Nat} {vN vF v3 : Value} {ns : List NS} {ms : List MS} {m : MS} (h : RefR w S p vN ns vF ms adds) (hp : PieceR w S m.vL m.vK m.p)
    (hSx : Sx = fun b => vF.ownBlock = some b) (kp : Kp w.heap.size Sx w w3) (hown : w3.ownsRow 0 198 7 v3 (ms.length + 1) (ms.flatMap msC ++ msC m)) (hat : v3.ownBlock = vF.ownBlock ∨ ∃ b, v3.ownBlock = some b ∧ w.heap.size ≤ b) :
    RefR (w3.setCell ⟨p, 1, none⟩ v3) (Ext S w (w3.setCell ⟨p, 1, none⟩ v3)) p vN ns v3 (ms ++ [m]) adds ∧ Kp w.heap.size S w (w3.setCell ⟨p, 1, none⟩ v3) := by
  have otx : OfT w Sx 198 := by rw [hSx]; exact OfT.own h.fly.row
  have hSxS : ∀ b, Sx b → S b := fun b hb => by rw [hSx] at hb; exact h.fly.s b hb
  have hpx : ¬ Sx p := fun hx => by
    obtain ⟨c', fz, hc⟩ := otx p hx
    rw [h.self] at hc
    simp at hc
  have hplt : p < w.heap.size := h.lt p h.sp
  have self3 := (kp.block p hplt hpx).trans h.self
  have kp5 : Kp w3.heap.size (fun b => b = p) w3 (w3.setCell ⟨p, 1, none⟩ v3) := Kp.set1 w3 p 1 v3
  have ot3 : OfT w3 (fun b => b = p) 161 := fun b hb => ⟨_, _, hb ▸ self3⟩
  have hs3 := kp.size
  have hs : (w3.setCell ⟨p, 1, none⟩ v3).heap.size = w3.heap.size := by simp [World.setCell]
  have kpAll : Kp w.heap.size S w (w3.setCell ⟨p, 1, none⟩ v3) := (kp.mono (Nat.le_refl _) (fun b _ hb => hSxS b hb)).trans (kp5.mono hs3 (fun b _ hb => hb ▸ h.sp))
  have hmono : ∀ b, S b → Ext S w (w3.setCell ⟨p, 1, none⟩ v3) b := fun b hb => Or.inl hb
  have pce : ∀ {a b : Value} {r : Pc}, PieceR w S a b r → PieceR (w3.setCell ⟨p, 1, none⟩ v3) S a b r := fun hp => (hp.kpE kp (Nat.le_refl _) otx (by decide) (by decide)).kpE kp5 (Nat.le_refl _) ot3 (by decide) (by decide)
  have hown5 := own_kpE hown kp5 (Nat.le_refl _) ot3 (by decide)
  refine ⟨⟨?_, ?_, hmono p h.sp, own_kpE (own_kpE h.nodes kp (Nat.le_refl _) otx (by decide)) kp5 (Nat.le_refl _) ot3 (by decide), h.sN.mono hmono, fun n hn => (((h.node n hn).kpE kp (Nat.le_refl _) otx (by decide) (by decide) (by decide) (by decide)).kpE kp5 (Nat.le_refl _) ot3 (by decide) (by decide) (by decide) (by decide)).mono hmono, h.disK, h.disA, ⟨?_, ?_, ?_⟩⟩, kpAll⟩
  · rintro b (hb | hb)
    · exact Nat.lt_of_lt_of_le (h.lt b hb) kpAll.size
    · exact hb.2
  · have := setCell_row (j := 1) self3 v3
    simpa using this
  · have e1 : (ms ++ [m]).length = ms.length + 1 := by simp
    have e2 : (ms ++ [m]).flatMap msC = ms.flatMap msC ++ msC m := by simp
    rw [e1, e2]
    exact hown5
  · intro b hb
    rcases hat with e | ⟨b', e, hb'⟩
    · exact Or.inl (h.fly.s b (e ▸ hb))
    · rw [e] at hb
      simp only [Option.some.injEq] at hb
      subst hb
      exact Or.inr ⟨hb', (hown5.lt b' e).2⟩
  · intro x hx
    simp only [List.mem_append, List.mem_singleton] at hx
    rcases hx with hx | rfl
    · exact (pce (h.fly.piece x hx)).mono hmono
    · exact (pce hp).mono hmono

set_option maxHeartbeats 1000000 in
set_option maxRecDepth 100000 in
theorem fly_no (w : World) (S : Nat → Prop) (p : Nat) (vN : Value) (ns : List NS) (vF : Value) (ms : List MS) (adds : Nat) (h : RefR w S p vN ns vF ms adds) (m : MS) (hlt : 40 ≤ ms.length) (hl : ms.length ≤ 1000) :
    Calls Tryz.prog 140 #[ptr p, msV m] w fun e w' => e = .returned (.tuple #[]) ∧ Below w.heap.size w w' := by
  obtain ⟨o, c, rfl, _, _⟩ := own_form h.fly.row
  obtain ⟨e1, f1⟩ := row_facts h.self
  have hp : p < w.heap.size := lt_of_heap h.self
  have c1 := e1 1
  simp only [List.getElem?_toArray, List.getElem?_cons_zero, List.getElem?_cons_succ] at c1
  have hl' : decide ((ms.length : Int) < 40) = false := by simp; omega
  have hb : Below w.heap.size w (w.alloc (.cells #[.int .i64 m.kind, .int .i64 m.frm, .int .i64 m.to, .int .i64 m.number, strV m.text, m.vL, m.vK] 198)) := (Below.refl _ _).alloc (Nat.le_refl _) _
  have HB := hide hb
  clear e1 f1 hb
  go_enter Tryz.func140, Tryz.ntmps140
  go_wp2_with fail
  go_end0
  exact ⟨rfl, HB.out⟩

set_option maxHeartbeats 1000000 in
set_option maxRecDepth 100000 in
theorem fly_yes (w : World) (S : Nat → Prop) (p : Nat) (vN : Value) (ns : List NS) (vF : Value) (ms : List MS) (adds : Nat) (h : RefR w S p vN ns vF ms adds) (m : MS) (hq : PieceR w S m.vL m.vK m.p) (hlt : ms.length < 40) :
    Calls Tryz.prog 140 #[ptr p, msV m] w fun e w' => e = .returned (.tuple #[]) ∧ (∃ vF', RefR w' (Ext S w w') p vN ns vF' (ms ++ [m]) adds) ∧ Kp w.heap.size S w w' := by
  obtain ⟨mk, mf, mt, mn, mx, vL, vK, mp⟩ := m
  dsimp only [msV] at hq ⊢
  obtain ⟨oL, cL, rfl, _, _⟩ := hq.L.form
  obtain ⟨oK, cK, rfl, _, _⟩ := hq.K.form
  obtain ⟨o, c, rfl, _, _⟩ := own_form h.fly.row
  obtain ⟨e1, f1⟩ := row_facts h.self
  have hplt : p < w.heap.size := lt_of_heap h.self
  have c1 := e1 1
  have z1 := f1 1
  simp only [List.getElem?_toArray, List.getElem?_cons_zero, List.getElem?_cons_succ] at c1
  have hl' : decide ((ms.length : Int) < 40) = true := by simp; omega
  have hb : Below w.heap.size w (w.alloc (.cells #[.int .i64 mk, .int .i64 mf, .int .i64 mt, .int .i64 mn, strV mx, .slice oL mp.L.length cL, .slice oK mp.K.length cK] 198)) := (Below.refl _ _).alloc (Nat.le_refl _) _
  have q0 := heap_alloc_new w (.cells #[.int .i64 mk, .int .i64 mf, .int .i64 mt, .int .i64 mn, strV mx, .slice oL mp.L.length cL, .slice oK mp.K.length cK] 198)
  have HB := hide hb
  have Q0 := hide q0
  clear e1 f1 hb q0
  go_enter Tryz.func140, Tryz.ntmps140
  go_wp2_with fail
  generalize w.alloc (.cells #[.int .i64 mk, .int .i64 mf, .int .i64 mt, .int .i64 mn, strV mx, .slice oL mp.L.length cL, .slice oK mp.K.length cK] 198) = W0 at *
  have hr0 := h.below HB.out
  obtain ⟨e0, _⟩ := row_facts Q0.out
  have d0 := e0 0
  have d1 := e0 1
  have d2 := e0 2
  have d3 := e0 3
  have d4 := e0 4
  have d5 := e0 5
  have d6 := e0 6
  simp only [List.getElem?_toArray, List.getElem?_cons_zero, List.getElem?_cons_succ] at d0 d1 d2 d3 d4 d5 d6
  have hwl : w.heap.size < W0.heap.size := lt_of_heap Q0.out
  have hpl : p < W0.heap.size := by omega
  have c1' := (HB.out.cell (p := ⟨p, 1, none⟩) hplt).trans c1
  obtain ⟨Sx, hSx⟩ : ∃ Sx : Nat → Prop, Sx = fun b => (Value.slice o ms.length c).ownBlock = some b := ⟨_, rfl⟩
  have sp : ¬ Sx p := by rw [hSx]; exact own_ne hr0.fly.row hr0.self (by decide)
  have sb : ¬ Sx w.heap.size := by
    rw [hSx]
    intro hx
    have := h.lt _ (h.fly.s w.heap.size hx)
    omega
  have HSx := hide hSx
  clear e0 c1 z1 hSx
  have hG := GrS.cell W0 Sx
  have hGn := GrS.some W0 Sx
  refine wp_region_flt [0, 1, 2, 3, 4, 5] [6, 7, 8, 9, 10] (fun w' => ∃ x : GrS W0 Sx, w' = x.w) (by kernel_rfl) (by kernel_rfl) (fun _ _ d _ _ h => by cases d <;> exact h) ⟨⟨W0.drew, (Kp.refl _ _ _).drew⟩, rfl⟩ ?_
  simp only [pickOps, List.getElem?_cons_zero, List.getElem?_cons_succ]
  repeat (go_big_quiet_step (fail))
  refine wpQuiet_nil ?_
  refine ⟨_, rfl, ?_⟩
  go_wp2_with fail
  refine ⟨fun _ => ⟨⟨_, ((Kp.refl _ _ _).alloc (Nat.le_refl _) _).drew⟩, rfl⟩, _, rfl, ?_⟩
  refine wpList_app (t := 159) _ eMsg (by rfl) _ _ (by rfl) (.slice o ms.length c) ms.length (ms.flatMap msC) (by rfl) ?own _ 1 (msC ⟨mk, mf, mt, mn, mx, .slice oL mp.L.length cL, .slice oK mp.K.length cK, mp⟩) (by rfl) ?src ?h63 ?hby ?next
  case own => exact hr0.fly.row.alloc _
  case src => exact ⟨rfl, msC_one _ rfl rfl, Or.inr ⟨_, _, rfl, World.news_of_block (cs := #[.int .i64 mk, .int .i64 mf, .int .i64 mt, .int .i64 mn, strV mx, .slice oL mp.L.length cL, .slice oK mp.K.length cK]) (heap_alloc_new W0 _)⟩⟩
  case h63 => simp only [maxLen]; omega
  case hby => omega
  case next =>
    intro v3 w3 hown3 hgr3 hat3
    have kp3 : Kp W0.heap.size Sx W0 w3 := by
      have k1 := ((Kp.refl W0.heap.size Sx W0).alloc (Nat.le_refl _) (.cells #[.int .i64 mk, .int .i64 mf, .int .i64 mt, .int .i64 mn, strV mx, .slice oL mp.L.length cL, .slice oK mp.K.length cK] 198)).drew
      exact k1.grown hgr3 (by simp) (fun k hk => Or.inr (by rw [HSx.out]; exact hk))
    obtain ⟨o3, c3, rfl, _, _⟩ := own_form hown3
    obtain ⟨e3, f3⟩ := row_facts ((kp3.block p hpl sp).trans hr0.self)
    have c3' := e3 1
    have z3' := f3 1
    simp only [List.getElem?_toArray, List.getElem?_cons_zero, List.getElem?_cons_succ] at c3'
    clear e3 f3
    go_wp2_with fail
    refine ⟨fun _ => ⟨⟨w3, kp3⟩, rfl⟩, _, rfl, ?_⟩
    go_wp2_with fail
    refine ⟨fun _ => ⟨⟨w3, kp3⟩, rfl⟩, _, rfl, ?_⟩
    go_wp2_with fail
    refine ⟨fun _ => ⟨⟨w3, kp3⟩, rfl⟩, _, rfl, ?_⟩
    go_wp2_with fail
    refine ⟨fun h => absurd rfl h, ?_⟩
    unfold wpFin
    go_wp2_with fail
    have fin := hr0.flown (m := ⟨mk, mf, mt, mn, mx, .slice oL mp.L.length cL, .slice oK mp.K.length cK, mp⟩) (hq.below HB.out) (Sx := Sx) HSx.out kp3 hown3 (by
      rcases hat3 with e | e
      · exact Or.inl e
      · exact Or.inr ⟨_, e, by simp⟩)
    have hs1 := HB.out.size
    go_end0
    refine ⟨rfl, ⟨_, fin.1.mono (fun b hb => ?_) (fun b hb => ?_)⟩, (Kp.ofBelow HB.out).trans (fin.2.mono hs1 fun _ _ x => x)⟩
    · rcases hb with x | x
      · exact Or.inl x
      · exact Or.inr ⟨by omega, x.2⟩
    · rcases hb with x | x
      · have := fin.2.size
        exact Nat.lt_of_lt_of_le (h.lt b x) (Nat.le_trans hs1 this)
      · exact x.2
end Go.Proofs.YtnniimfinakioaaGreatDoor
namespace Go.Proofs.YtnniimfinakioaaGreatDoor
open Go.RowKit
attribute [local go_sem ↓] eqTok eqEnt
attribute [local go_sem] toList_nm app_nm size_nm

theorem take_succ_eq {α : Type} {a b : List α} {k : Nat} {x y : α} (h : a.take k = b.take k) (hx : a[k]? = some x) (hy : b[k]? = some y) : a.take (k + 1) = b.take (k + 1) ↔ x = y := by
  rw [take_snoc' hx, take_snoc' hy, h]
  simp
theorem ne_of_take {α : Type} {a b : List α} {k : Nat} (h : ¬ a.take k = b.take k) : ¬ a = b := fun e => h (by rw [e])

set_option maxHeartbeats 2000000 in
set_option maxRecDepth 100000 in
theorem same_any (vaL vaK vbL vbK : Value) (aL bL : List Ent) (aK bK : List Tok) (w : World) (ha : EntR w vaL aL) (hak : TokR w vaK aK) (hb : EntR w vbL bL) (hbk : TokR w vbK bK) (h1 : aL.length ≤ 100000) (h2 : aK.length ≤ 100000) :
    Calls Tryz.prog 161 #[.agg #[vaL, vaK], .agg #[vbL, vbK]] w fun e w' => e = .returned (.bool (decide (aL = bL ∧ aK = bK))) ∧ Below w.heap.size w w' := by
  obtain ⟨oa, ca, rfl, _, _⟩ := ha.form
  obtain ⟨oak, cak, rfl, _, _⟩ := hak.form
  obtain ⟨ob, cb, rfl, _, _⟩ := hb.form
  obtain ⟨obk, cbk, rfl, _, _⟩ := hbk.form
  have hbb : Below w.heap.size w ((w.alloc (.cells #[.slice oa aL.length ca, .slice oak aK.length cak] 165)).alloc (.cells #[.slice ob bL.length cb, .slice obk bK.length cbk] 165)) := below2 w _ _
  have HBB := hide hbb
  clear hbb
  by_cases hl : aL.length = bL.length
  · by_cases hl2 : aK.length = bK.length
    · have n1 : ((aL.length : Int) != (bL.length : Int)) = false := by simp [hl]
      have n2 : ((aK.length : Int) != (bK.length : Int)) = false := by simp [hl2]
      have HL1 := hide hl
      have HL2 := hide hl2
      clear hl hl2
      go_enter Tryz.func161, Tryz.ntmps161
      go_wp2
      go_loopw [5] (fun i wr => ∃ k : Nat, k ≤ aL.length ∧ i = .int .i64 k ∧ aL.take k = bL.take k ∧ Below (w.heap.size + 1 + 1) ((w.alloc (.cells #[.slice oa aL.length ca, .slice oak aK.length cak] 165)).alloc (.cells #[.slice ob bL.length cb, .slice obk bK.length cbk] 165)) wr) (fun i _ => aL.length - (intOf i).toNat)
      case atStart => exact ⟨0, Nat.zero_le _, rfl, rfl, Below.refl _ _⟩
      case round =>
        obtain ⟨k, hk, rfl, htk, hbel⟩ := hrel
        obtain ⟨e1, _, e2, _, e3, e4, e5⟩ := bx2 hbel
        have HTK := hide htk
        have HBE := hide hbel
        have H4 := hide e4
        clear htk hbel e4
        by_cases hlt : k < aL.length
        · obtain ⟨x, hx⟩ := get_some hlt
          obtain ⟨y, hy⟩ := get_some (l := bL) (k := k) (by have := HL1.out; omega)
          have hlt2 : k < bL.length := by have := HL1.out; omega
          obtain ⟨g, rfl, hg, c1, c2, c3⟩ := ha.at hx
          obtain ⟨g', rfl, hg', d1, d2, d3⟩ := hb.at hy
          have hTE := take_succ_eq HTK.out hx hy
          have HTE := hide hTE
          clear hTE hx hy
          by_cases heq : x = y
          · subst heq
            have hT := HTE.out.2 rfl
            have HT := hide hT
            clear hT HTE ha hb hak hbk
            go_wp2
            go_quiet (fail)
            go_wp2
            go_roundw
            case rel => exact ⟨k + 1, by omega, by go_num, HT.out, ⟨HBE.out.os, HBE.out.tape, HBE.out.output, HBE.out.size, HBE.out.block⟩⟩
            case measure => simp [intOf]; omega
          · have hne : (x.1 == y.1 && (x.2.1 == y.2.1 && x.2.2 == y.2.2)) = false := by
              rcases x with ⟨x0, x1, x2⟩
              rcases y with ⟨t0, t1, t2⟩
              simp only [Prod.mk.injEq] at heq
              simpa using heq
            have hT : ¬ (aL = bL ∧ aK = bK) := fun e => heq (HTE.out.1 (by rw [e.1]))
            have HT := hide hT
            clear hT HTE heq ha hb hak hbk
            go_wp2
            go_quiet (fail)
            go_wp2
            go_ret
            exact ⟨ret_bool (decide_eq_false HT.out).symm, ⟨H4.out.os, H4.out.tape, H4.out.output, H4.out.size, H4.out.block⟩⟩
        · have hkl : k = aL.length := by omega
          subst hkl
          have hAB : aL = bL := by
            have := HTK.out
            rw [List.take_of_length_le (Nat.le_refl _), List.take_of_length_le (by have := HL1.out; omega)] at this
            exact this
          have HAB := hide hAB
          clear hAB ha hb hk
          go_wp2
          go_loopw [6] (fun i wr => ∃ k : Nat, k ≤ aK.length ∧ i = .int .i64 k ∧ aK.take k = bK.take k ∧ Below (w.heap.size + 1 + 1) ((w.alloc (.cells #[.slice oa aL.length ca, .slice oak aK.length cak] 165)).alloc (.cells #[.slice ob bL.length cb, .slice obk bK.length cbk] 165)) wr) (fun i _ => aK.length - (intOf i).toNat)
          case atStart => exact ⟨0, Nat.zero_le _, rfl, rfl, HBE.out⟩
          case round =>
            clear e1 e2 e3 e5 H4 HBE HTK hlt
            obtain ⟨k, hk, rfl, htk, hbel⟩ := hrel
            obtain ⟨e1, _, e2, _, e3, e4, e5⟩ := bx2 hbel
            have HTK := hide htk
            have HBE := hide hbel
            have H4 := hide e4
            clear htk hbel e4
            by_cases hlt : k < aK.length
            · obtain ⟨x, hx⟩ := get_some hlt
              obtain ⟨y, hy⟩ := get_some (l := bK) (k := k) (by have := HL2.out; omega)
              have hlt2 : k < bK.length := by have := HL2.out; omega
              obtain ⟨g, rfl, hg, c1, c2⟩ := hak.at hx
              obtain ⟨g', rfl, hg', d1, d2⟩ := hbk.at hy
              have hTE := take_succ_eq HTK.out hx hy
              have HTE := hide hTE
              clear hTE hx hy
              by_cases heq : x = y
              · subst heq
                have hT := HTE.out.2 rfl
                have HT := hide hT
                clear hT HTE hak hbk
                go_wp2
                go_quiet (fail)
                go_wp2
                go_roundw
                case rel => exact ⟨k + 1, by omega, by go_num, HT.out, ⟨HBE.out.os, HBE.out.tape, HBE.out.output, HBE.out.size, HBE.out.block⟩⟩
                case measure => simp [intOf]; omega
              · have hne : (x.1 == y.1 && x.2 == y.2) = false := by
                  rcases x with ⟨x1, x2⟩
                  rcases y with ⟨t1, t2⟩
                  simp only [Prod.mk.injEq] at heq
                  simpa using heq
                have hT : ¬ (aL = bL ∧ aK = bK) := fun e => heq (HTE.out.1 (by rw [e.2]))
                have HT := hide hT
                clear hT HTE heq hak hbk
                go_wp2
                go_quiet (fail)
                go_wp2
                go_ret
                exact ⟨ret_bool (decide_eq_false HT.out).symm, ⟨H4.out.os, H4.out.tape, H4.out.output, H4.out.size, H4.out.block⟩⟩
            · have hkl : k = aK.length := by omega
              subst hkl
              have hAB2 : aK = bK := by
                have := HTK.out
                rw [List.take_of_length_le (Nat.le_refl _), List.take_of_length_le (by have := HL2.out; omega)] at this
                exact this
              have HAB2 := hide hAB2
              clear hAB2 hak hbk hk
              go_wp2
              go_ret
              exact ⟨ret_bool (decide_eq_true ⟨HAB.out, HAB2.out⟩).symm, H4.out⟩
    · have n1 : ((aL.length : Int) != (bL.length : Int)) = false := by simp [hl]
      have n2 : ((aK.length : Int) != (bK.length : Int)) = true := by simpa using fun e : (aK.length : Int) = bK.length => hl2 (by omega)
      have hne : ¬ (aL = bL ∧ aK = bK) := fun e => hl2 (by rw [e.2])
      have HN := hide hne
      clear hne hl2 hl ha hak hb hbk
      go_enter Tryz.func161, Tryz.ntmps161
      go_wp2
      go_ret
      exact ⟨ret_bool (decide_eq_false HN.out).symm, HBB.out⟩
  · have n1 : ((aL.length : Int) != (bL.length : Int)) = true := by simpa using fun e : (aL.length : Int) = bL.length => hl (by omega)
    have hne : ¬ (aL = bL ∧ aK = bK) := fun e => hl (by rw [e.1])
    have HN := hide hne
    clear hne hl ha hak hb hbk
    go_enter Tryz.func161, Tryz.ntmps161
    go_wp2
    go_ret
    exact ⟨ret_bool (decide_eq_false HN.out).symm, HBB.out⟩
end Go.Proofs.YtnniimfinakioaaGreatDoor
namespace Go.Proofs.YtnniimfinakioaaGreatDoor
open Go.RowKit
attribute [local go_sem ↓] eqTok eqEnt
attribute [local go_sem] toList_nm app_nm size_nm

theorem kept_at3 {w : World} {o : Option Addr} {n c : Nat} {l : List KS} (h : w.ownsRow 0 196 3 (.slice o n c) n (l.flatMap ksC)) {k : Nat} {x : KS} (hk : l[k]? = some x) :
    ∃ g, o = some ⟨g, 0, none⟩ ∧ g < w.heap.size ∧ w.cell? ⟨g, k * 3, none⟩ = some (.int .i64 (x.n : Int)) ∧ w.cell? ⟨g, k * 3 + 1, none⟩ = some x.vL ∧ w.cell? ⟨g, k * 3 + 2, none⟩ = some x.vK := by
  have hk' : k < l.length := (List.getElem?_eq_some_iff.1 hk).1
  have hl := h.1
  rw [flat_len ksW] at hl
  rcases h.2 with ⟨hx, h0⟩ | ⟨g, cap, cur, hx, hb, hgg, h1, h2, h3, h4⟩
  · omega
  · simp only [Value.slice.injEq] at hx
    obtain ⟨rfl, _, rfl⟩ := hx
    refine ⟨g, rfl, lt_of_heap hgg, own_cell h rfl ?_, own_cell h rfl ?_, own_cell h rfl ?_⟩
    · have := flat_get ksW l k 0 x hk (by decide)
      simpa [ksC] using this
    · have := flat_get ksW l k 1 x hk (by decide)
      simpa [ksC] using this
    · have := flat_get ksW l k 2 x hk (by decide)
      simpa [ksC] using this

/-- What is sent: all that is kept from a on, joined; or the whole basket. -/
def stepP (a : Nat) (p : Pc) (k : Nat × Pc) : Pc := if a ≤ k.1 then joinP p k.2 else p
def foldP (a : Nat) (l : List (Nat × Pc)) : Pc := l.foldl (stepP a) ⟨[], []⟩
def sendP (d : Nd) (a : Nat) : Pc := match d.kept with
  | [] => d.p
  | k :: _ => if k.1 ≤ a then foldP a d.kept else d.p
def stepS (a : Nat) (p : Pc) (k : KS) : Pc := if a ≤ k.n then joinP p k.p else p
theorem foldP_map (a : Nat) (l : List KS) : foldP a (l.map KS.m) = l.foldl (stepS a) ⟨[], []⟩ := by
  unfold foldP
  rw [List.foldl_map]
  rfl

/-- The world while message is at work. -/
structure MgR (w : World) (S : Nat → Prop) (nc : Array Value) (vL vK : Value) (q : Pc) (wr : World) : Prop where
  bel : Below w.heap.size w wr
  out : wr.heap[w.heap.size]? = some (.cells #[.int .i64 0, .int .i64 0, .int .i64 0, .int .i64 0, .string ⟨#[]⟩, .slice none 0 0, .slice none 0 0] 198 (0, 0))
  nd : wr.heap[w.heap.size + 1]? = some (.cells nc 168 (0, 0))
  bx : wr.heap[w.heap.size + 1 + 1]? = some (.cells #[vL, vK] 165 (0, 0))
  L : EntR wr vL q.L
  K : TokR wr vK q.K
  nL : ∀ g, vL.ownBlock = some g → S g ∨ w.heap.size + 1 + 1 + 1 ≤ g
  nK : ∀ g, vK.ownBlock = some g → S g ∨ w.heap.size + 1 + 1 + 1 ≤ g
section
variable {w wr w1 : World} {S : Nat → Prop} {nc : Array Value} {vL vK : Value} {q : Pc}
theorem MgR.below (h : MgR w S nc vL vK q wr) (k : Below wr.heap.size wr w1) : MgR w S nc vL vK q w1 :=
  ⟨h.bel.trans (k.mono h.bel.size), (k.block _ (lt_of_heap h.out)).trans h.out, (k.block _ (lt_of_heap h.nd)).trans h.nd, (k.block _ (lt_of_heap h.bx)).trans h.bx, h.L.below k, h.K.below k, h.nL, h.nK⟩
theorem MgR.set {vL' vK' : Value} {q' : Pc} (h : MgR w S nc vL vK q wr) (hL : EntR wr vL' q'.L) (hK : TokR wr vK' q'.K) (nL : ∀ g, vL'.ownBlock = some g → w.heap.size + 1 + 1 + 1 ≤ g) (nK : ∀ g, vK'.ownBlock = some g → w.heap.size + 1 + 1 + 1 ≤ g) :
    MgR w S nc vL' vK' q' ((wr.setCell ⟨w.heap.size + 1 + 1, 0, none⟩ vL').setCell ⟨w.heap.size + 1 + 1, 1, none⟩ vK') := by
  have kp : Kp wr.heap.size (fun b => b = w.heap.size + 1 + 1) wr ((wr.setCell ⟨w.heap.size + 1 + 1, 0, none⟩ vL').setCell ⟨w.heap.size + 1 + 1, 1, none⟩ vK') := (Kp.set1 wr _ _ _).setCell (p := ⟨w.heap.size + 1 + 1, 1, none⟩) (Or.inr rfl) _
  refine ⟨?_, (kp.block _ (lt_of_heap h.out) (by omega)).trans h.out, (kp.block _ (lt_of_heap h.nd) (by omega)).trans h.nd, ?_, own_kp hL kp fun g hg => ⟨(hL.lt g hg).2, by have := nL g hg; omega⟩, own_kp hK kp fun g hg => ⟨(hK.lt g hg).2, by have := nK g hg; omega⟩, fun g hg => Or.inr (nL g hg), fun g hg => Or.inr (nK g hg)⟩
  · exact (h.bel.setCell (p := ⟨w.heap.size + 1 + 1, 0, none⟩) (by simp; omega) _).setCell (p := ⟨w.heap.size + 1 + 1, 1, none⟩) (by simp; omega) _
  · have e1 := setCell_row (j := 0) h.bx vL'
    have e2 := setCell_row (j := 1) e1 vK'
    simpa using e2
theorem MgR.done {w8 : World} (h : MgR w S nc vL vK q wr) (hS : ∀ b, S b → b < w.heap.size) (kp : Kp wr.heap.size (fun b => b = w.heap.size) wr w8) : PieceR w8 (Ext S w w8) vL vK q ∧ Below w.heap.size w w8 := by
  have hL : EntR w8 vL q.L := own_kp h.L kp fun g hg => ⟨(h.L.lt g hg).2, by
    rcases h.nL g hg with x | x
    · have := hS g x; omega
    · omega⟩
  have hK : TokR w8 vK q.K := own_kp h.K kp fun g hg => ⟨(h.K.lt g hg).2, by
    rcases h.nK g hg with x | x
    · have := hS g x; omega
    · omega⟩
  refine ⟨⟨hL, hK, fun g hg => ?_, fun g hg => ?_⟩, ⟨kp.os.trans h.bel.os, kp.tape.trans h.bel.tape, kp.output.trans h.bel.output, Nat.le_trans h.bel.size kp.size, fun b hb => (kp.block b (Nat.lt_of_lt_of_le hb h.bel.size) (by omega)).trans (h.bel.block b hb)⟩⟩
  · rcases h.nL g hg with x | x
    · exact Or.inl x
    · exact Or.inr ⟨by omega, (hL.lt g hg).2⟩
  · rcases h.nK g hg with x | x
    · exact Or.inl x
    · exact Or.inr ⟨by omega, (hK.lt g hg).2⟩
end


set_option maxHeartbeats 4000000 in
set_option maxRecDepth 100000 in
theorem message_yes (w : World) (S : Nat → Prop) (p : Nat) (vN : Value) (ns : List NS) (vF : Value) (ms : List MS) (adds : Nat) (h : RefR w S p vN ns vF ms adds) (i j : Nat) (d : NS) (hd : ns[i]? = some d) (a : Nat) (ha : d.acked[j]? = some a) (hlt : a < d.count)
    (hk : d.kept.length ≤ 1000000) (hks : ∀ x ∈ d.kept, SmallP x.p ∧ x.n ≤ 1000000) (hsm : ∀ k, SmallP ((d.kept.take k).foldl (stepS a) ⟨[], []⟩)) (hok : SmallP (sendP d.m a) ∧ (∀ e ∈ (sendP d.m a).L, EntOk e) ∧ ∀ t ∈ (sendP d.m a).K, TokOk t) :
    Calls Tryz.prog 139 #[ptr p, .int .i64 i, .int .i64 j] w fun e w' => ∃ vL vK, e = .returned (.tuple #[.agg #[.int .i64 1, .int .i64 i, .int .i64 j, .int .i64 d.count, strV (pieceT (sendP d.m a).L (sendP d.m a).K), vL, vK], .bool true]) ∧ PieceR w' (Ext S w w') vL vK (sendP d.m a) ∧ Below w.heap.size w w' := by
  obtain ⟨g, c, rfl, hSg, hg, hgp, hcell, hfz⟩ := h.at hd
  have hnd := h.node d (List.mem_of_getElem? hd)
  have hi : i < ns.length := (List.getElem?_eq_some_iff.1 hd).1
  obtain ⟨e1, _⟩ := row_facts h.self
  have hplt : p < w.heap.size := lt_of_heap h.self
  have cp := e1 0
  have c0 := hcell 0 (by decide)
  have c1 := hcell 1 (by decide)
  have c2 := hcell 2 (by decide)
  have c3 := hcell 3 (by decide)
  have c4 := hcell 4 (by decide)
  have c5 := hcell 5 (by decide)
  simp only [nsC, List.getElem?_cons_zero, List.getElem?_cons_succ, Nat.add_zero, List.getElem?_toArray] at c0 c1 c2 c3 c4 c5 cp
  obtain ⟨odL, cdL, hdL, _, _⟩ := hnd.pc.L.form
  obtain ⟨odK, cdK, hdK, _, _⟩ := hnd.pc.K.form
  obtain ⟨oKe, cKe, hKe, _, _⟩ := own_form hnd.kept
  obtain ⟨oA, cA, hA, _, _⟩ := own_form hnd.acked
  rw [hdL] at c0
  rw [hdK] at c1
  rw [hKe] at c3
  rw [hA] at c4
  have hjl : j < d.acked.length := (List.getElem?_eq_some_iff.1 ha).1
  have hau : (intC d.acked)[j]? = some (.int .i64 a) := by simp [intC, ha]
  obtain ⟨gA, hgA, hgAl, hcA, _⟩ := own1_at (hA ▸ hnd.acked) hau
  subst hgA
  have hge : decide (d.count ≤ a) = false := by simp; omega
  have hge3 : ¬ d.count ≤ a := by omega
  obtain ⟨W1, hW1⟩ : ∃ W1, ((w.alloc (.cells #[.int .i64 0, .int .i64 0, .int .i64 0, .int .i64 0, .string ⟨#[]⟩, .slice none 0 0, .slice none 0 0] 198)).alloc (.cells #[.slice odL d.p.L.length cdL, .slice odK d.p.K.length cdK, .int .i64 d.count, .slice oKe d.kept.length cKe, .slice (some ⟨gA, 0, none⟩) d.acked.length cA, .int .i64 d.made] 168)).alloc (.cells #[.slice odL d.p.L.length cdL, .slice odK d.p.K.length cdK] 165) = W1 := ⟨_, rfl⟩
  have hb1 : Below w.heap.size w W1 := by rw [← hW1]; exact (below2 w _ _).alloc (by simp; omega) _
  have hj : MgR w S #[.slice odL d.p.L.length cdL, .slice odK d.p.K.length cdK, .int .i64 d.count, .slice oKe d.kept.length cKe, .slice (some ⟨gA, 0, none⟩) d.acked.length cA, .int .i64 d.made] (.slice odL d.p.L.length cdL) (.slice odK d.p.K.length cdK) d.p W1 := by
    refine ⟨hb1, ?_, ?_, ?_, hdL ▸ hnd.pc.L.below hb1, hdK ▸ hnd.pc.K.below hb1, fun y hy => Or.inl (hnd.pc.sL y (hdL ▸ hy)), fun y hy => Or.inl (hnd.pc.sK y (hdK ▸ hy))⟩
    · rw [← hW1]; exact alloc_at (alloc_at (heap_alloc_new w _) _) _
    · rw [← hW1]; refine alloc_at ?_ _; have := heap_alloc_new (w.alloc (.cells #[.int .i64 0, .int .i64 0, .int .i64 0, .int .i64 0, .string ⟨#[]⟩, .slice none 0 0, .slice none 0 0] 198)) (.cells #[.slice odL d.p.L.length cdL, .slice odK d.p.K.length cdK, .int .i64 d.count, .slice oKe d.kept.length cKe, .slice (some ⟨gA, 0, none⟩) d.acked.length cA, .int .i64 d.made] 168); rw [World.size_alloc] at this; exact this
    · rw [← hW1]
      have := heap_alloc_new ((w.alloc (.cells #[.int .i64 0, .int .i64 0, .int .i64 0, .int .i64 0, .string ⟨#[]⟩, .slice none 0 0, .slice none 0 0] 198)).alloc (.cells #[.slice odL d.p.L.length cdL, .slice odK d.p.K.length cdK, .int .i64 d.count, .slice oKe d.kept.length cKe, .slice (some ⟨gA, 0, none⟩) d.acked.length cA, .int .i64 d.made] 168)) (.cells #[.slice odL d.p.L.length cdL, .slice odK d.p.K.length cdK] 165)
      simp only [World.size_alloc] at this
      exact this
  have hkrow : w.ownsRow 0 196 3 (.slice oKe d.kept.length cKe) d.kept.length (d.kept.flatMap ksC) := hKe ▸ hnd.kept
  have hkp := hnd.keptP
  obtain ⟨n9, _⟩ := row_facts hj.nd
  have r2 := n9 2
  have r3 := n9 3
  simp only [List.getElem?_toArray, List.getElem?_cons_zero, List.getElem?_cons_succ] at r2 r3
  clear hcell e1 n9
  cases hkk : d.kept with
  | nil =>
    have hsend : sendP d.m a = d.p := by simp [sendP, NS.m, hkk]
    rw [hsend] at hok ⊢
    simp only [hkk, List.length_nil] at r3 c3 hW1 hj
    go_enter Tryz.func139, Tryz.ntmps139
    go_wp2_with fail
    clear hW1
    obtain ⟨n9, _⟩ := row_facts hj.nd
    have r2 := n9 2
    obtain ⟨b9, _⟩ := row_facts hj.bx
    have b0 := b9 0
    have b1 := b9 1
    simp only [List.getElem?_toArray, List.getElem?_cons_zero, List.getElem?_cons_succ] at r2 b0 b1
    have l1 := lt_of_heap hj.nd
    have l2 := lt_of_heap hj.bx
    have l0 := lt_of_heap hj.out
    have hTx := ptext_any _ _ d.p.L d.p.K W1.drew (hj.L.below (Below.refl _ _).drew) (hj.K.below (Below.refl _ _).drew) hok.1.1 hok.1.2 hok.2.1 hok.2.2
    have HJ := hide hj
    clear hj n9 b9
    generalize W1 = wq at *
    obtain ⟨Sx, hSx⟩ : ∃ Sx : Nat → Prop, Sx = fun b => b = w.heap.size := ⟨_, rfl⟩
    have s1 : ¬ Sx (w.heap.size + 1) := by rw [hSx]; show ¬ w.heap.size + 1 = w.heap.size; omega
    have s2 : ¬ Sx (w.heap.size + 1 + 1) := by rw [hSx]; show ¬ w.heap.size + 1 + 1 = w.heap.size; omega
    have HSx := hide hSx
    clear hSx
    have hG := GrS.cell wq Sx
    have hGn := GrS.some wq Sx
    refine wp_region_flt [0, 1, 2, 3, 4, 7] [5, 6, 8, 9, 10] (fun w' => ∃ x : GrS wq Sx, w' = x.w) (by kernel_rfl) (by kernel_rfl) (fun _ _ d _ _ h => by cases d <;> exact h) ⟨⟨wq.drew, (Kp.refl _ _ _).drew⟩, rfl⟩ ?_
    simp only [pickOps, List.getElem?_cons_zero, List.getElem?_cons_succ]
    repeat (go_big_quiet_step (fail))
    refine wpQuiet_nil ?_
    refine ⟨_, rfl, ?_⟩
    go_wp2_with fail
    refine hTx.mono ?_
    rintro e w7 ⟨rfl, hb7⟩
    have hb7' : Below wq.heap.size wq w7 := ⟨hb7.os, hb7.tape, hb7.output, hb7.size, hb7.block⟩
    obtain ⟨TX, hTX⟩ : ∃ TX, pieceT d.p.L d.p.K = TX := ⟨_, rfl⟩
    rw [hTX]
    have HTX := hide hTX
    have hj7 := HJ.out.below hb7'
    obtain ⟨o9, f9⟩ := row_facts hj7.out
    have x0 := o9 0
    have x1 := o9 1
    have x2 := o9 2
    have x3 := o9 3
    have x4 := o9 4
    have x5 := o9 5
    have x6 := o9 6
    have y0 := f9 0
    have y1 := f9 1
    have y2 := f9 2
    have y3 := f9 3
    have y4 := f9 4
    have y5 := f9 5
    have y6 := f9 6
    simp only [List.getElem?_toArray, List.getElem?_cons_zero, List.getElem?_cons_succ] at x0 x1 x2 x3 x4 x5 x6
    have HJ7 := hide hj7
    have HB7 := hide hb7'
    clear hTx hb7 hb7' hTX o9 f9 hG hGn hj7
    go_wp2_with fail
    refine ⟨fun _ => ⟨⟨w7, Kp.ofBelow HB7.out⟩, rfl⟩, _, rfl, ?_⟩
    go_wp2_with fail
    refine ⟨fun _ => ⟨⟨w7, Kp.ofBelow HB7.out⟩, rfl⟩, _, rfl, ?_⟩
    go_wp2_with fail
    refine ⟨fun _ => ⟨⟨w7, Kp.ofBelow HB7.out⟩, rfl⟩, _, rfl, ?_⟩
    go_wp2_with fail
    have kpS : Kp w7.heap.size (fun b => b = w.heap.size) w7 (((((((w7.setCell ⟨w.heap.size, 0, none⟩ (.int .i64 1)).setCell ⟨w.heap.size, 1, none⟩ (.int .i64 i)).setCell ⟨w.heap.size, 2, none⟩ (.int .i64 j)).setCell ⟨w.heap.size, 3, none⟩ (.int .i64 d.count)).setCell ⟨w.heap.size, 4, none⟩ (strV TX)).setCell ⟨w.heap.size, 5, none⟩ (.slice odL d.p.L.length cdL)).setCell ⟨w.heap.size, 6, none⟩ (.slice odK d.p.K.length cdK)) :=
      ((((((Kp.set1 w7 w.heap.size 0 _).setCell (p := ⟨w.heap.size, 1, none⟩) (Or.inr rfl) _).setCell (p := ⟨w.heap.size, 2, none⟩) (Or.inr rfl) _).setCell (p := ⟨w.heap.size, 3, none⟩) (Or.inr rfl) _).setCell (p := ⟨w.heap.size, 4, none⟩) (Or.inr rfl) _).setCell (p := ⟨w.heap.size, 5, none⟩) (Or.inr rfl) _).setCell (p := ⟨w.heap.size, 6, none⟩) (Or.inr rfl) _
    have fin := HJ7.out.done h.lt kpS
    have HF := hide fin
    have hs7 := HB7.out.size
    refine ⟨fun _ => ⟨⟨_, (Kp.ofBelow HB7.out).trans (kpS.mono hs7 fun b _ hb => by rw [HSx.out]; exact hb)⟩, rfl⟩, _, rfl, ?_⟩
    clear fin kpS
    go_wp2_with fail
    refine ⟨fun h => absurd rfl h, ?_⟩
    unfold wpFin
    go_wp2_with fail
    refine bodyPost_ret (v := .tuple #[.agg #[.int .i64 1, .int .i64 i, .int .i64 j, .int .i64 d.count, strV TX, .slice odL d.p.L.length cdL, .slice odK d.p.K.length cdK], .bool true]) (by simp [results, Tryz.results139, go_sem, x0, x1, x2, x3, x4, x5, x6]) rfl ⟨_, _, by rw [HTX.out], HF.out.1, HF.out.2⟩
  | cons k0 rest =>
    have hk0 : d.kept[0]? = some k0 := by rw [hkk]; rfl
    have hpos : 0 < d.kept.length := by rw [hkk]; simp
    have hpos' : decide ((0 : Int) < (d.kept.length : Int)) = true := by simp; omega
    obtain ⟨gK, rfl, hgK, k1, _, _⟩ := kept_at3 hkrow hk0
    have k1' := (hb1.cell (p := ⟨gK, 0, none⟩) hgK).trans (by simpa using k1)
    by_cases hle : k0.n ≤ a
    · have hsend : sendP d.m a = d.kept.foldl (stepS a) ⟨[], []⟩ := by
        rw [← foldP_map]
        simp only [sendP, NS.m, hkk, List.map_cons, KS.m, if_pos hle]
      obtain ⟨Q, hQ⟩ : ∃ Q, d.kept.foldl (stepS a) ⟨[], []⟩ = Q := ⟨_, rfl⟩
      rw [hsend, hQ] at hok ⊢
      have HQ := hide hQ
      clear hQ hsend
      have hle' : decide ((k0.n : Int) ≤ (a : Int)) = true := by simp; omega
      clear hkk
      have hj0 := hj.set (vL' := .slice none 0 0) (vK' := .slice none 0 0) (q' := ⟨[], []⟩) (World.ownsRow_nil _ _ _ _) (World.ownsRow_nil _ _ _ _) (fun _ h => by simp [Value.ownBlock] at h) (fun _ h => by simp [Value.ownBlock] at h)
      have HJ0 := hide hj0
      obtain ⟨b9, f9⟩ := row_facts hj.bx
      have b0 := b9 0
      have b1 := b9 1
      have y0 := f9 0
      have y1 := f9 1
      simp only [List.getElem?_toArray, List.getElem?_cons_zero, List.getElem?_cons_succ] at b0 b1
      clear b9 f9
      have HN := hide (List.getElem?_eq_some_iff.1 hk0).1
      clear hj0
      go_enter Tryz.func139, Tryz.ntmps139
      go_wp2_with fail
      clear hW1
      go_loopw [11] (fun ix wr => ∃ (k : Nat) (vL vK : Value), k ≤ d.kept.length ∧ ix = .int .i64 k ∧ MgR w S #[.slice odL d.p.L.length cdL, .slice odK d.p.K.length cdK, .int .i64 d.count, .slice (some ⟨gK, 0, none⟩) d.kept.length cKe, .slice (some ⟨gA, 0, none⟩) d.acked.length cA, .int .i64 d.made] vL vK ((d.kept.take k).foldl (stepS a) ⟨[], []⟩) wr) (fun ix _ => d.kept.length - (intOf ix).toNat)
      case atStart => exact ⟨0, _, _, Nat.zero_le _, rfl, HJ0.out⟩
      case round =>
        obtain ⟨k, vL, vK, hk, rfl, hj⟩ := hrel
        obtain ⟨n9, _⟩ := row_facts hj.nd
        have r3 := n9 2
        simp only [List.getElem?_toArray, List.getElem?_cons_zero, List.getElem?_cons_succ] at r3
        have r4 := n9 3
        simp only [List.getElem?_toArray, List.getElem?_cons_zero, List.getElem?_cons_succ] at r4
        clear n9 r2
        by_cases hkl : k < d.kept.length
        · obtain ⟨x, hx⟩ := get_some hkl
          have hlt : decide ((k : Int) < (d.kept.length : Int)) = true := by simp; omega
          obtain ⟨gK', hgKe, _, q1, q2, q3⟩ := kept_at3 hkrow hx
          simp only [Option.some.injEq, Addr.mk.injEq, and_true] at hgKe
          subst hgKe
          have q1' := (hj.bel.cell (p := ⟨gK, k * 3, none⟩) hgK).trans q1
          have hxp := hkp x (List.mem_of_getElem? hx)
          have hxs := hks x (List.mem_of_getElem? hx)
          have htk := take_snoc' hx
          have hfold : (d.kept.take (k + 1)).foldl (stepS a) ⟨[], []⟩ = stepS a ((d.kept.take k).foldl (stepS a) ⟨[], []⟩) x := by rw [htk, List.foldl_append]; rfl
          have HF := hide hfold
          clear htk hfold hx q1
          by_cases hax : a ≤ x.n
          · have hax' : decide ((a : Int) ≤ (x.n : Int)) = true := by simp; omega
            obtain ⟨b9, f9⟩ := row_facts hj.bx
            have b0' := b9 0
            have b1' := b9 1
            simp only [List.getElem?_toArray, List.getElem?_cons_zero, List.getElem?_cons_succ] at b0' b1'
            have l1 := lt_of_heap hj.nd
            have l2 := lt_of_heap hj.bx
            have lK : gK < wr.heap.size := Nat.lt_of_lt_of_le hgK hj.bel.size
            have q2' := (hj.bel.cell (p := ⟨gK, k * 3 + 1, none⟩) hgK).trans q2
            have q3' := (hj.bel.cell (p := ⟨gK, k * 3 + 2, none⟩) hgK).trans q3
            obtain ⟨Q1, hQ1⟩ : ∃ Q1, (d.kept.take k).foldl (stepS a) ⟨[], []⟩ = Q1 := ⟨_, rfl⟩
            have hsk := hsm k
            rw [hQ1] at hsk hj
            obtain ⟨oL, cL, rfl, _, _⟩ := hj.L.form
            obtain ⟨oK, cK, rfl, _, _⟩ := hj.K.form
            have hxL : EntR wr x.vL x.p.L := hxp.L.below hj.bel
            have hxK : TokR wr x.vK x.p.K := hxp.K.below hj.bel
            obtain ⟨oxL, cxL, exL, _, _⟩ := hxL.form
            obtain ⟨oxK, cxK, exK, _, _⟩ := hxK.form
            rw [exL] at hxL q2'
            rw [exK] at hxK q3'
            have hJn := joined_any _ _ _ _ Q1.L x.p.L Q1.K x.p.K wr.drew (hj.L.below (Below.refl _ _).drew) (hj.K.below (Below.refl _ _).drew) (hxL.below (Below.refl _ _).drew) (hxK.below (Below.refl _ _).drew) hsk.1 hsk.2 hxs.1.1 hxs.1.2
            have HJ := hide hj
            have HQ1 := hide hQ1
            clear hj b9 f9 b0 b1 y0 y1 hQ1 hsm hsk hxL hxK hxp hxs q2 q3
            have s1 : ¬ NoS (w.heap.size + 1) := fun h => h
            have s2 : ¬ NoS (w.heap.size + 1 + 1) := fun h => h
            have s3 : ¬ NoS gK := fun h => h
            go_wp2_with fail
            have hG := GrS.cell wr NoS
            have hGn := GrS.some wr NoS
            refine wp_region_flt [0, 1, 2, 3, 4, 5, 6] [7, 8] (fun w' => ∃ x : GrS wr NoS, w' = x.w) (by kernel_rfl) (by kernel_rfl) (fun _ _ d _ _ h => by cases d <;> exact h) ⟨⟨wr.drew, (Kp.refl _ _ _).drew⟩, rfl⟩ ?_
            simp only [pickOps, List.getElem?_cons_zero, List.getElem?_cons_succ]
            repeat (go_big_quiet_step (fail))
            refine wpQuiet_nil ?_
            refine ⟨_, rfl, ?_⟩
            go_wp2_with fail
            refine hJn.mono ?_
            rintro e w7 ⟨vL', vK', rfl, jL, jK, fL, fK, hb7⟩
            have hb7' : Below wr.heap.size wr w7 := ⟨hb7.os, hb7.tape, hb7.output, hb7.size, hb7.block⟩
            have hj7 := HJ.out.below hb7'
            have hsz : w.heap.size + 1 + 1 + 1 ≤ wr.heap.size := by omega
            have hj8 := hj7.set (vL' := vL') (vK' := vK') (q' := joinP Q1 x.p) jL jK (fun g hg => Nat.le_trans hsz (fL g hg)) (fun g hg => Nat.le_trans hsz (fK g hg))
            obtain ⟨oJ, cJ, rfl, _, _⟩ := jL.form
            obtain ⟨oJK, cJK, rfl, _, _⟩ := jK.form
            obtain ⟨b9, f9⟩ := row_facts hj7.bx
            have b0 := b9 0
            have b1 := b9 1
            have y0 := f9 0
            have y1 := f9 1
            simp only [List.getElem?_toArray, List.getElem?_cons_zero, List.getElem?_cons_succ] at b0 b1
            have HJ8 := hide hj8
            have HB7 := hide hb7'
            clear hj7 hj8 b9 f9 hG hGn hJn hb7 hb7' jL jK fL fK
            go_wp2_with fail
            refine ⟨fun _ => ⟨⟨w7, Kp.ofBelow HB7.out⟩, rfl⟩, _, rfl, ?_⟩
            go_wp2_with fail
            refine ⟨fun h => absurd rfl h, ?_⟩
            unfold wpFin
            go_wp2_with fail
            go_roundw
            case rel => exact ⟨k + 1, _, _, by omega, by go_num, by rw [HF.out, HQ1.out]; simp only [stepS, if_pos hax]; exact HJ8.out⟩
            case measure => simp [intOf]; omega
          · have hax' : decide ((a : Int) ≤ (x.n : Int)) = false := by simp; omega
            have HJ := hide hj
            clear hj
            go_wp2_with fail
            go_roundw
            case rel => exact ⟨k + 1, vL, vK, by omega, by go_num, by rw [HF.out]; simp only [stepS, if_neg hax]; exact HJ.out⟩
            case measure => simp [intOf]; omega
        · have hkl' : k = d.kept.length := by omega
          subst hkl'
          have hall : d.kept.take d.kept.length = d.kept := List.take_of_length_le (Nat.le_refl _)
          rw [hall, HQ.out] at hj
          have hlt : decide ((d.kept.length : Int) < (d.kept.length : Int)) = false := by simp
          obtain ⟨oL, cL, rfl, _, _⟩ := hj.L.form
          obtain ⟨oK, cK, rfl, _, _⟩ := hj.K.form
          clear hsm hkl r3 b0 b1 y0 y1
          have hj' := hide hj
          clear hj
          go_wp2_with fail
          have hj := hj'.out
          clear hj' r4
          obtain ⟨n9, _⟩ := row_facts hj.nd
          have r2 := n9 2
          obtain ⟨b9, _⟩ := row_facts hj.bx
          have b0 := b9 0
          have b1 := b9 1
          simp only [List.getElem?_toArray, List.getElem?_cons_zero, List.getElem?_cons_succ] at r2 b0 b1
          have l1 := lt_of_heap hj.nd
          have l2 := lt_of_heap hj.bx
          have l0 := lt_of_heap hj.out
          have hTx := ptext_any _ _ Q.L Q.K wr.drew (hj.L.below (Below.refl _ _).drew) (hj.K.below (Below.refl _ _).drew) hok.1.1 hok.1.2 hok.2.1 hok.2.2
          have HJ := hide hj
          clear hj n9 b9
          generalize wr = wq at *
          obtain ⟨Sx, hSx⟩ : ∃ Sx : Nat → Prop, Sx = fun b => b = w.heap.size := ⟨_, rfl⟩
          have s1 : ¬ Sx (w.heap.size + 1) := by rw [hSx]; show ¬ w.heap.size + 1 = w.heap.size; omega
          have s2 : ¬ Sx (w.heap.size + 1 + 1) := by rw [hSx]; show ¬ w.heap.size + 1 + 1 = w.heap.size; omega
          have HSx := hide hSx
          clear hSx
          have hG := GrS.cell wq Sx
          have hGn := GrS.some wq Sx
          refine wp_region_flt [0, 1, 2, 3, 4, 7] [5, 6, 8, 9, 10] (fun w' => ∃ x : GrS wq Sx, w' = x.w) (by kernel_rfl) (by kernel_rfl) (fun _ _ d _ _ h => by cases d <;> exact h) ⟨⟨wq.drew, (Kp.refl _ _ _).drew⟩, rfl⟩ ?_
          simp only [pickOps, List.getElem?_cons_zero, List.getElem?_cons_succ]
          repeat (go_big_quiet_step (fail))
          refine wpQuiet_nil ?_
          refine ⟨_, rfl, ?_⟩
          go_wp2_with fail
          refine hTx.mono ?_
          rintro e w7 ⟨rfl, hb7⟩
          have hb7' : Below wq.heap.size wq w7 := ⟨hb7.os, hb7.tape, hb7.output, hb7.size, hb7.block⟩
          obtain ⟨TX, hTX⟩ : ∃ TX, pieceT Q.L Q.K = TX := ⟨_, rfl⟩
          rw [hTX]
          have HTX := hide hTX
          have hj7 := HJ.out.below hb7'
          obtain ⟨o9, f9⟩ := row_facts hj7.out
          have x0 := o9 0
          have x1 := o9 1
          have x2 := o9 2
          have x3 := o9 3
          have x4 := o9 4
          have x5 := o9 5
          have x6 := o9 6
          have y0 := f9 0
          have y1 := f9 1
          have y2 := f9 2
          have y3 := f9 3
          have y4 := f9 4
          have y5 := f9 5
          have y6 := f9 6
          simp only [List.getElem?_toArray, List.getElem?_cons_zero, List.getElem?_cons_succ] at x0 x1 x2 x3 x4 x5 x6
          have HJ7 := hide hj7
          have HB7 := hide hb7'
          clear hTx hb7 hb7' hTX o9 f9 hG hGn hj7
          go_wp2_with fail
          refine ⟨fun _ => ⟨⟨w7, Kp.ofBelow HB7.out⟩, rfl⟩, _, rfl, ?_⟩
          go_wp2_with fail
          refine ⟨fun _ => ⟨⟨w7, Kp.ofBelow HB7.out⟩, rfl⟩, _, rfl, ?_⟩
          go_wp2_with fail
          refine ⟨fun _ => ⟨⟨w7, Kp.ofBelow HB7.out⟩, rfl⟩, _, rfl, ?_⟩
          go_wp2_with fail
          have kpS : Kp w7.heap.size (fun b => b = w.heap.size) w7 (((((((w7.setCell ⟨w.heap.size, 0, none⟩ (.int .i64 1)).setCell ⟨w.heap.size, 1, none⟩ (.int .i64 i)).setCell ⟨w.heap.size, 2, none⟩ (.int .i64 j)).setCell ⟨w.heap.size, 3, none⟩ (.int .i64 d.count)).setCell ⟨w.heap.size, 4, none⟩ (strV TX)).setCell ⟨w.heap.size, 5, none⟩ (.slice oL Q.L.length cL)).setCell ⟨w.heap.size, 6, none⟩ (.slice oK Q.K.length cK)) :=
            ((((((Kp.set1 w7 w.heap.size 0 _).setCell (p := ⟨w.heap.size, 1, none⟩) (Or.inr rfl) _).setCell (p := ⟨w.heap.size, 2, none⟩) (Or.inr rfl) _).setCell (p := ⟨w.heap.size, 3, none⟩) (Or.inr rfl) _).setCell (p := ⟨w.heap.size, 4, none⟩) (Or.inr rfl) _).setCell (p := ⟨w.heap.size, 5, none⟩) (Or.inr rfl) _).setCell (p := ⟨w.heap.size, 6, none⟩) (Or.inr rfl) _
          have fin := HJ7.out.done h.lt kpS
          have HF := hide fin
          have hs7 := HB7.out.size
          refine ⟨fun _ => ⟨⟨_, (Kp.ofBelow HB7.out).trans (kpS.mono hs7 fun b _ hb => by rw [HSx.out]; exact hb)⟩, rfl⟩, _, rfl, ?_⟩
          clear fin kpS
          go_wp2_with fail
          refine ⟨fun h => absurd rfl h, ?_⟩
          unfold wpFin
          go_wp2_with fail
          refine bodyPost_ret (v := .tuple #[.agg #[.int .i64 1, .int .i64 i, .int .i64 j, .int .i64 d.count, strV TX, .slice oL Q.L.length cL, .slice oK Q.K.length cK], .bool true]) (by simp [results, Tryz.results139, go_sem, x0, x1, x2, x3, x4, x5, x6]) rfl ⟨_, _, by rw [HTX.out], HF.out.1, HF.out.2⟩
    · have hsend : sendP d.m a = d.p := by simp [sendP, NS.m, hkk, KS.m, hle]
      rw [hsend] at hok ⊢
      have hle' : decide ((k0.n : Int) ≤ (a : Int)) = false := by simp; omega
      clear hkk
      go_enter Tryz.func139, Tryz.ntmps139
      go_wp2_with fail
      clear hW1
      obtain ⟨n9, _⟩ := row_facts hj.nd
      have r2 := n9 2
      obtain ⟨b9, _⟩ := row_facts hj.bx
      have b0 := b9 0
      have b1 := b9 1
      simp only [List.getElem?_toArray, List.getElem?_cons_zero, List.getElem?_cons_succ] at r2 b0 b1
      have l1 := lt_of_heap hj.nd
      have l2 := lt_of_heap hj.bx
      have l0 := lt_of_heap hj.out
      have hTx := ptext_any _ _ d.p.L d.p.K W1.drew (hj.L.below (Below.refl _ _).drew) (hj.K.below (Below.refl _ _).drew) hok.1.1 hok.1.2 hok.2.1 hok.2.2
      have HJ := hide hj
      clear hj n9 b9
      generalize W1 = wq at *
      obtain ⟨Sx, hSx⟩ : ∃ Sx : Nat → Prop, Sx = fun b => b = w.heap.size := ⟨_, rfl⟩
      have s1 : ¬ Sx (w.heap.size + 1) := by rw [hSx]; show ¬ w.heap.size + 1 = w.heap.size; omega
      have s2 : ¬ Sx (w.heap.size + 1 + 1) := by rw [hSx]; show ¬ w.heap.size + 1 + 1 = w.heap.size; omega
      have HSx := hide hSx
      clear hSx
      have hG := GrS.cell wq Sx
      have hGn := GrS.some wq Sx
      refine wp_region_flt [0, 1, 2, 3, 4, 7] [5, 6, 8, 9, 10] (fun w' => ∃ x : GrS wq Sx, w' = x.w) (by kernel_rfl) (by kernel_rfl) (fun _ _ d _ _ h => by cases d <;> exact h) ⟨⟨wq.drew, (Kp.refl _ _ _).drew⟩, rfl⟩ ?_
      simp only [pickOps, List.getElem?_cons_zero, List.getElem?_cons_succ]
      repeat (go_big_quiet_step (fail))
      refine wpQuiet_nil ?_
      refine ⟨_, rfl, ?_⟩
      go_wp2_with fail
      refine hTx.mono ?_
      rintro e w7 ⟨rfl, hb7⟩
      have hb7' : Below wq.heap.size wq w7 := ⟨hb7.os, hb7.tape, hb7.output, hb7.size, hb7.block⟩
      obtain ⟨TX, hTX⟩ : ∃ TX, pieceT d.p.L d.p.K = TX := ⟨_, rfl⟩
      rw [hTX]
      have HTX := hide hTX
      have hj7 := HJ.out.below hb7'
      obtain ⟨o9, f9⟩ := row_facts hj7.out
      have x0 := o9 0
      have x1 := o9 1
      have x2 := o9 2
      have x3 := o9 3
      have x4 := o9 4
      have x5 := o9 5
      have x6 := o9 6
      have y0 := f9 0
      have y1 := f9 1
      have y2 := f9 2
      have y3 := f9 3
      have y4 := f9 4
      have y5 := f9 5
      have y6 := f9 6
      simp only [List.getElem?_toArray, List.getElem?_cons_zero, List.getElem?_cons_succ] at x0 x1 x2 x3 x4 x5 x6
      have HJ7 := hide hj7
      have HB7 := hide hb7'
      clear hTx hb7 hb7' hTX o9 f9 hG hGn hj7
      go_wp2_with fail
      refine ⟨fun _ => ⟨⟨w7, Kp.ofBelow HB7.out⟩, rfl⟩, _, rfl, ?_⟩
      go_wp2_with fail
      refine ⟨fun _ => ⟨⟨w7, Kp.ofBelow HB7.out⟩, rfl⟩, _, rfl, ?_⟩
      go_wp2_with fail
      refine ⟨fun _ => ⟨⟨w7, Kp.ofBelow HB7.out⟩, rfl⟩, _, rfl, ?_⟩
      go_wp2_with fail
      have kpS : Kp w7.heap.size (fun b => b = w.heap.size) w7 (((((((w7.setCell ⟨w.heap.size, 0, none⟩ (.int .i64 1)).setCell ⟨w.heap.size, 1, none⟩ (.int .i64 i)).setCell ⟨w.heap.size, 2, none⟩ (.int .i64 j)).setCell ⟨w.heap.size, 3, none⟩ (.int .i64 d.count)).setCell ⟨w.heap.size, 4, none⟩ (strV TX)).setCell ⟨w.heap.size, 5, none⟩ (.slice odL d.p.L.length cdL)).setCell ⟨w.heap.size, 6, none⟩ (.slice odK d.p.K.length cdK)) :=
        ((((((Kp.set1 w7 w.heap.size 0 _).setCell (p := ⟨w.heap.size, 1, none⟩) (Or.inr rfl) _).setCell (p := ⟨w.heap.size, 2, none⟩) (Or.inr rfl) _).setCell (p := ⟨w.heap.size, 3, none⟩) (Or.inr rfl) _).setCell (p := ⟨w.heap.size, 4, none⟩) (Or.inr rfl) _).setCell (p := ⟨w.heap.size, 5, none⟩) (Or.inr rfl) _).setCell (p := ⟨w.heap.size, 6, none⟩) (Or.inr rfl) _
      have fin := HJ7.out.done h.lt kpS
      have HF := hide fin
      have hs7 := HB7.out.size
      refine ⟨fun _ => ⟨⟨_, (Kp.ofBelow HB7.out).trans (kpS.mono hs7 fun b _ hb => by rw [HSx.out]; exact hb)⟩, rfl⟩, _, rfl, ?_⟩
      clear fin kpS
      go_wp2_with fail
      refine ⟨fun h => absurd rfl h, ?_⟩
      unfold wpFin
      go_wp2_with fail
      refine bodyPost_ret (v := .tuple #[.agg #[.int .i64 1, .int .i64 i, .int .i64 j, .int .i64 d.count, strV TX, .slice odL d.p.L.length cdL, .slice odK d.p.K.length cdK], .bool true]) (by simp [results, Tryz.results139, go_sem, x0, x1, x2, x3, x4, x5, x6]) rfl ⟨_, _, by rw [HTX.out], HF.out.1, HF.out.2⟩
abbrev msg0 : Value := .agg #[.int .i64 0, .int .i64 0, .int .i64 0, .int .i64 0, .string ⟨#[]⟩, .slice none 0 0, .slice none 0 0]
set_option maxHeartbeats 1000000 in
set_option maxRecDepth 100000 in
theorem message_no (w : World) (S : Nat → Prop) (p : Nat) (vN : Value) (ns : List NS) (vF : Value) (ms : List MS) (adds : Nat) (h : RefR w S p vN ns vF ms adds) (i j : Nat) (d : NS) (hd : ns[i]? = some d) (a : Nat) (ha : d.acked[j]? = some a) (hlt : d.count ≤ a) :
    Calls Tryz.prog 139 #[ptr p, .int .i64 i, .int .i64 j] w fun e w' => e = .returned (.tuple #[msg0, .bool false]) ∧ Below w.heap.size w w' := by
  obtain ⟨g, c, rfl, hSg, hg, hgp, hcell, hfz⟩ := h.at hd
  have hnd := h.node d (List.mem_of_getElem? hd)
  have hi : i < ns.length := (List.getElem?_eq_some_iff.1 hd).1
  obtain ⟨e1, _⟩ := row_facts h.self
  have hplt : p < w.heap.size := lt_of_heap h.self
  have cp := e1 0
  have c0 := hcell 0 (by decide)
  have c1 := hcell 1 (by decide)
  have c2 := hcell 2 (by decide)
  have c3 := hcell 3 (by decide)
  have c4 := hcell 4 (by decide)
  have c5 := hcell 5 (by decide)
  simp only [nsC, List.getElem?_cons_zero, List.getElem?_cons_succ, Nat.add_zero, List.getElem?_toArray] at c0 c1 c2 c3 c4 c5 cp
  obtain ⟨odL, cdL, hdL, _, _⟩ := hnd.pc.L.form
  obtain ⟨odK, cdK, hdK, _, _⟩ := hnd.pc.K.form
  obtain ⟨oKe, cKe, hKe, _, _⟩ := own_form hnd.kept
  obtain ⟨oA, cA, hA, _, _⟩ := own_form hnd.acked
  rw [hdL] at c0
  rw [hdK] at c1
  rw [hKe] at c3
  rw [hA] at c4
  have hjl : j < d.acked.length := (List.getElem?_eq_some_iff.1 ha).1
  have hau : (intC d.acked)[j]? = some (.int .i64 a) := by simp [intC, ha]
  obtain ⟨gA, hgA, hgAl, hcA, _⟩ := own1_at (hA ▸ hnd.acked) hau
  subst hgA
  have hge : decide (d.count ≤ a) = true := by simp; omega
  clear hcell e1
  go_enter Tryz.func139, Tryz.ntmps139
  go_wp2_with fail
  refine bodyPost_ret (v := .tuple #[msg0, .bool false]) (by simp [results, Tryz.results139, go_sem]) rfl ⟨rfl, below2 w _ _⟩
end Go.Proofs.YtnniimfinakioaaGreatDoor
namespace Go.Proofs.YtnniimfinakioaaGreatDoor
open Go.RowKit
attribute [local go_sem ↓] eqTok eqEnt
attribute [local go_sem] toList_nm app_nm size_nm

section
variable {α : Type} {f : α → List Value} {z : Nat}
theorem flat_one {l : List α} (h1 : ∀ a ∈ l, ∀ u ∈ f a, u.oneCell' = true) : ∀ u ∈ l.flatMap f, u.oneCell' = true := fun u hu => by
  obtain ⟨a, ha, hu⟩ := List.mem_flatMap.1 hu
  exact h1 a ha u hu
theorem srcF_take {w wr : World} {e g c k n : Nat} {K : List α} (hf : FW f z) (h1 : ∀ a ∈ K, ∀ u ∈ f a, u.oneCell' = true) (hK : w.ownsRow 0 e z (.slice (some ⟨g, 0, none⟩) n c) n (K.flatMap f)) (hb : Below w.heap.size w wr) (hk : k ≤ K.length) : Src wr z (.slice (some ⟨g, 0, none⟩) k c) k ((K.take k).flatMap f) := by
  refine ⟨by rw [flat_len hf, List.length_take]; congr 1; omega, flat_one fun a ha => h1 a (List.mem_of_mem_take ha), Or.inr ⟨_, _, rfl, fun j u hu => ?_⟩⟩
  rw [World.addr_add, Nat.zero_add, hb.cell (p := ⟨g, j, none⟩) (hK.lt g rfl).2]
  refine own_cell hK rfl ?_
  have : K.flatMap f = (K.take k).flatMap f ++ (K.drop k).flatMap f := by rw [← List.flatMap_append, List.take_append_drop]
  rw [this, List.getElem?_append_left (by
    rcases Nat.lt_or_ge j ((K.take k).flatMap f).length with h | h
    · exact h
    · rw [List.getElem?_eq_none h] at hu; cases hu)]
  exact hu
theorem srcF_drop {w wr : World} {e g c k m c' n : Nat} {K : List α} (hf : FW f z) (h1 : ∀ a ∈ K, ∀ u ∈ f a, u.oneCell' = true) (hK : w.ownsRow 0 e z (.slice (some ⟨g, 0, none⟩) n c) n (K.flatMap f)) (hb : Below w.heap.size w wr) (hk : k + m = K.length) : Src wr z (.slice (some ⟨g, k * z, none⟩) m c') m ((K.drop k).flatMap f) := by
  refine ⟨by rw [flat_len hf, List.length_drop]; congr 1; omega, flat_one fun a ha => h1 a (List.mem_of_mem_drop ha), Or.inr ⟨_, _, rfl, fun j u hu => ?_⟩⟩
  rw [World.addr_add, hb.cell (p := ⟨g, k * z + j, none⟩) (hK.lt g rfl).2]
  refine own_cell hK rfl ?_
  have h1 : K.flatMap f = (K.take k).flatMap f ++ (K.drop k).flatMap f := by rw [← List.flatMap_append, List.take_append_drop]
  have h2 : ((K.take k).flatMap f).length = k * z := by rw [flat_len hf, List.length_take]; congr 1; omega
  rw [h1, List.getElem?_append_right (by omega), h2, Nat.add_sub_cancel_left]
  exact hu
theorem srcF_drop0 {wr : World} {ad : Addr} {m c' : Nat} {K : List α} (hk : K = []) (hm : m = 0) : Src wr z (.slice (some ad) m c') m (K.flatMap f) := by
  subst hk; subst hm
  exact ⟨by simp, fun u hu => by simp at hu, Or.inr ⟨_, _, rfl, fun j u hu => by simp at hu⟩⟩
end

theorem PieceR.one {w : World} {S : Nat → Prop} {a b : Value} {r : Pc} (h : PieceR w S a b r) : a.oneCell' = true ∧ b.oneCell' = true := by
  obtain ⟨_, _, rfl, _, _⟩ := h.L.form
  obtain ⟨_, _, rfl, _, _⟩ := h.K.form
  exact ⟨rfl, rfl⟩
theorem FlyR.one {w : World} {S : Nat → Prop} {v : Value} {ms : List MS} (h : FlyR w S v ms) : ∀ m ∈ ms, ∀ u ∈ msC m, u.oneCell' = true := fun m hm => msC_one m (h.piece m hm).one.1 (h.piece m hm).one.2

theorem fly_at {w : World} {o : Option Addr} {n c : Nat} {l : List MS} (h : w.ownsRow 0 198 7 (.slice o n c) n (l.flatMap msC)) {k : Nat} {x : MS} (hk : l[k]? = some x) :
    ∃ g, o = some ⟨g, 0, none⟩ ∧ g < w.heap.size ∧ ∀ j, j < 7 → w.cell? ⟨g, k * 7 + j, none⟩ = (msC x)[j]? := by
  have hk' : k < l.length := (List.getElem?_eq_some_iff.1 hk).1
  have hl := h.1
  rw [flat_len msW] at hl
  rcases h.2 with ⟨hx, h0⟩ | ⟨g, cap, cur, hx, hb, hgg, h1, h2, h3, h4⟩
  · omega
  · simp only [Value.slice.injEq] at hx
    obtain ⟨rfl, _, rfl⟩ := hx
    refine ⟨g, rfl, lt_of_heap hgg, fun j hj => ?_⟩
    have e := flat_get msW l k j x hk hj
    have hlen : j < (msC x).length := by rw [msW]; exact hj
    rw [List.getElem?_eq_getElem hlen] at e ⊢
    exact own_cell h rfl e

/-- Other messages fly. -/
theorem RefR.setFly {w : World} {S : Nat → Prop} {p adds : Nat} {vN vF v3 : Value} {ns : List NS} {ms ms3 : List MS} (h : RefR w S p vN ns vF ms adds) (hown : w.ownsRow 0 198 7 v3 ms3.length (ms3.flatMap msC)) (hs : InS S v3) (hp : ∀ m ∈ ms3, PieceR w S m.vL m.vK m.p) :
    RefR (w.setCell ⟨p, 1, none⟩ v3) S p vN ns v3 ms3 adds ∧ ∀ a b r, PieceR w S a b r → PieceR (w.setCell ⟨p, 1, none⟩ v3) S a b r := by
  have kp5 : Kp w.heap.size (fun b => b = p) w (w.setCell ⟨p, 1, none⟩ v3) := Kp.set1 w p 1 v3
  have ot3 : OfT w (fun b => b = p) 161 := fun b hb => ⟨_, _, hb ▸ h.self⟩
  have hsz : (w.setCell ⟨p, 1, none⟩ v3).heap.size = w.heap.size := by simp [World.setCell]
  have pce : ∀ a b r, PieceR w S a b r → PieceR (w.setCell ⟨p, 1, none⟩ v3) S a b r := fun a b r hp => hp.kpE kp5 (Nat.le_refl _) ot3 (by decide) (by decide)
  refine ⟨⟨fun b hb => by rw [hsz]; exact h.lt b hb, ?_, h.sp, own_kpE h.nodes kp5 (Nat.le_refl _) ot3 (by decide), h.sN, fun n hn => (h.node n hn).kpE kp5 (Nat.le_refl _) ot3 (by decide) (by decide) (by decide) (by decide), h.disK, h.disA, ⟨own_kpE hown kp5 (Nat.le_refl _) ot3 (by decide), hs, fun m hm => pce _ _ _ (hp m hm)⟩⟩, pce⟩
  have := setCell_row (j := 1) h.self v3
  simpa using this

set_option maxHeartbeats 1000000 in
set_option maxRecDepth 100000 in
theorem taken_no (w : World) (S : Nat → Prop) (p : Nat) (vN : Value) (ns : List NS) (vF : Value) (ms : List MS) (adds : Nat) (h : RefR w S p vN ns vF ms adds) (i : Int) (hi : i < 0 ∨ (ms.length : Int) ≤ i) (_hl : ms.length ≤ 1000) :
    Calls Tryz.prog 141 #[ptr p, .int .i64 i] w fun e w' => e = .returned (.tuple #[msg0, .bool false]) ∧ Below w.heap.size w w' := by
  obtain ⟨o, c, rfl, _, _⟩ := own_form h.fly.row
  obtain ⟨e1, f1⟩ := row_facts h.self
  have hp : p < w.heap.size := lt_of_heap h.self
  have c1 := e1 1
  simp only [List.getElem?_toArray, List.getElem?_cons_zero, List.getElem?_cons_succ] at c1
  have hb : Below w.heap.size w (w.alloc (.cells #[.int .i64 0, .int .i64 0, .int .i64 0, .int .i64 0, .string ⟨#[]⟩, .slice none 0 0, .slice none 0 0] 198)) := (Below.refl _ _).alloc (Nat.le_refl _) _
  have HB := hide hb
  clear e1 f1 hb
  by_cases h0 : i < 0
  · have h0' : decide (i < 0) = true := by simp [h0]
    go_enter Tryz.func141, Tryz.ntmps141
    go_wp2_with fail
    refine bodyPost_ret (v := .tuple #[msg0, .bool false]) (by simp [results, Tryz.results141, go_sem]) rfl ⟨rfl, HB.out⟩
  · have h0' : decide (i < 0) = false := by simp [h0]
    have h1' : decide ((ms.length : Int) ≤ i) = true := by simp; omega
    go_enter Tryz.func141, Tryz.ntmps141
    go_wp2_with fail
    refine bodyPost_ret (v := .tuple #[msg0, .bool false]) (by simp [results, Tryz.results141, go_sem]) rfl ⟨rfl, HB.out⟩

/-- After the new list is stored, and the answer. -/
theorem taken_done {w w2 : World} {S : Nat → Prop} {p adds : Nat} {vN vF v2 : Value} {ns : List NS} {ms ms2 : List MS} (h : RefR w S p vN ns vF ms adds) (hb : Below w.heap.size w w2) (hsz : w.heap.size + 1 + 1 ≤ w2.heap.size)
    (hown : w2.ownsRow 0 198 7 v2 ms2.length (ms2.flatMap msC)) (hv : ∀ g, v2.ownBlock = some g → w.heap.size + 1 + 1 ≤ g) (hsub : ∀ m ∈ ms2, m ∈ ms) (a0 a1 a2 a3 a4 a5 a6 : Value) :
    let w' := (((((((w2.setCell ⟨p, 1, none⟩ v2).setCell ⟨w.heap.size, 0, none⟩ a0).setCell ⟨w.heap.size, 1, none⟩ a1).setCell ⟨w.heap.size, 2, none⟩ a2).setCell ⟨w.heap.size, 3, none⟩ a3).setCell ⟨w.heap.size, 4, none⟩ a4).setCell ⟨w.heap.size, 5, none⟩ a5).setCell ⟨w.heap.size, 6, none⟩ a6
    RefR w' (Ext S w w') p vN ns v2 ms2 adds ∧ (∀ a b r, PieceR w S a b r → PieceR w' S a b r) ∧ Kp w.heap.size S w w' := by
  intro w'
  have hh : RefR w2 (fun b => S b ∨ (w.heap.size + 1 + 1 ≤ b ∧ b < w2.heap.size)) p vN ns vF ms adds := (h.below hb).mono (fun b hb => Or.inl hb) (fun b hx => by
    rcases hx with x | x
    · exact Nat.lt_of_lt_of_le (h.lt b x) hb.size
    · exact x.2)
  obtain ⟨h1, h2⟩ := hh.setFly (v3 := v2) hown (fun g hg => Or.inr ⟨hv g hg, (hown.lt g hg).2⟩) (fun m hm => hh.fly.piece m (hsub m hm))
  have kpS : Kp (w2.setCell ⟨p, 1, none⟩ v2).heap.size (fun b => b = w.heap.size) (w2.setCell ⟨p, 1, none⟩ v2) w' :=
    ((((((Kp.set1 _ w.heap.size 0 _).setCell (p := ⟨w.heap.size, 1, none⟩) (Or.inr rfl) _).setCell (p := ⟨w.heap.size, 2, none⟩) (Or.inr rfl) _).setCell (p := ⟨w.heap.size, 3, none⟩) (Or.inr rfl) _).setCell (p := ⟨w.heap.size, 4, none⟩) (Or.inr rfl) _).setCell (p := ⟨w.heap.size, 5, none⟩) (Or.inr rfl) _).setCell (p := ⟨w.heap.size, 6, none⟩) (Or.inr rfl) _
  have hs1 : (w2.setCell ⟨p, 1, none⟩ v2).heap.size = w2.heap.size := by simp [World.setCell]
  have hs : w'.heap.size = w2.heap.size := by simp [w', World.setCell]
  have off : Off (fun b => S b ∨ (w.heap.size + 1 + 1 ≤ b ∧ b < w2.heap.size)) (w2.setCell ⟨p, 1, none⟩ v2).heap.size (fun b => b = w.heap.size) := fun b hx => by
    rw [hs1]
    rcases hx with x | x
    · have := h.lt b x
      have := hb.size
      exact ⟨by omega, by omega⟩
    · exact ⟨x.2, by omega⟩
  have h3 := h1.kp kpS off
  refine ⟨h3.mono (fun b hx => ?_) (fun b hx => ?_), fun a b r hp => ?_, ?_⟩
  · rcases hx with x | x
    · exact Or.inl x
    · exact Or.inr ⟨by omega, by rw [hs]; exact x.2⟩
  · rcases hx with x | x
    · rw [hs]; exact Nat.lt_of_lt_of_le (h.lt b x) hb.size
    · exact x.2
  · have q1 := h2 a b r ((hp.below hb).mono fun b hb => Or.inl hb)
    have q2 := q1.kp kpS off
    exact ⟨q2.L, q2.K, hp.sL, hp.sK⟩
  · have k1 : Kp w.heap.size S w (w2.setCell ⟨p, 1, none⟩ v2) := (Kp.ofBelow hb).setCell (p := ⟨p, 1, none⟩) (Or.inr h.sp) _
    exact ((((((k1.setCell (p := ⟨w.heap.size, 0, none⟩) (Or.inl (Nat.le_refl _)) _).setCell (p := ⟨w.heap.size, 1, none⟩) (Or.inl (Nat.le_refl _)) _).setCell (p := ⟨w.heap.size, 2, none⟩) (Or.inl (Nat.le_refl _)) _).setCell (p := ⟨w.heap.size, 3, none⟩) (Or.inl (Nat.le_refl _)) _).setCell (p := ⟨w.heap.size, 4, none⟩) (Or.inl (Nat.le_refl _)) _).setCell (p := ⟨w.heap.size, 5, none⟩) (Or.inl (Nat.le_refl _)) _).setCell (p := ⟨w.heap.size, 6, none⟩) (Or.inl (Nat.le_refl _)) _

set_option maxHeartbeats 1000000 in
set_option maxRecDepth 100000 in
theorem taken_yes (w : World) (S : Nat → Prop) (p : Nat) (vN : Value) (ns : List NS) (vF : Value) (ms : List MS) (adds : Nat) (h : RefR w S p vN ns vF ms adds) (i : Nat) (m : MS) (hm : ms[i]? = some m) (hl : ms.length ≤ 1000) :
    Calls Tryz.prog 141 #[ptr p, .int .i64 i] w fun e w' => e = .returned (.tuple #[msV m, .bool true]) ∧ (∃ vF', RefR w' (Ext S w w') p vN ns vF' (ms.take i ++ ms.drop (i + 1)) adds) ∧ PieceR w' S m.vL m.vK m.p ∧ Kp w.heap.size S w w' := by
  have hi : i < ms.length := (List.getElem?_eq_some_iff.1 hm).1
  have hpc := h.fly.piece m (List.mem_of_getElem? hm)
  obtain ⟨mk, mf, mt, mn, mx, vL, vK, mp⟩ := m
  dsimp only [msV] at hpc ⊢
  obtain ⟨oL, cL, rfl, _, _⟩ := hpc.L.form
  obtain ⟨oK, cK, rfl, _, _⟩ := hpc.K.form
  obtain ⟨o, c, rfl, hcc, hcm⟩ := own_form h.fly.row
  obtain ⟨g, rfl, hg, hcell⟩ := fly_at h.fly.row hm
  have c0 := hcell 0 (by decide)
  have c1 := hcell 1 (by decide)
  have c2 := hcell 2 (by decide)
  have c3 := hcell 3 (by decide)
  have c4 := hcell 4 (by decide)
  have c5 := hcell 5 (by decide)
  have c6 := hcell 6 (by decide)
  obtain ⟨e1, f1⟩ := row_facts h.self
  have hp : p < w.heap.size := lt_of_heap h.self
  have cp := e1 1
  simp only [msC, List.getElem?_cons_zero, List.getElem?_cons_succ, Nat.add_zero, List.getElem?_toArray] at c0 c1 c2 c3 c4 c5 c6 cp
  have hone := h.fly.one
  have hlo : decide ((i : Int) < 0) = false := by simp
  have hhi : decide ((ms.length : Int) ≤ (i : Int)) = false := by simp; omega
  clear e1 f1 hcell
  go_enter Tryz.func141, Tryz.ntmps141
  go_wp2_with (first | (at_builtin; refine wpList_app (t := 159) _ eMsg (by rfl) _ _ (by rfl) (.slice none 0 0) 0 [] (by rfl) (World.ownsRow_nil _ _ _ _) _ i ((ms.take i).flatMap msC) (by rfl) ?src ?h63 ?hby ?next))
  case src => exact srcF_take msW hone h.fly.row (below2 w _ _) (by omega)
  case h63 => simp only [maxLen]; omega
  case hby => omega
  case next =>
    intro v1 w1 hown1 hgr1 hat1
    have hb1 := (Below.refl (w.heap.size + 1 + 1) ((w.alloc (.cells #[.int .i64 0, .int .i64 0, .int .i64 0, .int .i64 0, .string ⟨#[]⟩, .slice none 0 0, .slice none 0 0] 198)).alloc (.cells #[.int .i64 mk, .int .i64 mf, .int .i64 mt, .int .i64 mn, strV mx, .slice oL mp.L.length cL, .slice oK mp.K.length cK] 198))).grown hgr1 (by simp) (by simp [Value.ownBlock])
    have hv1 := at_ge (N := w.heap.size + 1 + 1) hat1 (by simp [Value.ownBlock]) (by simp)
    obtain ⟨o1, c1', rfl, _, _⟩ := own_form hown1
    obtain ⟨e1', f1', e2', f2', e3', e4', e5'⟩ := bx2 hb1
    clear hat1 hgr1
    by_cases hck : c = i + 1
    · have hlk : Hid (ms.length - (i + 1) = 0) := by show ms.length - (i + 1) = 0; omega
      go_wp2_with (first | (at_builtin; refine wpList_app (t := 159) _ eMsg (by rfl) _ _ (by rfl) (.slice o1 i c1') i ((ms.take i).flatMap msC) (by rfl) hown1 _ (ms.length - (i + 1)) ((ms.drop (i + 1)).flatMap msC) (by rfl) ?src ?h63 ?hby ?next))
      case src => exact srcF_drop0 (by rw [List.drop_of_length_le (by have := hlk.out; omega)]) hlk.out
      case h63 => simp only [maxLen]; omega
      case hby => omega
      case next =>
        intro v2 w2 hown2 hgr2 hat2
        have hb2 := hb1.grown hgr2 e5' hv1
        have hv2 := at_ge (N := w.heap.size + 1 + 1) hat2 hv1 (by omega)
        obtain ⟨o2, c2, rfl, _, _⟩ := own_form hown2
        clear e1' f1' e2' f2' e3' e4' hat2 hgr2 hb1 hown1 hv1 e5'
        obtain ⟨e1', f1', e2', f2', e3', e4', e5'⟩ := bx2 hb2
        have elen : (ms.take i ++ ms.drop (i + 1)).length = i + (ms.length - (i + 1)) := by simp; omega
        have hown2' : w2.ownsRow 0 198 7 (.slice o2 (i + (ms.length - (i + 1))) c2) (ms.take i ++ ms.drop (i + 1)).length ((ms.take i ++ ms.drop (i + 1)).flatMap msC) := by rw [elen, List.flatMap_append]; exact hown2
        have fin := taken_done h e4' e5' hown2' hv2 (fun m hm => by
          rcases List.mem_append.1 hm with x | x
          · exact List.mem_of_mem_take x
          · exact List.mem_of_mem_drop x) (.int .i64 mk) (.int .i64 mf) (.int .i64 mt) (.int .i64 mn) (strV mx) (.slice oL mp.L.length cL) (.slice oK mp.K.length cK)
        have FIN := hide fin
        have zp := (row_facts ((e4'.block p hp).trans h.self)).2 1
        clear elen hown2' fin hown2 hv2
        go_wp2_with fail
        refine bodyPost_ret (v := .tuple #[.agg #[.int .i64 mk, .int .i64 mf, .int .i64 mt, .int .i64 mn, strV mx, .slice oL mp.L.length cL, .slice oK mp.K.length cK], .bool true]) (by simp [results, Tryz.results141, go_sem, e1']) rfl ⟨rfl, ⟨_, FIN.out.1⟩, FIN.out.2.1 _ _ _ hpc, FIN.out.2.2⟩
    · go_wp2_with (first | (at_builtin; refine wpList_app (t := 159) _ eMsg (by rfl) _ _ (by rfl) (.slice o1 i c1') i ((ms.take i).flatMap msC) (by rfl) hown1 _ (ms.length - (i + 1)) ((ms.drop (i + 1)).flatMap msC) (by rfl) ?src ?h63 ?hby ?next))
      case src => exact srcF_drop msW hone h.fly.row e4' (by omega)
      case h63 => simp only [maxLen]; omega
      case hby => omega
      case next =>
        intro v2 w2 hown2 hgr2 hat2
        have hb2 := hb1.grown hgr2 e5' hv1
        have hv2 := at_ge (N := w.heap.size + 1 + 1) hat2 hv1 (by omega)
        obtain ⟨o2, c2, rfl, _, _⟩ := own_form hown2
        clear e1' f1' e2' f2' e3' e4' hat2 hgr2 hb1 hown1 hv1 e5'
        obtain ⟨e1', f1', e2', f2', e3', e4', e5'⟩ := bx2 hb2
        have elen : (ms.take i ++ ms.drop (i + 1)).length = i + (ms.length - (i + 1)) := by simp; omega
        have hown2' : w2.ownsRow 0 198 7 (.slice o2 (i + (ms.length - (i + 1))) c2) (ms.take i ++ ms.drop (i + 1)).length ((ms.take i ++ ms.drop (i + 1)).flatMap msC) := by rw [elen, List.flatMap_append]; exact hown2
        have fin := taken_done h e4' e5' hown2' hv2 (fun m hm => by
          rcases List.mem_append.1 hm with x | x
          · exact List.mem_of_mem_take x
          · exact List.mem_of_mem_drop x) (.int .i64 mk) (.int .i64 mf) (.int .i64 mt) (.int .i64 mn) (strV mx) (.slice oL mp.L.length cL) (.slice oK mp.K.length cK)
        have FIN := hide fin
        have zp := (row_facts ((e4'.block p hp).trans h.self)).2 1
        clear elen hown2' fin hown2 hv2
        go_wp2_with fail
        refine bodyPost_ret (v := .tuple #[.agg #[.int .i64 mk, .int .i64 mf, .int .i64 mt, .int .i64 mn, strV mx, .slice oL mp.L.length cL, .slice oK mp.K.length cK], .bool true]) (by simp [results, Tryz.results141, go_sem, e1']) rfl ⟨rfl, ⟨_, FIN.out.1⟩, FIN.out.2.1 _ _ _ hpc, FIN.out.2.2⟩
end Go.Proofs.YtnniimfinakioaaGreatDoor
namespace Go.Proofs.YtnniimfinakioaaGreatDoor
open Go.RowKit
attribute [local go_sem ↓] eqTok eqEnt
attribute [local go_sem] toList_nm app_nm size_nm

theorem flat_same {α : Type} {f : α → List Value} {a a' : α} (hf : f a' = f a) : ∀ {l : List α} {i : Nat}, l[i]? = some a → (l.set i a').flatMap f = l.flatMap f := by
  intro l
  induction l with
  | nil => intro i h; simp at h
  | cons x l ih =>
    intro i h
    cases i with
    | zero => simp at h; subst h; simp [hf]
    | succ i => simp at h; simp [ih h]

/-- A node has heard an ack. -/
theorem RefR.setAcked {w : World} {S : Nat → Prop} {p adds : Nat} {vN vF : Value} {ns : List NS} {ms : List MS} (h : RefR w S p vN ns vF ms adds) {i : Nat} {d : NS} (hd : ns[i]? = some d) {gA k : Nat} (hA : d.vAcked.ownBlock = some gA) (hk : k < d.acked.length) (n : Nat) :
    RefR (w.setCell ⟨gA, k, none⟩ (.int .i64 (n : Int))) S p vN (ns.set i { d with acked := d.acked.set k n }) vF ms adds := by
  have kp := Kp.set1 w gA k (.int .i64 (n : Int))
  have hnd := h.node d (List.mem_of_getElem? hd)
  have ot : OfT w (fun b => b = gA) 3 := OfT.row hnd.acked hA
  have hs : (w.setCell ⟨gA, k, none⟩ (.int .i64 (n : Int))).heap.size = w.heap.size := by simp [World.setCell]
  have hgp : p ≠ gA := fun e => by
    obtain ⟨c', fz, hc⟩ := ot gA rfl
    rw [← e, h.self] at hc
    simp at hc
  refine ⟨fun b hb => by rw [hs]; exact h.lt b hb, (kp.block p (lt_of_heap h.self) hgp).trans h.self, h.sp, ?_, h.sN, ?_, ?_, ?_, h.fly.kpE kp (Nat.le_refl _) ot (by decide) (by decide) (by decide)⟩
  · rw [List.length_set, flat_same (a := d) (f := nsC) (a' := { d with acked := d.acked.set k n }) rfl hd]
    exact own_kpE h.nodes kp (Nat.le_refl _) ot (by decide)
  · intro x hx
    obtain ⟨j, hj⟩ := List.mem_iff_getElem?.1 hx
    rcases set_at hj with ⟨rfl, rfl⟩ | ⟨hne, hj⟩
    · have e : intC (d.acked.set k n) = (intC d.acked).set k (.int .i64 (n : Int)) := by simp only [intC, List.map_set]
      refine ⟨hnd.pc.kpE kp (Nat.le_refl _) ot (by decide) (by decide), own_kpE hnd.kept kp (Nat.le_refl _) ot (by decide), hnd.sKept, fun q hq => (hnd.keptP q hq).kpE kp (Nat.le_refl _) ot (by decide) (by decide), ?_, hnd.sAcked⟩
      show World.ownsRow _ 0 _ 1 d.vAcked (d.acked.set k n).length (intC (d.acked.set k n))
      rw [List.length_set, e]
      exact own_set hnd.acked hA (by simp [intC]; exact hk)
    · have hx := h.node x (List.mem_of_getElem? hj)
      refine ⟨hx.pc.kpE kp (Nat.le_refl _) ot (by decide) (by decide), own_kpE hx.kept kp (Nat.le_refl _) ot (by decide), hx.sKept, fun q hq => (hx.keptP q hq).kpE kp (Nat.le_refl _) ot (by decide) (by decide), ?_, hx.sAcked⟩
      exact own_kp hx.acked kp fun g hg => ⟨(hx.acked.lt g hg).2, fun e => by subst e; exact hne (h.disA _ _ _ _ _ hd hj hA hg)⟩
  · intro a b x y b' ha hb h1 h2
    rcases set_at ha with ⟨rfl, rfl⟩ | ⟨_, ha⟩ <;> rcases set_at hb with ⟨rfl, rfl⟩ | ⟨_, hb⟩
    · rfl
    · exact h.disK _ _ _ _ b' hd hb h1 h2
    · exact h.disK _ _ _ _ b' ha hd h1 h2
    · exact h.disK _ _ _ _ b' ha hb h1 h2
  · intro a b x y b' ha hb h1 h2
    rcases set_at ha with ⟨rfl, rfl⟩ | ⟨_, ha⟩ <;> rcases set_at hb with ⟨rfl, rfl⟩ | ⟨_, hb⟩
    · rfl
    · exact h.disA _ _ _ _ b' hd hb h1 h2
    · exact h.disA _ _ _ _ b' ha hd h1 h2
    · exact h.disA _ _ _ _ b' ha hb h1 h2


set_option maxHeartbeats 1000000 in
set_option maxRecDepth 100000 in
theorem acked_no (w : World) (S : Nat → Prop) (p : Nat) (vN : Value) (ns : List NS) (vF : Value) (ms : List MS) (adds : Nat) (h : RefR w S p vN ns vF ms adds) (m : MS) (d : NS) (hd : ns[m.to]? = some d) (a : Nat) (ha : d.acked[m.frm]? = some a) (hle : m.number ≤ a) :
    Calls Tryz.prog 142 #[ptr p, msV m] w fun e w' => e = .returned (.tuple #[]) ∧ Below w.heap.size w w' := by
  obtain ⟨mk, mf, mt, mn, mx, vL, vK, mp⟩ := m
  dsimp only [msV] at hd ha hle ⊢
  obtain ⟨g, c, rfl, hSg, hg, hgp, hcell, hfz⟩ := h.at hd
  have hnd := h.node d (List.mem_of_getElem? hd)
  have hi : mt < ns.length := (List.getElem?_eq_some_iff.1 hd).1
  obtain ⟨e1, _⟩ := row_facts h.self
  have hplt : p < w.heap.size := lt_of_heap h.self
  have cp := e1 0
  have c4 := hcell 4 (by decide)
  simp only [nsC, List.getElem?_cons_zero, List.getElem?_cons_succ, List.getElem?_toArray] at c4 cp
  obtain ⟨oA, cA, hA, _, _⟩ := own_form hnd.acked
  rw [hA] at c4
  have hjl : mf < d.acked.length := (List.getElem?_eq_some_iff.1 ha).1
  have hau : (intC d.acked)[mf]? = some (.int .i64 a) := by simp [intC, ha]
  obtain ⟨gA, hgA, hgAl, hcA, hfA⟩ := own1_at (hA ▸ hnd.acked) hau
  subst hgA
  obtain ⟨W1, hW1⟩ : ∃ W1, w.alloc (.cells #[.int .i64 mk, .int .i64 mf, .int .i64 mt, .int .i64 mn, strV mx, vL, vK] 198) = W1 := ⟨_, rfl⟩
  have hb1 : Below w.heap.size w W1 := by rw [← hW1]; exact (Below.refl _ _).alloc (Nat.le_refl _) _
  have q0 : W1.heap[w.heap.size]? = some (.cells #[.int .i64 mk, .int .i64 mf, .int .i64 mt, .int .i64 mn, strV mx, vL, vK] 198 (0, 0)) := by rw [← hW1]; exact heap_alloc_new w _
  obtain ⟨e0, _⟩ := row_facts q0
  have d1 := e0 1
  have d2 := e0 2
  have d3 := e0 3
  simp only [List.getElem?_toArray, List.getElem?_cons_zero, List.getElem?_cons_succ] at d1 d2 d3
  have cp' := (hb1.cell (p := ⟨p, 0, none⟩) hplt).trans cp
  have c4' := (hb1.cell (p := ⟨g, mt * 6 + 4, none⟩) hg).trans c4
  have cA' := (hb1.cell (p := ⟨gA, mf, none⟩) hgAl).trans hcA
  have hwl : w.heap.size < W1.heap.size := lt_of_heap q0
  have lp : p < W1.heap.size := by omega
  have lg : g < W1.heap.size := by omega
  have lA : gA < W1.heap.size := by omega
  have HB := hide hb1
  clear hcell e1 e0 hb1 cp c4 hcA hau ha
  have hge : decide (a < mn) = false := by simp; omega
  have hge2 : ¬ a < mn := by omega
  go_enter Tryz.func142, Tryz.ntmps142
  go_wp2_with fail
  clear hW1
  go_quiet (fail)
  go_wp2_with fail
  go_end0
  exact ⟨rfl, ⟨HB.out.os, HB.out.tape, HB.out.output, HB.out.size, HB.out.block⟩⟩

set_option maxHeartbeats 1000000 in
set_option maxRecDepth 100000 in
theorem acked_yes (w : World) (S : Nat → Prop) (p : Nat) (vN : Value) (ns : List NS) (vF : Value) (ms : List MS) (adds : Nat) (h : RefR w S p vN ns vF ms adds) (m : MS) (d : NS) (hd : ns[m.to]? = some d) (a : Nat) (ha : d.acked[m.frm]? = some a) (hle : a < m.number) :
    Calls Tryz.prog 142 #[ptr p, msV m] w fun e w' => e = .returned (.tuple #[]) ∧ RefR w' S p vN (ns.set m.to { d with acked := d.acked.set m.frm m.number }) vF ms adds ∧ Kp w.heap.size S w w' := by
  obtain ⟨mk, mf, mt, mn, mx, vL, vK, mp⟩ := m
  dsimp only [msV] at hd ha hle ⊢
  obtain ⟨g, c, rfl, hSg, hg, hgp, hcell, hfz⟩ := h.at hd
  have hnd := h.node d (List.mem_of_getElem? hd)
  have hi : mt < ns.length := (List.getElem?_eq_some_iff.1 hd).1
  obtain ⟨e1, _⟩ := row_facts h.self
  have hplt : p < w.heap.size := lt_of_heap h.self
  have cp := e1 0
  have c4 := hcell 4 (by decide)
  simp only [nsC, List.getElem?_cons_zero, List.getElem?_cons_succ, List.getElem?_toArray] at c4 cp
  obtain ⟨oA, cA, hA, _, _⟩ := own_form hnd.acked
  rw [hA] at c4
  have hjl : mf < d.acked.length := (List.getElem?_eq_some_iff.1 ha).1
  have hau : (intC d.acked)[mf]? = some (.int .i64 a) := by simp [intC, ha]
  obtain ⟨gA, hgA, hgAl, hcA, hfA⟩ := own1_at (hA ▸ hnd.acked) hau
  subst hgA
  obtain ⟨W1, hW1⟩ : ∃ W1, w.alloc (.cells #[.int .i64 mk, .int .i64 mf, .int .i64 mt, .int .i64 mn, strV mx, vL, vK] 198) = W1 := ⟨_, rfl⟩
  have hb1 : Below w.heap.size w W1 := by rw [← hW1]; exact (Below.refl _ _).alloc (Nat.le_refl _) _
  have q0 : W1.heap[w.heap.size]? = some (.cells #[.int .i64 mk, .int .i64 mf, .int .i64 mt, .int .i64 mn, strV mx, vL, vK] 198 (0, 0)) := by rw [← hW1]; exact heap_alloc_new w _
  obtain ⟨e0, _⟩ := row_facts q0
  have d1 := e0 1
  have d2 := e0 2
  have d3 := e0 3
  simp only [List.getElem?_toArray, List.getElem?_cons_zero, List.getElem?_cons_succ] at d1 d2 d3
  have cp' := (hb1.cell (p := ⟨p, 0, none⟩) hplt).trans cp
  have c4' := (hb1.cell (p := ⟨g, mt * 6 + 4, none⟩) hg).trans c4
  have cA' := (hb1.cell (p := ⟨gA, mf, none⟩) hgAl).trans hcA
  have hwl : w.heap.size < W1.heap.size := lt_of_heap q0
  have lp : p < W1.heap.size := by omega
  have lg : g < W1.heap.size := by omega
  have lA : gA < W1.heap.size := by omega
  have HB := hide hb1
  clear hcell e1 e0 hb1 cp c4 hcA hau ha
  have hge : decide (a < mn) = true := by simp; omega
  go_enter Tryz.func142, Tryz.ntmps142
  go_wp2_with fail
  clear hW1
  go_quiet (fail)
  go_wp2_with fail
  obtain ⟨Wq, hWq⟩ : ∃ Wq, W1.drewN nq = Wq := ⟨_, rfl⟩
  rw [hWq]
  have hbq : Below w.heap.size w Wq := by subst hWq; exact ⟨HB.out.os, HB.out.tape, HB.out.output, HB.out.size, HB.out.block⟩
  have hsq : Wq.heap.size = W1.heap.size := by subst hWq; rfl
  have hcq : ∀ b j, Wq.cell? ⟨b, j, none⟩ = W1.cell? ⟨b, j, none⟩ := by subst hWq; intro b j; rfl
  have x0 := (hcq _ _).trans cp'
  have x1 := (hcq _ _).trans c4'
  have x2 := (hcq _ _).trans cA'
  have x3 := (hcq _ _).trans d1
  have x4 := (hcq _ _).trans d2
  have x5 := (hcq _ _).trans d3
  have hfA' : Wq.frozen? ⟨gA, mf, none⟩ = false := (World.frozen?_of_block (w := w) (hbq.block gA hgAl)).trans hfA
  rw [← hsq] at hwl lp lg lA
  have HBq := hide hbq
  clear hWq hcq cp' c4' cA' d1 d2 d3 hsq q0 HB hbq hfA
  have s1 : ∀ b, ¬ NoS b := fun b h => h
  have hG := GrS.cell Wq NoS
  have hGn := GrS.some Wq NoS
  refine wp_region_flt [0, 1, 2, 3, 4, 5, 6, 7, 8, 9, 10, 11, 12, 13, 14, 15, 16] [17] (fun w' => ∃ x : GrS Wq NoS, w' = x.w) (by kernel_rfl) (by kernel_rfl) (fun _ _ d _ _ h => by cases d <;> exact h) ⟨⟨Wq.drew, (Kp.refl _ _ _).drew⟩, rfl⟩ ?_
  simp only [pickOps, List.getElem?_cons_zero, List.getElem?_cons_succ]
  repeat (go_big_quiet_step (fail))
  refine wpQuiet_nil ?_
  refine ⟨_, rfl, ?_⟩
  go_wp2_with fail
  refine ⟨fun h => absurd rfl h, ?_⟩
  unfold wpFin
  go_wp2_with fail
  have fin := ((h.below HBq.out).setAcked (i := mt) (k := mf) hd (gA := gA) (by rw [hA]; rfl) hjl mn).below (Below.refl _ _).drew
  have kpf : Kp w.heap.size S w (Wq.setCell ⟨gA, mf, none⟩ (.int .i64 mn)).drew := ((Kp.ofBelow HBq.out).setCell (p := ⟨gA, mf, none⟩) (Or.inr (hnd.sAcked gA (by rw [hA]; rfl))) _).drew
  go_end0
  exact ⟨rfl, fin, kpf⟩
end Go.Proofs.YtnniimfinakioaaGreatDoor
