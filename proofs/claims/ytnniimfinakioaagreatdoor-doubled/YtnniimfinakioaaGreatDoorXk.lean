import Derived.Test.YtnniimfinakioaaGreatDoorXj
import Derived.Test.YtnniimfinakioaaGreatDoorXi
namespace Go.Proofs.YtnniimfinakioaaGreatDoor
open Go.RowKit
attribute [local go_sem ↓] eqTok eqEnt
attribute [local go_sem] toList_nm app_nm size_nm

theorem Owned.before {w w0 w' : World} {SL ST SL' ST' : Nat → Prop} {own : Option Nat} (h : Owned w0 SL ST own SL' ST' w') (hb : Below w.heap.size w w0) : Owned w SL ST own SL' ST' w' := by
  have hs := hb.size
  refine ⟨fun b hb => (h.sl b hb).imp_right fun x => by omega, fun b hb => (h.st b hb).imp_right fun x => x.imp_right fun x => by omega, ?_⟩
  exact (Kp.ofBelow hb).trans (h.kp.mono hs fun _ _ x => x)

set_option maxHeartbeats 2000000 in
set_option maxRecDepth 100000 in
theorem ownMessages_any (w : World) (SL ST : Nat → Prop) (q : Nat) (vW : Value) (ws : List (Nat × Nat)) (vTx : Value) (tx : List Value) (vNu : Value) (nu : List Value) (vM0 : Value) (m0 : List Nat) (vM1 : Value) (m1 : List Int) (vMs : Value) (mz : List Value) (vM2 : Value) (m2 : List Int) (h : LawR w SL ST q vW ws vTx tx vNu nu vM0 m0 vM1 m1 vMs mz vM2 m2)
    (ht : mz.length ≤ 1000000000) (v : Value) (l : List Tm) (hv : TmR w v l) (hl : l.length ≤ 1000000) (hsep : ∀ g, v.ownBlock = some g → ¬ SL g ∧ ¬ ST g) :
    Calls Tryz.prog 106 #[ptr q, v] w fun e w' => e = .returned (.tuple #[]) ∧ ∃ SL' ST' vMs' v1 v2 v3 vM2',
      LawR w' SL' ST' q vW ws vTx tx vNu nu vM0 m0 vM1 m1 vMs' (mz ++ [v, v1, v2, v3]) vM2' (m2 ++ List.replicate 4 (-1 - (m2.length : Int))) ∧ Owned w SL ST v.ownBlock SL' ST' w' := by
  obtain ⟨o0, c0, rfl, _, _⟩ := h.rM2.form
  obtain ⟨oTx, cTx, rfl, _, _⟩ := own_form h.rMs
  obtain ⟨o, c, rfl, _, _⟩ := own_form hv
  have hl0 : m2.length = mz.length := h.len2.symm
  rw [hl0] at h
  have Hm0 : Hid (m2.length = mz.length) := h.len2.symm
  clear hl0
  obtain ⟨X, hX⟩ : ∃ X : Int, -1 - (mz.length : Int) = X := ⟨_, rfl⟩
  have hqlt0 := lt_of_heap h.self
  obtain ⟨e1, _⟩ := row_facts h.self
  have e16 := e1 6
  simp only [List.getElem?_toArray, List.getElem?_cons_succ, List.getElem?_cons_zero] at e16
  have HX := hide hX
  clear e1
  go_enter Tryz.func106, Tryz.ntmps106
  go_wp2_with fail
  obtain ⟨W0, hW0⟩ : ∃ W0, w.alloc (.cells #[.int .i64 X, .int .i64 X, .int .i64 X, .int .i64 X, .string ⟨#[]⟩] 63) = W0 := ⟨_, rfl⟩
  have hb0 : Below w.heap.size w W0 := by rw [← hW0]; exact (Below.refl _ _).alloc (Nat.le_refl _) _
  have qx : W0.heap[w.heap.size]? = some (.cells #[.int .i64 X, .int .i64 X, .int .i64 X, .int .i64 X, .string ⟨#[]⟩] 63 (0, 0)) := by rw [← hW0]; exact heap_alloc_new w _
  have hoB : ∀ b, (Value.slice o l.length c).ownBlock = some b → b < w.heap.size := fun b hb => (World.ownsRow.lt hv b hb).2
  rw [hW0]
  have h' := h.below hb0
  have hv' : W0.ownsRow 0 63 5 (.slice o l.length c) l.length (l.flatMap tmC) := own_below hv hb0
  have hoff0 : ∀ b, SL b → b < w.heap.size := h.lt
  have HSl := hide hoff0
  have HB0 := hide hb0
  have HoB := hide hoB
  have HQX := hide qx
  clear h hv hb0 hoB hX hW0 qx hoff0 e16
  have hxl : w.heap.size < W0.heap.size := lt_of_heap HQX.out
  have hBX : ∀ b, (Value.slice o l.length c).ownBlock = some b → b < W0.heap.size := fun b hb => by have := HoB.out b hb; omega
  have HBX := hide hBX
  clear hBX
  go_loopw [6] (fun j wr => ∃ (k : Nat), k ≤ l.length ∧ j = .int .i64 k ∧ wr.ownsRow 0 63 5 (.slice o l.length c) l.length ((List.replicate k (mkM X) ++ l.drop k).flatMap tmC) ∧ Kp W0.heap.size (fun b => (Value.slice o l.length c).ownBlock = some b) W0 wr) (fun j _ => l.length - (intOf j).toNat)
  case atStart => exact ⟨0, Nat.zero_le _, rfl, by simpa using hv', Kp.refl _ _ _⟩
  case round =>
    obtain ⟨k, hk, rfl, hrow, kp⟩ := hrel
    have nx : ¬ (Value.slice o l.length c).ownBlock = some w.heap.size := fun e => by have := HoB.out _ e; omega
    obtain ⟨bx, _⟩ := row_facts ((kp.block _ hxl nx).trans HQX.out)
    have b0 := bx 0
    have b1 := bx 1
    have b2 := bx 2
    have b3 := bx 3
    have b4 := bx 4
    simp only [List.getElem?_toArray, List.getElem?_cons_zero, List.getElem?_cons_succ] at b0 b1 b2 b3 b4
    clear bx
    by_cases hlt : k < l.length
    · obtain ⟨x, hx⟩ := get_some (l := List.replicate k (mkM X) ++ l.drop k) (k := k) (by simp; omega)
      obtain ⟨g, rfl, hg, cy, fy⟩ := tm_at hrow hx
      have y0 := cy 0 (by decide)
      have y1 := cy 1 (by decide)
      have y2 := cy 2 (by decide)
      have y3 := cy 3 (by decide)
      have y4 := cy 4 (by decide)
      have f0 := fy (k * 5)
      have f1 := fy (k * 5 + 1)
      have f2 := fy (k * 5 + 2)
      have f3 := fy (k * 5 + 3)
      have f4 := fy (k * 5 + 4)
      simp only [tmC, List.getElem?_cons_zero, List.getElem?_cons_succ, Nat.add_zero] at y0 y1 y2 y3 y4
      have hst := tm_set hrow (g := g) rfl hx (mkM X)
      rw [marks_step X l k hlt] at hst
      have kp2 := ((((kp.setCell (p := ⟨g, k * 5, none⟩) (Or.inr rfl) (.int .i64 X)).setCell (p := ⟨g, k * 5 + 1, none⟩) (Or.inr rfl) (.int .i64 X)).setCell (p := ⟨g, k * 5 + 2, none⟩) (Or.inr rfl) (.int .i64 X)).setCell (p := ⟨g, k * 5 + 3, none⟩) (Or.inr rfl) (.int .i64 X)).setCell (p := ⟨g, k * 5 + 4, none⟩) (Or.inr rfl) (strV [])
      have K2 := hide kp2
      have Hst := hide hst
      have hlt' : decide ((k : Int) < (l.length : Int)) = true := by simp; omega
      clear kp2 hst cy fy hx hrow kp
      go_wp2_with fail
      exact ⟨⟨k + 1, by omega, by go_num, Hst.out, K2.out⟩, by simp [intOf]; omega⟩
    · have hkl : k = l.length := by omega
      subst hkl
      have hrow' : wr.ownsRow 0 63 5 (.slice o l.length c) l.length (marksC X l.length) := by
        have := hrow
        rw [List.drop_length, List.append_nil] at this
        exact this
      have Hsep := hide hsep
      have Hh := hide h'
      have Hv' := hide hv'
      clear hsep hrow h' hv'
      have hB0 := kp.size
      have hlt' : decide ((l.length : Int) < (l.length : Int)) = false := by simp
      go_wp2_with (first | (at_builtin; refine wpList_app4 (t := 34) _ eTold (by rfl) _ _ (by rfl) (.slice o l.length c) l.length (marksC X l.length) (by rfl) ?own _ 1 (marksC X 1) (by rfl) ?src ?h63 ?hby ?next))
      case own => exact hrow'.alloc _
      case src => exact src_marks _ X 1 #[.int .i64 X, .int .i64 X, .int .i64 X, .int .i64 X, .string ⟨#[]⟩] rfl
      case h63 => simp only [maxLen]; omega
      case hby => omega
      case next =>
        intro v1 w1 own1 gr1 at1 old1 ov1
        rw [marksC_add] at own1
        have kp1 := (kp.alloc hB0 _).grown gr1 (by simp; omega) (fun k hk => Or.inr hk)
        have hB1 := kp1.size
        have ai1 : AllMs w1 (fun b => (Value.slice o l.length c).ownBlock = some b ∨ (W0.heap.size ≤ b ∧ b < w1.heap.size)) v1 X := by
          refine AllMs.of own1 (fun g hg => ?_) (by omega)
          rcases at1 with e | e
          · exact Or.inl (e ▸ hg)
          · have := (World.ownsRow.lt own1 g hg).2
            rw [e] at hg; simp only [Option.some.injEq] at hg
            exact Or.inr ⟨by omega, this⟩
        obtain ⟨o1, c1, rfl, _, _⟩ := own_form own1
        have A1 := hide ai1
        clear own1 gr1 at1 ov1 ai1 kp hB0 b0 b1 b2 b3 b4
        obtain ⟨bx1, _⟩ := row_facts ((kp1.block _ hxl nx).trans HQX.out)
        have b0 := bx1 0
        have b1 := bx1 1
        have b2 := bx1 2
        have b3 := bx1 3
        have b4 := bx1 4
        simp only [List.getElem?_toArray, List.getElem?_cons_zero, List.getElem?_cons_succ] at b0 b1 b2 b3 b4
        clear bx1
        go_wp2_with (first | (at_builtin; refine wpList_app4 (t := 34) _ eTold (by rfl) _ _ (by rfl) (.slice o l.length c) l.length (marksC X l.length) (by rfl) ?own _ 2 (marksC X 2) (by rfl) ?src ?h63 ?hby ?next))
        case own => exact old1.alloc _
        case src => exact src_marks _ X 2 #[.int .i64 X, .int .i64 X, .int .i64 X, .int .i64 X, .string ⟨#[]⟩, .int .i64 X, .int .i64 X, .int .i64 X, .int .i64 X, .string ⟨#[]⟩] rfl
        case h63 => simp only [maxLen]; omega
        case hby => omega
        case next =>
          intro v2 w2 own2 gr2 at2 old2 ov2
          rw [marksC_add] at own2
          have kp2 := (kp1.alloc hB1 _).grown gr2 (by simp; omega) (fun k hk => Or.inr hk)
          have hB2 := kp2.size
          have hs12 : w1.heap.size ≤ w2.heap.size := by have := gr2.size; simp at this; omega
          have bi2 : AllMs w2 (fun b => (Value.slice o l.length c).ownBlock = some b ∨ (W0.heap.size ≤ b ∧ b < w2.heap.size)) (.slice o1 (l.length + 1) c1) X := by
            have h1 := A1.out.kp (Kp.ofBelow (S := NoS) (((Below.refl w1.heap.size w1)).alloc (Nat.le_refl _) (.cells #[.int .i64 X, .int .i64 X, .int .i64 X, .int .i64 X, .string ⟨#[]⟩, .int .i64 X, .int .i64 X, .int .i64 X, .int .i64 X, .string ⟨#[]⟩] 63))) (Off.none fun b hb => by
              rcases hb with hb | hb
              · exact (World.ownsRow.lt old1 b hb).2
              · exact hb.2)
            exact (h1.over ov2).mono fun b hb => hb.imp_right fun ⟨a, b⟩ => ⟨a, by omega⟩
          have ai2 : AllMs w2 (fun b => (Value.slice o l.length c).ownBlock = some b ∨ (W0.heap.size ≤ b ∧ b < w2.heap.size)) v2 X := by
            refine AllMs.of own2 (fun g hg => ?_) (by omega)
            rcases at2 with e | e
            · exact Or.inl (e ▸ hg)
            · have := (World.ownsRow.lt own2 g hg).2
              rw [e] at hg; simp only [Option.some.injEq] at hg
              exact Or.inr ⟨by omega, this⟩
          obtain ⟨o2, c2, rfl, _, _⟩ := own_form own2
          have A2 := hide ai2
          have B2 := hide bi2
          clear own2 gr2 at2 ov2 ai2 bi2 kp1 hB1 A1 old1 hrow' b0 b1 b2 b3 b4
          obtain ⟨bx2, _⟩ := row_facts ((kp2.block _ hxl nx).trans HQX.out)
          have b0 := bx2 0
          have b1 := bx2 1
          have b2 := bx2 2
          have b3 := bx2 3
          have b4 := bx2 4
          simp only [List.getElem?_toArray, List.getElem?_cons_zero, List.getElem?_cons_succ] at b0 b1 b2 b3 b4
          clear bx2
          go_wp2_with (first | (at_builtin; refine wpList_app4 (t := 34) _ eTold (by rfl) _ _ (by rfl) (.slice o l.length c) l.length (marksC X l.length) (by rfl) ?own _ 3 (marksC X 3) (by rfl) ?src ?h63 ?hby ?next))
          case own => exact old2.alloc _
          case src => exact src_marks _ X 3 #[.int .i64 X, .int .i64 X, .int .i64 X, .int .i64 X, .string ⟨#[]⟩, .int .i64 X, .int .i64 X, .int .i64 X, .int .i64 X, .string ⟨#[]⟩, .int .i64 X, .int .i64 X, .int .i64 X, .int .i64 X, .string ⟨#[]⟩] rfl
          case h63 => simp only [maxLen]; omega
          case hby => omega
          case next =>
            intro v3 w3 own3 gr3 at3 old3 ov3
            rw [marksC_add] at own3
            have kp3 := (kp2.alloc hB2 _).grown gr3 (by simp; omega) (fun k hk => Or.inr hk)
            have hB3 := kp3.size
            have hs23 : w2.heap.size ≤ w3.heap.size := by have := gr3.size; simp at this; omega
            have hup : ∀ v, AllMs w2 (fun b => (Value.slice o l.length c).ownBlock = some b ∨ (W0.heap.size ≤ b ∧ b < w2.heap.size)) v X → AllMs w3 (fun b => (Value.slice o l.length c).ownBlock = some b ∨ (W0.heap.size ≤ b ∧ b < w3.heap.size)) v X := fun v hv => by
              have h1 := hv.kp (Kp.ofBelow (S := NoS) (((Below.refl w2.heap.size w2)).alloc (Nat.le_refl _) (.cells #[.int .i64 X, .int .i64 X, .int .i64 X, .int .i64 X, .string ⟨#[]⟩, .int .i64 X, .int .i64 X, .int .i64 X, .int .i64 X, .string ⟨#[]⟩, .int .i64 X, .int .i64 X, .int .i64 X, .int .i64 X, .string ⟨#[]⟩] 63))) (Off.none fun b hb => by
                rcases hb with hb | hb
                · exact (World.ownsRow.lt old2 b hb).2
                · exact hb.2)
              exact (h1.over ov3).mono fun b hb => hb.imp_right fun ⟨a, b⟩ => ⟨a, by omega⟩
            have bi3 := hup _ B2.out
            have ci3 := hup _ A2.out
            have ai3 : AllMs w3 (fun b => (Value.slice o l.length c).ownBlock = some b ∨ (W0.heap.size ≤ b ∧ b < w3.heap.size)) v3 X := by
              refine AllMs.of own3 (fun g hg => ?_) (by omega)
              rcases at3 with e | e
              · exact Or.inl (e ▸ hg)
              · have := (World.ownsRow.lt own3 g hg).2
                rw [e] at hg; simp only [Option.some.injEq] at hg
                exact Or.inr ⟨by omega, this⟩
            have di3 : AllMs w3 (fun b => (Value.slice o l.length c).ownBlock = some b ∨ (W0.heap.size ≤ b ∧ b < w3.heap.size)) (.slice o l.length c) X :=
              AllMs.of old3 (fun g hg => Or.inl hg) (by omega)
            obtain ⟨o3, c3, rfl, _, _⟩ := own_form own3
            have hoff : Off SL W0.heap.size (fun b => (Value.slice o l.length c).ownBlock = some b) := fun b hb => ⟨Hh.out.lt b hb, fun e => (Hsep.out b e).1 hb⟩
            have hc3 := Hh.out.toLawC.kp kp3 hoff
            have L3 := hide (And.intro ai3 (And.intro bi3 (And.intro ci3 di3)))
            clear own3 gr3 at3 ov3 ai3 bi3 ci3 di3 kp2 hB2 A2 B2 old2 hup b0 b1 b2 b3 b4
            obtain ⟨e3, f3⟩ := row_facts hc3.self
            have hq3 := lt_of_heap hc3.self
            go_wp2_with (first | (at_builtin; refine wpList_app (t := 72) _ eMessages (by rfl) _ _ (by rfl) (.slice oTx mz.length cTx) mz.length mz (by rfl) ?own _ 4 [.slice o l.length c, .slice o1 (l.length + 1) c1, .slice o2 (l.length + 2) c2, .slice o3 (l.length + 3) c3] (by rfl) ?src ?h63 ?hby ?next))
            case own => exact hc3.rMs.alloc _
            case src => exact src_row _ #[.slice o l.length c, .slice o1 (l.length + 1) c1, .slice o2 (l.length + 2) c2, .slice o3 (l.length + 3) c3] (by simp [Value.oneCell']) rfl
            case h63 => simp only [maxLen]; omega
            case hby => omega
            case next =>
              intro v4 w4 own4 gr4 at4
              have hba : Below w3.heap.size w3 (w3.alloc (.cells #[.slice o l.length c, .slice o1 (l.length + 1) c1, .slice o2 (l.length + 2) c2, .slice o3 (l.length + 3) c3] 34)) := (Below.refl _ _).alloc (Nat.le_refl _) _
              obtain ⟨hc5, kp5⟩ := hc3.putMs hba gr4 (mz' := mz ++ [.slice o l.length c, .slice o1 (l.length + 1) c1, .slice o2 (l.length + 2) c2, .slice o3 (l.length + 3) c3]) (by rw [List.length_append]; exact own4) (by rw [World.size_alloc]; exact at4)
              have hq4 : w4.heap[q]? = _ := ((Kp.ofGrown gr4).block q (by have := hba.size; omega) (own_ne (own_below hc3.rMs hba) ((hba.block q hq3).trans hc3.self) (by decide))).trans ((hba.block q hq3).trans hc3.self)
              have hs34 : w3.heap.size ≤ w4.heap.size := by have := gr4.size; have := hba.size; omega
              obtain ⟨e4, f4⟩ := row_facts hq4
              obtain ⟨o4, c4, rfl, _, _⟩ := own_form own4
              have K5 := hide kp5
              clear own4 gr4 at4 kp5 e3 f3 hba hq4
              go_wp2_with fail
              have hs5 : (w4.setCell ⟨q, 3, none⟩ (.slice o4 (mz.length + 4) c4)).heap.size = w4.heap.size := by simp [World.setCell]
              generalize w4.setCell ⟨q, 3, none⟩ (.slice o4 (mz.length + 4) c4) = w5 at *
              obtain ⟨e5, f5⟩ := row_facts hc5.self
              have hq5 := lt_of_heap hc5.self
              have e54 := e5 6
              simp only [List.getElem?_toArray, List.getElem?_cons_succ, List.getElem?_cons_zero] at e54
              have Hs5 := hide hs5
              clear hs5 e5
              clear e4 f4
              have hn0 := own_ne hc5.rM2 hc5.self (by decide)
              obtain ⟨Sx, hSx⟩ : ∃ Sx : Nat → Prop, Sx = fun b => (Value.slice o0 mz.length c0).ownBlock = some b := ⟨_, rfl⟩
              have hqS : ¬ Sx q := by rw [hSx]; exact hn0
              have HSx := hide hSx
              clear hSx
              have hG := GrS.cell w5 Sx
              have hGn := GrS.some w5 Sx
              refine wp_region_flt [0, 1, 2, 3, 4, 5, 6, 7, 8, 9, 12, 13] [10, 11, 14, 15] (fun w' => ∃ x : GrS w5 Sx, w' = x.w) (by kernel_rfl) (by kernel_rfl) (fun _ _ d _ _ h => by cases d <;> exact h) ⟨⟨w5.drew, (Kp.refl _ _ _).drew⟩, rfl⟩ ?_
              simp only [pickOps, List.getElem?_cons_zero, List.getElem?_cons_succ]
              repeat (go_big_quiet_step (fail))
              refine wpQuiet_nil ?_
              refine ⟨_, rfl, ?_⟩
              go_wp2_with fail
              refine ⟨fun _ => ⟨⟨_, ((Kp.refl _ _ _).alloc (Nat.le_refl _) _).drew⟩, rfl⟩, _, rfl, ?_⟩
              refine wpList_app (t := 44) _ eInt (by rfl) _ _ (by rfl) (.slice o0 mz.length c0) mz.length (m2.map fun n => .int .i64 n) (by rfl) ?own _ 4 [.int .i64 X, .int .i64 X, .int .i64 X, .int .i64 X] (by rfl) ?src ?h63 ?hby ?next
              case own =>
                have := hc5.rM2
                unfold IntR at this
                rw [Hm0.out] at this
                exact this.alloc _
              case src => exact src_row w5 #[.int .i64 X, .int .i64 X, .int .i64 X, .int .i64 X] (by simp [Value.oneCell']) rfl
              case h63 => simp only [maxLen]; omega
              case hby => omega
              case next =>
                intro v6 w6 own6 gr6 at6
                have hba : Below w5.heap.size w5 (w5.alloc (.cells #[.int .i64 X, .int .i64 X, .int .i64 X, .int .i64 X] 3)).drew := ((Below.refl _ _).alloc (Nat.le_refl _) _).drew
                have kp6 : Kp w5.heap.size Sx w5 w6 := (Kp.ofBelow (S := Sx) hba).grown gr6 hba.size (fun k hk => Or.inr (by rw [HSx.out]; exact hk))
                obtain ⟨hc7, kp7⟩ := hc5.putM2 hba gr6 (m2' := m2 ++ List.replicate 4 (-1 - (m2.length : Int))) (by
                  unfold IntR
                  have hlen : (m2 ++ List.replicate 4 (-1 - (m2.length : Int))).length = mz.length + 4 := by simp [Hm0.out]
                  rw [hlen, List.map_append, List.map_replicate, Hm0.out, HX.out]
                  exact own6) at6
                have hq6 : w6.heap[q]? = _ := (kp6.block q hq5 hqS).trans hc5.self
                obtain ⟨e6, f6⟩ := row_facts hq6
                obtain ⟨o6, c6, rfl, _, _⟩ := own_form own6
                have K7 := hide kp7
                clear own6 gr6 at6 kp7
                go_wp2_with fail
                refine ⟨fun _ => ⟨⟨w6, kp6⟩, rfl⟩, _, rfl, ?_⟩
                go_wp2_with fail
                refine ⟨fun _ => ⟨⟨w6, kp6⟩, rfl⟩, _, rfl, ?_⟩
                go_wp2_with fail
                refine ⟨fun h => absurd rfl h, ?_⟩
                unfold wpFin
                go_wp2_with fail
                go_end0
                have up := own_up (w3 := w3) (w4 := w4) (w5 := w5) (w6 := w6) (own := (Value.slice o l.length c).ownBlock) Hh.out.lt Hh.out.ltT Hh.out.apart Hsep.out HBX.out kp3 K5.out K7.out Hs5.out (by have := kp6.size; omega)
                have upM := own_upM (w3 := w3) (w4 := w4) (w5 := w5) (own := (Value.slice o l.length c).ownBlock) Hh.out.lt Hh.out.ltT Hh.out.apart Hsep.out HBX.out kp3 K5.out K7.out
                refine ⟨rfl, Ext (Ext SL w3 w4) w5 w6, STx W0 w3 ST (Value.slice o l.length c).ownBlock, .slice o4 (mz.length + 4) c4, .slice o1 (l.length + 1) c1, .slice o2 (l.length + 2) c2, .slice o3 (l.length + 3) c3, .slice o6 (mz.length + 4) c6, ?_, ?_⟩
                · obtain ⟨u1, _, u3, u4, _⟩ := up
                  obtain ⟨i3, i1, i2, i0⟩ := L3.out
                  refine ⟨hc7, u3, u4, Hh.out.len0, Hh.out.len1, by simp [Hm0.out], fun i v m a b => u1 _ _ (Hh.out.txt i v m a b), fun i v m a b => u1 _ _ (Hh.out.num i v m a b), ?_⟩
                  intro i v m hv hm
                  rcases Nat.lt_or_ge i mz.length with hi | hi
                  · rw [List.getElem?_append_left hi] at hv
                    rw [List.getElem?_append_left (by rw [Hm0.out]; exact hi)] at hm
                    exact upM.1 _ _ (Hh.out.msg i v m hv hm)
                  · rw [List.getElem?_append_right hi] at hv
                    rw [List.getElem?_append_right (by rw [Hm0.out]; exact hi)] at hm
                    have hm' := (List.mem_replicate.1 (List.mem_of_getElem? hm)).2
                    rw [hm', Hm0.out, HX.out]
                    have hv' := List.mem_of_getElem? hv
                    simp only [List.mem_cons, List.not_mem_nil, or_false] at hv'
                    rcases hv' with rfl | rfl | rfl | rfl
                    · exact upM.2 _ _ i0
                    · exact upM.2 _ _ i1
                    · exact upM.2 _ _ i2
                    · exact upM.2 _ _ i3
                · exact up.2.2.2.2.before HB0.out
end Go.Proofs.YtnniimfinakioaaGreatDoor
namespace Go.Proofs.YtnniimfinakioaaGreatDoor
open Go.RowKit

theorem eqTmD (k : Nat) (s r : ByteArray) (a b c d a' b' c' d' : Int) (w : World) : (Op.equalIn (k + 1 + 1) 63 (.agg #[.int .i64 a, .int .i64 b, .int .i64 c, .int .i64 d, .string s]) (.agg #[.int .i64 a', .int .i64 b', .int .i64 c', .int .i64 d', .string r])).run Tryz.prog w = .ok (a == a' && (b == b' && (c == c' && (d == d' && s.toList == r.toList)))) w := by
  have u3 := Tryz.underlying3
  have a3 := Tryz.isAgg3
  have z3 := Tryz.sizeOf3
  have u9 := Tryz.underlying9
  have a9 := Tryz.isAgg9
  have z9 := Tryz.sizeOf9
  have hS : Tryz.prog.underlying 63 = some (.struct (Tryz.prog.fieldsOf 63)) := by kernel_rfl
  have hp : Tryz.prog.stoodInHeld 63 = false := by kernel_rfl
  rw [run_equalIn_agg w (k + 1) 63 _ _ hS hp]
  simp only [Program.fieldsOf, Tryz.underlying63]
  clear hS hp
  go_simp
  by_cases h0 : s.toList = r.toList <;> by_cases h1 : a = a' <;> by_cases h2 : b = b' <;> by_cases h3 : c = c' <;> by_cases h4 : d = d' <;> simp [h0, h1, h2, h3, h4]
theorem eqTm (s r : ByteArray) (a b c d a' b' c' d' : Int) (w : World) : (Op.equalIn 10000 63 (.agg #[.int .i64 a, .int .i64 b, .int .i64 c, .int .i64 d, .string s]) (.agg #[.int .i64 a', .int .i64 b', .int .i64 c', .int .i64 d', .string r])).run Tryz.prog w = .ok (a == a' && (b == b' && (c == c' && (d == d' && s.toList == r.toList)))) w := eqTmD 9998 s r a b c d a' b' c' d' w

attribute [local go_sem ↓] eqTok eqEnt eqTm
attribute [local go_sem] toList_nm app_nm size_nm

set_option maxHeartbeats 1000000 in
set_option maxRecDepth 100000 in
theorem sameMessages_any (va vb : Value) (la lb : List Tm) (w : World) (ha : TmR w va la) (hb : TmR w vb lb) (hs : la.length ≤ 1000000000) :
    Calls Tryz.prog 104 #[va, vb] w fun e w' => ∃ b, e = .returned (.bool b) ∧ (la = lb → b = true) ∧ Below w.heap.size w w' := by
  unfold TmR at ha hb
  obtain ⟨oa, ca, rfl, _, _⟩ := own_form ha
  obtain ⟨ob, cb, rfl, _, _⟩ := own_form hb
  by_cases hl : la.length = lb.length
  · have n1 : ((la.length : Int) != (lb.length : Int)) = false := by simp [hl]
    have HL := hide hl
    clear hl
    go_enter Tryz.func104, Tryz.ntmps104
    go_wp2
    go_loopw [5] (fun i wr => ∃ k : Nat, k ≤ la.length ∧ i = .int .i64 k ∧ Below w.heap.size w wr) (fun i _ => la.length - (intOf i).toNat)
    case atStart => exact ⟨0, Nat.zero_le _, rfl, Below.refl _ _⟩
    case round =>
      obtain ⟨k, hk, rfl, hbel⟩ := hrel
      by_cases hlt : k < la.length
      · obtain ⟨x, hx⟩ := get_some hlt
        obtain ⟨y, hy⟩ := get_some (l := lb) (k := k) (by have := HL.out; omega)
        have hlt2 : k < lb.length := by have := HL.out; omega
        obtain ⟨g, rfl, hg, cx, _⟩ := tm_at ha hx
        obtain ⟨g', rfl, hg', cy, _⟩ := tm_at hb hy
        have hne : ¬ x = y → ¬ la = lb := fun h e => h (by rw [e, hy] at hx; exact (Option.some.inj hx).symm)
        have q : ∀ (b j : Nat) (v : Option Value), b < w.heap.size → w.cell? ⟨b, j, none⟩ = v → wr.cell? ⟨b, j, none⟩ = v := fun b j v hb h => (hbel.cell (p := ⟨b, j, none⟩) hb).trans h
        have x0 := q _ _ _ hg (cx 0 (by decide))
        have x1 := q _ _ _ hg (cx 1 (by decide))
        have x2 := q _ _ _ hg (cx 2 (by decide))
        have x3 := q _ _ _ hg (cx 3 (by decide))
        have x4 := q _ _ _ hg (cx 4 (by decide))
        have y0 := q _ _ _ hg' (cy 0 (by decide))
        have y1 := q _ _ _ hg' (cy 1 (by decide))
        have y2 := q _ _ _ hg' (cy 2 (by decide))
        have y3 := q _ _ _ hg' (cy 3 (by decide))
        have y4 := q _ _ _ hg' (cy 4 (by decide))
        simp only [tmC, List.getElem?_cons_zero, List.getElem?_cons_succ, Nat.add_zero] at x0 x1 x2 x3 x4 y0 y1 y2 y3 y4
        have HB := hide hbel
        have HN := hide hne
        clear hbel hne q cx cy hx hy ha hb
        obtain ⟨B, hB⟩ : ∃ B, (x.kind == y.kind && (x.frm == y.frm && (x.to == y.to && (x.number == y.number && x.text == y.text)))) = B := ⟨_, rfl⟩
        cases B with
        | true =>
          go_wp2
          go_quiet (fail)
          go_wp2
          go_roundw
          case rel => exact ⟨k + 1, by omega, by go_num, ⟨HB.out.os, HB.out.tape, HB.out.output, HB.out.size, HB.out.block⟩⟩
          case measure => simp [intOf]; omega
        | false =>
          have hxy : ¬ x = y := fun e => by subst e; simp at hB
          have HXY := hide hxy
          clear hxy
          go_wp2
          go_quiet (fail)
          go_wp2
          go_ret
          exact ⟨false, rfl, fun e => absurd e (HN.out HXY.out), ⟨HB.out.os, HB.out.tape, HB.out.output, HB.out.size, HB.out.block⟩⟩
      · have HB := hide hbel
        clear hbel
        have hlt' : decide ((k : Int) < (la.length : Int)) = false := by simp; omega
        go_wp2
        go_ret
        exact ⟨true, rfl, fun _ => rfl, HB.out⟩
  · have n1 : ((la.length : Int) != (lb.length : Int)) = true := by
      rw [bne_iff_ne]
      omega
    have HL := hide hl
    clear hl
    go_enter Tryz.func104, Tryz.ntmps104
    go_wp2
    go_ret
    exact ⟨false, rfl, fun e => absurd (by rw [e]) HL.out, Below.refl _ _⟩
end Go.Proofs.YtnniimfinakioaaGreatDoor
namespace Go.Proofs.YtnniimfinakioaaGreatDoor
open Go.RowKit
attribute [local go_sem ↓] eqTok eqEnt
attribute [local go_sem] toList_nm app_nm size_nm

abbrev ProgOpsG (late : Prop) (RX : World → (Nat → Prop) → Nat → Wd → Prop) : Prop := OpsG 42 27 31 35 30 17 33 34 18 19 26 38 32 43 15 late RX

/-- A world of the program's and one of the document's, the same of both kinds. -/
structure TwoR (RX : World → (Nat → Prop) → Nat → Wd → Prop) (w : World) (SX SY : Nat → Prop) (x y : Nat) (W : Wd) : Prop where
  rx : RX w SX x W
  ry : RefW w SY y W
  ok : WG W
  apart : ∀ b, SX b → SY b → False
structure TwoD (RX : World → (Nat → Prop) → Nat → Wd → Prop) (w : World) (SX SY : Nat → Prop) (x y : Nat) (w' : World) : Prop where
  two : ∃ SX' SY' W', TwoR RX w' SX' SY' x y W' ∧ (∀ b, SX' b → SX b ∨ w.heap.size ≤ b) ∧ (∀ b, SY' b → SY b ∨ w.heap.size ≤ b)
  kp : Kp w.heap.size (fun b => SX b ∨ SY b) w w'

theorem addM_err (W : Wd) (i : Int) (s : Nm) : 0 ≤ (addM W i s).1 ∧ (addM W i s).1 ≤ 4 := by
  unfold addM
  split
  · simp
  · split
    · simp
    · split <;> simp
theorem takeM_err (W : Wd) (i : Int) (d : Nd) (es : List Ent) : 0 ≤ (takeM W i d es).1 ∧ (takeM W i d es).1 ≤ 4 := by
  unfold takeM
  split <;> simp
theorem removeM_err (W : Wd) (i : Int) (s : Nm) : 0 ≤ (removeM W i s).1 ∧ (removeM W i s).1 ≤ 4 := by
  unfold removeM
  split
  · simp
  · split
    · simp
    · exact takeM_err _ _ _ _
theorem clearM_err (W : Wd) (i : Int) : 0 ≤ (clearM W i).1 ∧ (clearM W i).1 ≤ 4 := by
  unfold clearM
  split
  · simp
  · exact takeM_err _ _ _ _

theorem sendM_err (W : Wd) (i j : Int) : 0 ≤ (sendM W i j).1 ∧ (sendM W i j).1 ≤ 4 := by
  unfold sendM
  split
  · split
    · simp
    · split <;> simp
  · simp
theorem dropM_err (W : Wd) (i : Int) : 0 ≤ (dropM W i).1 ∧ (dropM W i).1 ≤ 4 := by
  unfold dropM
  split <;> simp
theorem doubleM_err (W : Wd) (i : Int) : 0 ≤ (doubleM W i).1 ∧ (doubleM W i).1 ≤ 4 := by
  unfold doubleM
  split <;> simp
theorem deliverM_err (W : Wd) (i : Int) : 0 ≤ (deliverM W i).1 ∧ (deliverM W i).1 ≤ 4 := by
  unfold deliverM
  split
  · simp
  · split
    · simp
    · split <;> simp
theorem collectM_err (W : Wd) (i : Int) : 0 ≤ (collectM W i).1 ∧ (collectM W i).1 ≤ 4 := by
  unfold collectM
  split <;> simp
theorem crashM_err (W : Wd) (i : Int) : 0 ≤ (crashM W i).1 ∧ (crashM W i).1 ≤ 4 := by
  unfold crashM
  split <;> simp

/-- The two calls, one behind the other. -/
theorem two_done {RX : World → (Nat → Prop) → Nat → Wd → Prop} {fn f1 f2 f3 f4 f5 f6 f7 f8 f9 f10 f11 f12 f13 f14 : FuncId} {late : Prop} (OX : OpsG fn f1 f2 f3 f4 f5 f6 f7 f8 f9 f10 f11 f12 f13 f14 late RX) {w w0 w1 w2 : World} {SX SY : Nat → Prop} {x y : Nat} {W W' : Wd} (h : TwoR RX w SX SY x y W) (hb : Below w.heap.size w w0) (ok' : WG W')
    (r1 : RX w1 (Ext SX w0 w1) x W') (k1 : Kp w0.heap.size SX w0 w1) (r2 : RefW w2 (Ext SY w1 w2) y W') (k2 : Kp w1.heap.size SY w1 w2) : TwoD RX w SX SY x y w2 := by
  have lx := OX.lt h.rx
  have ly := h.ry.lt
  have s0 := hb.size
  have s1 := k1.size
  have s2 := k2.size
  have no : ∀ b, Ext SX w0 w1 b → b < w1.heap.size ∧ ¬ SY b := by
    rintro b (hb' | hb')
    · exact ⟨by have := lx b hb'; omega, fun hy => h.apart b hb' hy⟩
    · exact ⟨hb'.2, fun hy => by have := ly b hy; omega⟩
  refine ⟨⟨Ext SX w0 w1, Ext SY w1 w2, W', ⟨OX.kp r1 k2 no, r2, ok', ?_⟩, ?_, ?_⟩, ?_⟩
  · rintro b hx (hy | hy)
    · exact (no b hx).2 hy
    · have := (no b hx).1; omega
  · rintro b (hb' | hb')
    · exact Or.inl hb'
    · exact Or.inr (by omega)
  · rintro b (hb' | hb')
    · exact Or.inl hb'
    · exact Or.inr (by omega)
  · exact ((Kp.ofBelow hb).trans (k1.mono s0 fun b _ hb => Or.inl hb)).trans (k2.mono (by omega) fun b _ hb => Or.inr hb)

set_option maxHeartbeats 2000000 in
set_option maxRecDepth 100000 in
theorem moves_add {RX : World → (Nat → Prop) → Nat → Wd → Prop} {late : Prop} (OX : ProgOpsG late RX) (w : World) (SX SY : Nat → Prop) (x y : Nat) (W : Wd) (h : TwoR RX w SX SY x y W) (c a b : Int) (s : Nm) (hs : s.length ≤ 2000000) :
    Calls Tryz.prog 75 #[.agg #[ptr x, ptr y], .agg #[.int .i64 2, .int .i64 c, .int .i64 a, .int .i64 b, strV s]] w fun e w' => e = .returned (.bool true) ∧ TwoD RX w SX SY x y w' := by
  have hb0 : Below w.heap.size w ((w.alloc (.cells #[ptr x, ptr y] 128)).alloc (.cells #[.int .i64 2, .int .i64 c, .int .i64 a, .int .i64 b, strV s] 78)) := below2 w _ _
  have q1 : ((w.alloc (.cells #[ptr x, ptr y] 128)).alloc (.cells #[.int .i64 2, .int .i64 c, .int .i64 a, .int .i64 b, strV s] 78)).heap[w.heap.size]? = some (.cells #[ptr x, ptr y] 128 (0, 0)) := alloc_at (heap_alloc_new w _) _
  have q2 : ((w.alloc (.cells #[ptr x, ptr y] 128)).alloc (.cells #[.int .i64 2, .int .i64 c, .int .i64 a, .int .i64 b, strV s] 78)).heap[w.heap.size + 1]? = some (.cells #[.int .i64 2, .int .i64 c, .int .i64 a, .int .i64 b, strV s] 78 (0, 0)) := by
    have := heap_alloc_new (w.alloc (.cells #[ptr x, ptr y] 128)) (.cells #[.int .i64 2, .int .i64 c, .int .i64 a, .int .i64 b, strV s] 78)
    rw [World.size_alloc] at this
    exact this
  have lx := OX.lt h.rx
  have ly := h.ry.lt
  have hx0 := OX.kp h.rx (Kp.ofBelow (S := NoS) hb0) (Off.none lx)
  have hy0 := h.ry.kp (Kp.ofBelow (S := NoS) hb0) (Off.none ly)
  have HX0 := hide hx0
  have HY0 := hide hy0
  have HB0 := hide hb0
  have Q1 := hide q1
  have Q2 := hide q2
  clear hx0 hy0 hb0 q1 q2
  obtain ⟨ge, le⟩ := addM_err W a s
  obtain ⟨E, hE⟩ : ∃ E, (addM W a s).1 = E := ⟨_, rfl⟩
  obtain ⟨W', hW'⟩ : ∃ W', (addM W a s).2 = W' := ⟨_, rfl⟩
  have ok' := WG.add h.ok a s
  rw [hE] at ge le
  rw [hW'] at ok'
  have HE := hide hE
  have HW := hide hW'
  clear hE hW'
  go_enter Tryz.func75, Tryz.ntmps75
  go_wp2_with fail
  generalize (w.alloc (.cells #[ptr x, ptr y] 128)).alloc (.cells #[.int .i64 2, .int .i64 c, .int .i64 a, .int .i64 b, strV s] 78) = w0 at *
  refine (OX.add  w0 SX x W a s HX0.out h.ok hs).mono ?_
  rintro e w1 ⟨rfl, r1, k1⟩
  rw [HE.out]
  rw [HW.out] at r1
  have n1 : ¬ SX w.heap.size := fun hh => by have := lx _ hh; omega
  have n2 : ¬ SX (w.heap.size + 1) := fun hh => by have := lx _ hh; omega
  have z1 := lt_of_heap Q1.out
  have z2 := lt_of_heap Q2.out
  obtain ⟨e1, _⟩ := row_facts ((k1.block _ z1 n1).trans Q1.out)
  obtain ⟨e2, _⟩ := row_facts ((k1.block _ z2 n2).trans Q2.out)
  have hb0 := HB0.out
  have hy1 := HY0.out.kp k1 (fun b hb => ⟨by have := ly b hb; have := hb0.size; omega, fun hh => h.apart b hh hb⟩)
  have K1 := hide k1
  clear k1
  go_wp2_with fail
  refine (refOpsG.add  w1 SY y W a s hy1 h.ok hs).mono ?_
  rintro e w2 ⟨rfl, r2, k2⟩
  rw [HE.out]
  rw [HW.out] at r2
  clear e1 e2
  go_wp2_with fail
  refine (num_any E w2 (by omega) (by omega)).mono ?_
  rintro e w3 ⟨rfl, rfl⟩
  go_wp2_with fail
  refine (num_any E w2 (by omega) (by omega)).mono ?_
  rintro e w3 ⟨rfl, rfl⟩
  go_wp2_with fail
  go_ret
  refine ⟨?_, two_done OX h hb0 ok' r1 K1.out r2 k2⟩
  simp

set_option maxHeartbeats 2000000 in
set_option maxRecDepth 100000 in
theorem moves_remove {RX : World → (Nat → Prop) → Nat → Wd → Prop} {late : Prop} (OX : ProgOpsG late RX) (w : World) (SX SY : Nat → Prop) (x y : Nat) (W : Wd) (h : TwoR RX w SX SY x y W) (c a b : Int) (s : Nm) (hs : s.length ≤ 2000000) :
    Calls Tryz.prog 75 #[.agg #[ptr x, ptr y], .agg #[.int .i64 3, .int .i64 c, .int .i64 a, .int .i64 b, strV s]] w fun e w' => e = .returned (.bool true) ∧ TwoD RX w SX SY x y w' := by
  have hb0 : Below w.heap.size w ((w.alloc (.cells #[ptr x, ptr y] 128)).alloc (.cells #[.int .i64 3, .int .i64 c, .int .i64 a, .int .i64 b, strV s] 78)) := below2 w _ _
  have q1 : ((w.alloc (.cells #[ptr x, ptr y] 128)).alloc (.cells #[.int .i64 3, .int .i64 c, .int .i64 a, .int .i64 b, strV s] 78)).heap[w.heap.size]? = some (.cells #[ptr x, ptr y] 128 (0, 0)) := alloc_at (heap_alloc_new w _) _
  have q2 : ((w.alloc (.cells #[ptr x, ptr y] 128)).alloc (.cells #[.int .i64 3, .int .i64 c, .int .i64 a, .int .i64 b, strV s] 78)).heap[w.heap.size + 1]? = some (.cells #[.int .i64 3, .int .i64 c, .int .i64 a, .int .i64 b, strV s] 78 (0, 0)) := by
    have := heap_alloc_new (w.alloc (.cells #[ptr x, ptr y] 128)) (.cells #[.int .i64 3, .int .i64 c, .int .i64 a, .int .i64 b, strV s] 78)
    rw [World.size_alloc] at this
    exact this
  have lx := OX.lt h.rx
  have ly := h.ry.lt
  have hx0 := OX.kp h.rx (Kp.ofBelow (S := NoS) hb0) (Off.none lx)
  have hy0 := h.ry.kp (Kp.ofBelow (S := NoS) hb0) (Off.none ly)
  have HX0 := hide hx0
  have HY0 := hide hy0
  have HB0 := hide hb0
  have Q1 := hide q1
  have Q2 := hide q2
  clear hx0 hy0 hb0 q1 q2
  obtain ⟨ge, le⟩ := removeM_err W a s
  obtain ⟨E, hE⟩ : ∃ E, (removeM W a s).1 = E := ⟨_, rfl⟩
  obtain ⟨W', hW'⟩ : ∃ W', (removeM W a s).2 = W' := ⟨_, rfl⟩
  have ok' := WG.remove h.ok a s
  rw [hE] at ge le
  rw [hW'] at ok'
  have HE := hide hE
  have HW := hide hW'
  clear hE hW'
  go_enter Tryz.func75, Tryz.ntmps75
  go_wp2_with fail
  generalize (w.alloc (.cells #[ptr x, ptr y] 128)).alloc (.cells #[.int .i64 3, .int .i64 c, .int .i64 a, .int .i64 b, strV s] 78) = w0 at *
  refine (OX.remove  w0 SX x W a s HX0.out h.ok hs).mono ?_
  rintro e w1 ⟨rfl, r1, k1⟩
  rw [HE.out]
  rw [HW.out] at r1
  have n1 : ¬ SX w.heap.size := fun hh => by have := lx _ hh; omega
  have n2 : ¬ SX (w.heap.size + 1) := fun hh => by have := lx _ hh; omega
  have z1 := lt_of_heap Q1.out
  have z2 := lt_of_heap Q2.out
  obtain ⟨e1, _⟩ := row_facts ((k1.block _ z1 n1).trans Q1.out)
  obtain ⟨e2, _⟩ := row_facts ((k1.block _ z2 n2).trans Q2.out)
  have hb0 := HB0.out
  have hy1 := HY0.out.kp k1 (fun b hb => ⟨by have := ly b hb; have := hb0.size; omega, fun hh => h.apart b hh hb⟩)
  have K1 := hide k1
  clear k1
  go_wp2_with fail
  refine (refOpsG.remove  w1 SY y W a s hy1 h.ok hs).mono ?_
  rintro e w2 ⟨rfl, r2, k2⟩
  rw [HE.out]
  rw [HW.out] at r2
  clear e1 e2
  go_wp2_with fail
  refine (num_any E w2 (by omega) (by omega)).mono ?_
  rintro e w3 ⟨rfl, rfl⟩
  go_wp2_with fail
  refine (num_any E w2 (by omega) (by omega)).mono ?_
  rintro e w3 ⟨rfl, rfl⟩
  go_wp2_with fail
  go_ret
  refine ⟨?_, two_done OX h hb0 ok' r1 K1.out r2 k2⟩
  simp

set_option maxHeartbeats 2000000 in
set_option maxRecDepth 100000 in
theorem moves_clear {RX : World → (Nat → Prop) → Nat → Wd → Prop} {late : Prop} (OX : ProgOpsG late RX) (w : World) (SX SY : Nat → Prop) (x y : Nat) (W : Wd) (h : TwoR RX w SX SY x y W) (c a b : Int) (s : Nm)  :
    Calls Tryz.prog 75 #[.agg #[ptr x, ptr y], .agg #[.int .i64 4, .int .i64 c, .int .i64 a, .int .i64 b, strV s]] w fun e w' => e = .returned (.bool true) ∧ TwoD RX w SX SY x y w' := by
  have hb0 : Below w.heap.size w ((w.alloc (.cells #[ptr x, ptr y] 128)).alloc (.cells #[.int .i64 4, .int .i64 c, .int .i64 a, .int .i64 b, strV s] 78)) := below2 w _ _
  have q1 : ((w.alloc (.cells #[ptr x, ptr y] 128)).alloc (.cells #[.int .i64 4, .int .i64 c, .int .i64 a, .int .i64 b, strV s] 78)).heap[w.heap.size]? = some (.cells #[ptr x, ptr y] 128 (0, 0)) := alloc_at (heap_alloc_new w _) _
  have q2 : ((w.alloc (.cells #[ptr x, ptr y] 128)).alloc (.cells #[.int .i64 4, .int .i64 c, .int .i64 a, .int .i64 b, strV s] 78)).heap[w.heap.size + 1]? = some (.cells #[.int .i64 4, .int .i64 c, .int .i64 a, .int .i64 b, strV s] 78 (0, 0)) := by
    have := heap_alloc_new (w.alloc (.cells #[ptr x, ptr y] 128)) (.cells #[.int .i64 4, .int .i64 c, .int .i64 a, .int .i64 b, strV s] 78)
    rw [World.size_alloc] at this
    exact this
  have lx := OX.lt h.rx
  have ly := h.ry.lt
  have hx0 := OX.kp h.rx (Kp.ofBelow (S := NoS) hb0) (Off.none lx)
  have hy0 := h.ry.kp (Kp.ofBelow (S := NoS) hb0) (Off.none ly)
  have HX0 := hide hx0
  have HY0 := hide hy0
  have HB0 := hide hb0
  have Q1 := hide q1
  have Q2 := hide q2
  clear hx0 hy0 hb0 q1 q2
  obtain ⟨ge, le⟩ := clearM_err W a
  obtain ⟨E, hE⟩ : ∃ E, (clearM W a).1 = E := ⟨_, rfl⟩
  obtain ⟨W', hW'⟩ : ∃ W', (clearM W a).2 = W' := ⟨_, rfl⟩
  have ok' := WG.clear h.ok a
  rw [hE] at ge le
  rw [hW'] at ok'
  have HE := hide hE
  have HW := hide hW'
  clear hE hW'
  go_enter Tryz.func75, Tryz.ntmps75
  go_wp2_with fail
  generalize (w.alloc (.cells #[ptr x, ptr y] 128)).alloc (.cells #[.int .i64 4, .int .i64 c, .int .i64 a, .int .i64 b, strV s] 78) = w0 at *
  refine (OX.clear  w0 SX x W a HX0.out h.ok ).mono ?_
  rintro e w1 ⟨rfl, r1, k1⟩
  rw [HE.out]
  rw [HW.out] at r1
  have n1 : ¬ SX w.heap.size := fun hh => by have := lx _ hh; omega
  have n2 : ¬ SX (w.heap.size + 1) := fun hh => by have := lx _ hh; omega
  have z1 := lt_of_heap Q1.out
  have z2 := lt_of_heap Q2.out
  obtain ⟨e1, _⟩ := row_facts ((k1.block _ z1 n1).trans Q1.out)
  obtain ⟨e2, _⟩ := row_facts ((k1.block _ z2 n2).trans Q2.out)
  have hb0 := HB0.out
  have hy1 := HY0.out.kp k1 (fun b hb => ⟨by have := ly b hb; have := hb0.size; omega, fun hh => h.apart b hh hb⟩)
  have K1 := hide k1
  clear k1
  go_wp2_with fail
  refine (refOpsG.clear  w1 SY y W a hy1 h.ok ).mono ?_
  rintro e w2 ⟨rfl, r2, k2⟩
  rw [HE.out]
  rw [HW.out] at r2
  clear e1 e2
  go_wp2_with fail
  refine (num_any E w2 (by omega) (by omega)).mono ?_
  rintro e w3 ⟨rfl, rfl⟩
  go_wp2_with fail
  refine (num_any E w2 (by omega) (by omega)).mono ?_
  rintro e w3 ⟨rfl, rfl⟩
  go_wp2_with fail
  go_ret
  refine ⟨?_, two_done OX h hb0 ok' r1 K1.out r2 k2⟩
  simp


set_option maxHeartbeats 2000000 in
set_option maxRecDepth 100000 in
theorem moves_send {RX : World → (Nat → Prop) → Nat → Wd → Prop} {late : Prop} (OX : ProgOpsG late RX) (w : World) (SX SY : Nat → Prop) (x y : Nat) (W : Wd) (h : TwoR RX w SX SY x y W) (c a b : Int) (s : Nm) :
    Calls Tryz.prog 75 #[.agg #[ptr x, ptr y], .agg #[.int .i64 8, .int .i64 c, .int .i64 a, .int .i64 b, strV s]] w fun e w' => e = .returned (.bool true) ∧ TwoD RX w SX SY x y w' := by
  have hb0 : Below w.heap.size w ((w.alloc (.cells #[ptr x, ptr y] 128)).alloc (.cells #[.int .i64 8, .int .i64 c, .int .i64 a, .int .i64 b, strV s] 78)) := below2 w _ _
  have q1 : ((w.alloc (.cells #[ptr x, ptr y] 128)).alloc (.cells #[.int .i64 8, .int .i64 c, .int .i64 a, .int .i64 b, strV s] 78)).heap[w.heap.size]? = some (.cells #[ptr x, ptr y] 128 (0, 0)) := alloc_at (heap_alloc_new w _) _
  have q2 : ((w.alloc (.cells #[ptr x, ptr y] 128)).alloc (.cells #[.int .i64 8, .int .i64 c, .int .i64 a, .int .i64 b, strV s] 78)).heap[w.heap.size + 1]? = some (.cells #[.int .i64 8, .int .i64 c, .int .i64 a, .int .i64 b, strV s] 78 (0, 0)) := by
    have := heap_alloc_new (w.alloc (.cells #[ptr x, ptr y] 128)) (.cells #[.int .i64 8, .int .i64 c, .int .i64 a, .int .i64 b, strV s] 78)
    rw [World.size_alloc] at this
    exact this
  have lx := OX.lt h.rx
  have ly := h.ry.lt
  have hx0 := OX.kp h.rx (Kp.ofBelow (S := NoS) hb0) (Off.none lx)
  have hy0 := h.ry.kp (Kp.ofBelow (S := NoS) hb0) (Off.none ly)
  have HX0 := hide hx0
  have HY0 := hide hy0
  have HB0 := hide hb0
  have Q1 := hide q1
  have Q2 := hide q2
  clear hx0 hy0 hb0 q1 q2
  obtain ⟨ge, le⟩ := sendM_err W a b
  obtain ⟨E, hE⟩ : ∃ E, (sendM W a b).1 = E := ⟨_, rfl⟩
  obtain ⟨W', hW'⟩ : ∃ W', (sendM W a b).2 = W' := ⟨_, rfl⟩
  have ok' := WG.send h.ok a b
  rw [hE] at ge le
  rw [hW'] at ok'
  have HE := hide hE
  have HW := hide hW'
  clear hE hW'
  go_enter Tryz.func75, Tryz.ntmps75
  go_wp2_with fail
  generalize (w.alloc (.cells #[ptr x, ptr y] 128)).alloc (.cells #[.int .i64 8, .int .i64 c, .int .i64 a, .int .i64 b, strV s] 78) = w0 at *
  refine (OX.send  w0 SX x W a b HX0.out h.ok ).mono ?_
  rintro e w1 ⟨rfl, r1, k1⟩
  rw [HE.out]
  rw [HW.out] at r1
  have n1 : ¬ SX w.heap.size := fun hh => by have := lx _ hh; omega
  have n2 : ¬ SX (w.heap.size + 1) := fun hh => by have := lx _ hh; omega
  have z1 := lt_of_heap Q1.out
  have z2 := lt_of_heap Q2.out
  obtain ⟨e1, _⟩ := row_facts ((k1.block _ z1 n1).trans Q1.out)
  obtain ⟨e2, _⟩ := row_facts ((k1.block _ z2 n2).trans Q2.out)
  have hb0 := HB0.out
  have hy1 := HY0.out.kp k1 (fun b hb => ⟨by have := ly b hb; have := hb0.size; omega, fun hh => h.apart b hh hb⟩)
  have K1 := hide k1
  clear k1
  go_wp2_with fail
  refine (refOpsG.send  w1 SY y W a b hy1 h.ok ).mono ?_
  rintro e w2 ⟨rfl, r2, k2⟩
  rw [HE.out]
  rw [HW.out] at r2
  clear e1 e2
  go_wp2_with fail
  refine (num_any E w2 (by omega) (by omega)).mono ?_
  rintro e w3 ⟨rfl, rfl⟩
  go_wp2_with fail
  refine (num_any E w2 (by omega) (by omega)).mono ?_
  rintro e w3 ⟨rfl, rfl⟩
  go_wp2_with fail
  go_ret
  refine ⟨?_, two_done OX h hb0 ok' r1 K1.out r2 k2⟩
  simp

set_option maxHeartbeats 2000000 in
set_option maxRecDepth 100000 in
theorem moves_deliver {RX : World → (Nat → Prop) → Nat → Wd → Prop} {late : Prop} (OX : ProgOpsG late RX) (w : World) (SX SY : Nat → Prop) (x y : Nat) (W : Wd) (h : TwoR RX w SX SY x y W) (c a b : Int) (s : Nm) :
    Calls Tryz.prog 75 #[.agg #[ptr x, ptr y], .agg #[.int .i64 10, .int .i64 c, .int .i64 a, .int .i64 b, strV s]] w fun e w' => e = .returned (.bool true) ∧ TwoD RX w SX SY x y w' := by
  have hb0 : Below w.heap.size w ((w.alloc (.cells #[ptr x, ptr y] 128)).alloc (.cells #[.int .i64 10, .int .i64 c, .int .i64 a, .int .i64 b, strV s] 78)) := below2 w _ _
  have q1 : ((w.alloc (.cells #[ptr x, ptr y] 128)).alloc (.cells #[.int .i64 10, .int .i64 c, .int .i64 a, .int .i64 b, strV s] 78)).heap[w.heap.size]? = some (.cells #[ptr x, ptr y] 128 (0, 0)) := alloc_at (heap_alloc_new w _) _
  have q2 : ((w.alloc (.cells #[ptr x, ptr y] 128)).alloc (.cells #[.int .i64 10, .int .i64 c, .int .i64 a, .int .i64 b, strV s] 78)).heap[w.heap.size + 1]? = some (.cells #[.int .i64 10, .int .i64 c, .int .i64 a, .int .i64 b, strV s] 78 (0, 0)) := by
    have := heap_alloc_new (w.alloc (.cells #[ptr x, ptr y] 128)) (.cells #[.int .i64 10, .int .i64 c, .int .i64 a, .int .i64 b, strV s] 78)
    rw [World.size_alloc] at this
    exact this
  have lx := OX.lt h.rx
  have ly := h.ry.lt
  have hx0 := OX.kp h.rx (Kp.ofBelow (S := NoS) hb0) (Off.none lx)
  have hy0 := h.ry.kp (Kp.ofBelow (S := NoS) hb0) (Off.none ly)
  have HX0 := hide hx0
  have HY0 := hide hy0
  have HB0 := hide hb0
  have Q1 := hide q1
  have Q2 := hide q2
  clear hx0 hy0 hb0 q1 q2
  obtain ⟨ge, le⟩ := deliverM_err W a
  obtain ⟨E, hE⟩ : ∃ E, (deliverM W a).1 = E := ⟨_, rfl⟩
  obtain ⟨W', hW'⟩ : ∃ W', (deliverM W a).2 = W' := ⟨_, rfl⟩
  have ok' := WG.deliver h.ok a
  rw [hE] at ge le
  rw [hW'] at ok'
  have HE := hide hE
  have HW := hide hW'
  clear hE hW'
  go_enter Tryz.func75, Tryz.ntmps75
  go_wp2_with fail
  generalize (w.alloc (.cells #[ptr x, ptr y] 128)).alloc (.cells #[.int .i64 10, .int .i64 c, .int .i64 a, .int .i64 b, strV s] 78) = w0 at *
  refine (OX.deliver  w0 SX x W a HX0.out h.ok ).mono ?_
  rintro e w1 ⟨rfl, r1, k1⟩
  rw [HE.out]
  rw [HW.out] at r1
  have n1 : ¬ SX w.heap.size := fun hh => by have := lx _ hh; omega
  have n2 : ¬ SX (w.heap.size + 1) := fun hh => by have := lx _ hh; omega
  have z1 := lt_of_heap Q1.out
  have z2 := lt_of_heap Q2.out
  obtain ⟨e1, _⟩ := row_facts ((k1.block _ z1 n1).trans Q1.out)
  obtain ⟨e2, _⟩ := row_facts ((k1.block _ z2 n2).trans Q2.out)
  have hb0 := HB0.out
  have hy1 := HY0.out.kp k1 (fun b hb => ⟨by have := ly b hb; have := hb0.size; omega, fun hh => h.apart b hh hb⟩)
  have K1 := hide k1
  clear k1
  go_wp2_with fail
  refine (refOpsG.deliver  w1 SY y W a hy1 h.ok ).mono ?_
  rintro e w2 ⟨rfl, r2, k2⟩
  rw [HE.out]
  rw [HW.out] at r2
  clear e1 e2
  go_wp2_with fail
  refine (num_any E w2 (by omega) (by omega)).mono ?_
  rintro e w3 ⟨rfl, rfl⟩
  go_wp2_with fail
  refine (num_any E w2 (by omega) (by omega)).mono ?_
  rintro e w3 ⟨rfl, rfl⟩
  go_wp2_with fail
  go_ret
  refine ⟨?_, two_done OX h hb0 ok' r1 K1.out r2 k2⟩
  simp

set_option maxHeartbeats 2000000 in
set_option maxRecDepth 100000 in
theorem moves_drop {RX : World → (Nat → Prop) → Nat → Wd → Prop} {late : Prop} (OX : ProgOpsG late RX) (w : World) (SX SY : Nat → Prop) (x y : Nat) (W : Wd) (h : TwoR RX w SX SY x y W) (c a b : Int) (s : Nm) :
    Calls Tryz.prog 75 #[.agg #[ptr x, ptr y], .agg #[.int .i64 11, .int .i64 c, .int .i64 a, .int .i64 b, strV s]] w fun e w' => e = .returned (.bool true) ∧ TwoD RX w SX SY x y w' := by
  have hb0 : Below w.heap.size w ((w.alloc (.cells #[ptr x, ptr y] 128)).alloc (.cells #[.int .i64 11, .int .i64 c, .int .i64 a, .int .i64 b, strV s] 78)) := below2 w _ _
  have q1 : ((w.alloc (.cells #[ptr x, ptr y] 128)).alloc (.cells #[.int .i64 11, .int .i64 c, .int .i64 a, .int .i64 b, strV s] 78)).heap[w.heap.size]? = some (.cells #[ptr x, ptr y] 128 (0, 0)) := alloc_at (heap_alloc_new w _) _
  have q2 : ((w.alloc (.cells #[ptr x, ptr y] 128)).alloc (.cells #[.int .i64 11, .int .i64 c, .int .i64 a, .int .i64 b, strV s] 78)).heap[w.heap.size + 1]? = some (.cells #[.int .i64 11, .int .i64 c, .int .i64 a, .int .i64 b, strV s] 78 (0, 0)) := by
    have := heap_alloc_new (w.alloc (.cells #[ptr x, ptr y] 128)) (.cells #[.int .i64 11, .int .i64 c, .int .i64 a, .int .i64 b, strV s] 78)
    rw [World.size_alloc] at this
    exact this
  have lx := OX.lt h.rx
  have ly := h.ry.lt
  have hx0 := OX.kp h.rx (Kp.ofBelow (S := NoS) hb0) (Off.none lx)
  have hy0 := h.ry.kp (Kp.ofBelow (S := NoS) hb0) (Off.none ly)
  have HX0 := hide hx0
  have HY0 := hide hy0
  have HB0 := hide hb0
  have Q1 := hide q1
  have Q2 := hide q2
  clear hx0 hy0 hb0 q1 q2
  obtain ⟨ge, le⟩ := dropM_err W a
  obtain ⟨E, hE⟩ : ∃ E, (dropM W a).1 = E := ⟨_, rfl⟩
  obtain ⟨W', hW'⟩ : ∃ W', (dropM W a).2 = W' := ⟨_, rfl⟩
  have ok' := WG.drop h.ok a
  rw [hE] at ge le
  rw [hW'] at ok'
  have HE := hide hE
  have HW := hide hW'
  clear hE hW'
  go_enter Tryz.func75, Tryz.ntmps75
  go_wp2_with fail
  generalize (w.alloc (.cells #[ptr x, ptr y] 128)).alloc (.cells #[.int .i64 11, .int .i64 c, .int .i64 a, .int .i64 b, strV s] 78) = w0 at *
  refine (OX.drop  w0 SX x W a HX0.out h.ok ).mono ?_
  rintro e w1 ⟨rfl, r1, k1⟩
  rw [HE.out]
  rw [HW.out] at r1
  have n1 : ¬ SX w.heap.size := fun hh => by have := lx _ hh; omega
  have n2 : ¬ SX (w.heap.size + 1) := fun hh => by have := lx _ hh; omega
  have z1 := lt_of_heap Q1.out
  have z2 := lt_of_heap Q2.out
  obtain ⟨e1, _⟩ := row_facts ((k1.block _ z1 n1).trans Q1.out)
  obtain ⟨e2, _⟩ := row_facts ((k1.block _ z2 n2).trans Q2.out)
  have hb0 := HB0.out
  have hy1 := HY0.out.kp k1 (fun b hb => ⟨by have := ly b hb; have := hb0.size; omega, fun hh => h.apart b hh hb⟩)
  have K1 := hide k1
  clear k1
  go_wp2_with fail
  refine (refOpsG.drop  w1 SY y W a hy1 h.ok ).mono ?_
  rintro e w2 ⟨rfl, r2, k2⟩
  rw [HE.out]
  rw [HW.out] at r2
  clear e1 e2
  go_wp2_with fail
  refine (num_any E w2 (by omega) (by omega)).mono ?_
  rintro e w3 ⟨rfl, rfl⟩
  go_wp2_with fail
  refine (num_any E w2 (by omega) (by omega)).mono ?_
  rintro e w3 ⟨rfl, rfl⟩
  go_wp2_with fail
  go_ret
  refine ⟨?_, two_done OX h hb0 ok' r1 K1.out r2 k2⟩
  simp

set_option maxHeartbeats 2000000 in
set_option maxRecDepth 100000 in
theorem moves_double {RX : World → (Nat → Prop) → Nat → Wd → Prop} {late : Prop} (OX : ProgOpsG late RX) (w : World) (SX SY : Nat → Prop) (x y : Nat) (W : Wd) (h : TwoR RX w SX SY x y W) (c a b : Int) (s : Nm) :
    Calls Tryz.prog 75 #[.agg #[ptr x, ptr y], .agg #[.int .i64 12, .int .i64 c, .int .i64 a, .int .i64 b, strV s]] w fun e w' => e = .returned (.bool true) ∧ TwoD RX w SX SY x y w' := by
  have hb0 : Below w.heap.size w ((w.alloc (.cells #[ptr x, ptr y] 128)).alloc (.cells #[.int .i64 12, .int .i64 c, .int .i64 a, .int .i64 b, strV s] 78)) := below2 w _ _
  have q1 : ((w.alloc (.cells #[ptr x, ptr y] 128)).alloc (.cells #[.int .i64 12, .int .i64 c, .int .i64 a, .int .i64 b, strV s] 78)).heap[w.heap.size]? = some (.cells #[ptr x, ptr y] 128 (0, 0)) := alloc_at (heap_alloc_new w _) _
  have q2 : ((w.alloc (.cells #[ptr x, ptr y] 128)).alloc (.cells #[.int .i64 12, .int .i64 c, .int .i64 a, .int .i64 b, strV s] 78)).heap[w.heap.size + 1]? = some (.cells #[.int .i64 12, .int .i64 c, .int .i64 a, .int .i64 b, strV s] 78 (0, 0)) := by
    have := heap_alloc_new (w.alloc (.cells #[ptr x, ptr y] 128)) (.cells #[.int .i64 12, .int .i64 c, .int .i64 a, .int .i64 b, strV s] 78)
    rw [World.size_alloc] at this
    exact this
  have lx := OX.lt h.rx
  have ly := h.ry.lt
  have hx0 := OX.kp h.rx (Kp.ofBelow (S := NoS) hb0) (Off.none lx)
  have hy0 := h.ry.kp (Kp.ofBelow (S := NoS) hb0) (Off.none ly)
  have HX0 := hide hx0
  have HY0 := hide hy0
  have HB0 := hide hb0
  have Q1 := hide q1
  have Q2 := hide q2
  clear hx0 hy0 hb0 q1 q2
  obtain ⟨ge, le⟩ := doubleM_err W a
  obtain ⟨E, hE⟩ : ∃ E, (doubleM W a).1 = E := ⟨_, rfl⟩
  obtain ⟨W', hW'⟩ : ∃ W', (doubleM W a).2 = W' := ⟨_, rfl⟩
  have ok' := WG.double h.ok a
  rw [hE] at ge le
  rw [hW'] at ok'
  have HE := hide hE
  have HW := hide hW'
  clear hE hW'
  go_enter Tryz.func75, Tryz.ntmps75
  go_wp2_with fail
  generalize (w.alloc (.cells #[ptr x, ptr y] 128)).alloc (.cells #[.int .i64 12, .int .i64 c, .int .i64 a, .int .i64 b, strV s] 78) = w0 at *
  refine (OX.double  w0 SX x W a HX0.out h.ok ).mono ?_
  rintro e w1 ⟨rfl, r1, k1⟩
  rw [HE.out]
  rw [HW.out] at r1
  have n1 : ¬ SX w.heap.size := fun hh => by have := lx _ hh; omega
  have n2 : ¬ SX (w.heap.size + 1) := fun hh => by have := lx _ hh; omega
  have z1 := lt_of_heap Q1.out
  have z2 := lt_of_heap Q2.out
  obtain ⟨e1, _⟩ := row_facts ((k1.block _ z1 n1).trans Q1.out)
  obtain ⟨e2, _⟩ := row_facts ((k1.block _ z2 n2).trans Q2.out)
  have hb0 := HB0.out
  have hy1 := HY0.out.kp k1 (fun b hb => ⟨by have := ly b hb; have := hb0.size; omega, fun hh => h.apart b hh hb⟩)
  have K1 := hide k1
  clear k1
  go_wp2_with fail
  refine (refOpsG.double  w1 SY y W a hy1 h.ok ).mono ?_
  rintro e w2 ⟨rfl, r2, k2⟩
  rw [HE.out]
  rw [HW.out] at r2
  clear e1 e2
  go_wp2_with fail
  refine (num_any E w2 (by omega) (by omega)).mono ?_
  rintro e w3 ⟨rfl, rfl⟩
  go_wp2_with fail
  refine (num_any E w2 (by omega) (by omega)).mono ?_
  rintro e w3 ⟨rfl, rfl⟩
  go_wp2_with fail
  go_ret
  refine ⟨?_, two_done OX h hb0 ok' r1 K1.out r2 k2⟩
  simp

set_option maxHeartbeats 2000000 in
set_option maxRecDepth 100000 in
theorem moves_collect {RX : World → (Nat → Prop) → Nat → Wd → Prop} {late : Prop} (OX : ProgOpsG late RX) (hlate : late) (w : World) (SX SY : Nat → Prop) (x y : Nat) (W : Wd) (h : TwoR RX w SX SY x y W) (c a b : Int) (s : Nm) :
    Calls Tryz.prog 75 #[.agg #[ptr x, ptr y], .agg #[.int .i64 13, .int .i64 c, .int .i64 a, .int .i64 b, strV s]] w fun e w' => e = .returned (.bool true) ∧ TwoD RX w SX SY x y w' := by
  have hb0 : Below w.heap.size w ((w.alloc (.cells #[ptr x, ptr y] 128)).alloc (.cells #[.int .i64 13, .int .i64 c, .int .i64 a, .int .i64 b, strV s] 78)) := below2 w _ _
  have q1 : ((w.alloc (.cells #[ptr x, ptr y] 128)).alloc (.cells #[.int .i64 13, .int .i64 c, .int .i64 a, .int .i64 b, strV s] 78)).heap[w.heap.size]? = some (.cells #[ptr x, ptr y] 128 (0, 0)) := alloc_at (heap_alloc_new w _) _
  have q2 : ((w.alloc (.cells #[ptr x, ptr y] 128)).alloc (.cells #[.int .i64 13, .int .i64 c, .int .i64 a, .int .i64 b, strV s] 78)).heap[w.heap.size + 1]? = some (.cells #[.int .i64 13, .int .i64 c, .int .i64 a, .int .i64 b, strV s] 78 (0, 0)) := by
    have := heap_alloc_new (w.alloc (.cells #[ptr x, ptr y] 128)) (.cells #[.int .i64 13, .int .i64 c, .int .i64 a, .int .i64 b, strV s] 78)
    rw [World.size_alloc] at this
    exact this
  have lx := OX.lt h.rx
  have ly := h.ry.lt
  have hx0 := OX.kp h.rx (Kp.ofBelow (S := NoS) hb0) (Off.none lx)
  have hy0 := h.ry.kp (Kp.ofBelow (S := NoS) hb0) (Off.none ly)
  have HX0 := hide hx0
  have HY0 := hide hy0
  have HB0 := hide hb0
  have Q1 := hide q1
  have Q2 := hide q2
  clear hx0 hy0 hb0 q1 q2
  obtain ⟨ge, le⟩ := collectM_err W a
  obtain ⟨E, hE⟩ : ∃ E, (collectM W a).1 = E := ⟨_, rfl⟩
  obtain ⟨W', hW'⟩ : ∃ W', (collectM W a).2 = W' := ⟨_, rfl⟩
  have ok' := WG.collect h.ok a
  rw [hE] at ge le
  rw [hW'] at ok'
  have HE := hide hE
  have HW := hide hW'
  clear hE hW'
  go_enter Tryz.func75, Tryz.ntmps75
  go_wp2_with fail
  generalize (w.alloc (.cells #[ptr x, ptr y] 128)).alloc (.cells #[.int .i64 13, .int .i64 c, .int .i64 a, .int .i64 b, strV s] 78) = w0 at *
  refine (OX.collect hlate w0 SX x W a HX0.out h.ok ).mono ?_
  rintro e w1 ⟨rfl, r1, k1⟩
  rw [HE.out]
  rw [HW.out] at r1
  have n1 : ¬ SX w.heap.size := fun hh => by have := lx _ hh; omega
  have n2 : ¬ SX (w.heap.size + 1) := fun hh => by have := lx _ hh; omega
  have z1 := lt_of_heap Q1.out
  have z2 := lt_of_heap Q2.out
  obtain ⟨e1, _⟩ := row_facts ((k1.block _ z1 n1).trans Q1.out)
  obtain ⟨e2, _⟩ := row_facts ((k1.block _ z2 n2).trans Q2.out)
  have hb0 := HB0.out
  have hy1 := HY0.out.kp k1 (fun b hb => ⟨by have := ly b hb; have := hb0.size; omega, fun hh => h.apart b hh hb⟩)
  have K1 := hide k1
  clear k1
  go_wp2_with fail
  refine (refOpsG.collect trivial w1 SY y W a hy1 h.ok ).mono ?_
  rintro e w2 ⟨rfl, r2, k2⟩
  rw [HE.out]
  rw [HW.out] at r2
  clear e1 e2
  go_wp2_with fail
  refine (num_any E w2 (by omega) (by omega)).mono ?_
  rintro e w3 ⟨rfl, rfl⟩
  go_wp2_with fail
  refine (num_any E w2 (by omega) (by omega)).mono ?_
  rintro e w3 ⟨rfl, rfl⟩
  go_wp2_with fail
  go_ret
  refine ⟨?_, two_done OX h hb0 ok' r1 K1.out r2 k2⟩
  simp

set_option maxHeartbeats 2000000 in
set_option maxRecDepth 100000 in
theorem moves_crash {RX : World → (Nat → Prop) → Nat → Wd → Prop} {late : Prop} (OX : ProgOpsG late RX) (hlate : late) (w : World) (SX SY : Nat → Prop) (x y : Nat) (W : Wd) (h : TwoR RX w SX SY x y W) (c a b : Int) (s : Nm) :
    Calls Tryz.prog 75 #[.agg #[ptr x, ptr y], .agg #[.int .i64 14, .int .i64 c, .int .i64 a, .int .i64 b, strV s]] w fun e w' => e = .returned (.bool true) ∧ TwoD RX w SX SY x y w' := by
  have hb0 : Below w.heap.size w ((w.alloc (.cells #[ptr x, ptr y] 128)).alloc (.cells #[.int .i64 14, .int .i64 c, .int .i64 a, .int .i64 b, strV s] 78)) := below2 w _ _
  have q1 : ((w.alloc (.cells #[ptr x, ptr y] 128)).alloc (.cells #[.int .i64 14, .int .i64 c, .int .i64 a, .int .i64 b, strV s] 78)).heap[w.heap.size]? = some (.cells #[ptr x, ptr y] 128 (0, 0)) := alloc_at (heap_alloc_new w _) _
  have q2 : ((w.alloc (.cells #[ptr x, ptr y] 128)).alloc (.cells #[.int .i64 14, .int .i64 c, .int .i64 a, .int .i64 b, strV s] 78)).heap[w.heap.size + 1]? = some (.cells #[.int .i64 14, .int .i64 c, .int .i64 a, .int .i64 b, strV s] 78 (0, 0)) := by
    have := heap_alloc_new (w.alloc (.cells #[ptr x, ptr y] 128)) (.cells #[.int .i64 14, .int .i64 c, .int .i64 a, .int .i64 b, strV s] 78)
    rw [World.size_alloc] at this
    exact this
  have lx := OX.lt h.rx
  have ly := h.ry.lt
  have hx0 := OX.kp h.rx (Kp.ofBelow (S := NoS) hb0) (Off.none lx)
  have hy0 := h.ry.kp (Kp.ofBelow (S := NoS) hb0) (Off.none ly)
  have HX0 := hide hx0
  have HY0 := hide hy0
  have HB0 := hide hb0
  have Q1 := hide q1
  have Q2 := hide q2
  clear hx0 hy0 hb0 q1 q2
  obtain ⟨ge, le⟩ := crashM_err W a
  obtain ⟨E, hE⟩ : ∃ E, (crashM W a).1 = E := ⟨_, rfl⟩
  obtain ⟨W', hW'⟩ : ∃ W', (crashM W a).2 = W' := ⟨_, rfl⟩
  have ok' := WG.crash h.ok a
  rw [hE] at ge le
  rw [hW'] at ok'
  have HE := hide hE
  have HW := hide hW'
  clear hE hW'
  go_enter Tryz.func75, Tryz.ntmps75
  go_wp2_with fail
  generalize (w.alloc (.cells #[ptr x, ptr y] 128)).alloc (.cells #[.int .i64 14, .int .i64 c, .int .i64 a, .int .i64 b, strV s] 78) = w0 at *
  refine (OX.crash hlate w0 SX x W a HX0.out h.ok ).mono ?_
  rintro e w1 ⟨rfl, r1, k1⟩
  rw [HE.out]
  rw [HW.out] at r1
  have n1 : ¬ SX w.heap.size := fun hh => by have := lx _ hh; omega
  have n2 : ¬ SX (w.heap.size + 1) := fun hh => by have := lx _ hh; omega
  have z1 := lt_of_heap Q1.out
  have z2 := lt_of_heap Q2.out
  obtain ⟨e1, _⟩ := row_facts ((k1.block _ z1 n1).trans Q1.out)
  obtain ⟨e2, _⟩ := row_facts ((k1.block _ z2 n2).trans Q2.out)
  have hb0 := HB0.out
  have hy1 := HY0.out.kp k1 (fun b hb => ⟨by have := ly b hb; have := hb0.size; omega, fun hh => h.apart b hh hb⟩)
  have K1 := hide k1
  clear k1
  go_wp2_with fail
  refine (refOpsG.crash trivial w1 SY y W a hy1 h.ok ).mono ?_
  rintro e w2 ⟨rfl, r2, k2⟩
  rw [HE.out]
  rw [HW.out] at r2
  clear e1 e2
  go_wp2_with fail
  refine (num_any E w2 (by omega) (by omega)).mono ?_
  rintro e w3 ⟨rfl, rfl⟩
  go_wp2_with fail
  refine (num_any E w2 (by omega) (by omega)).mono ?_
  rintro e w3 ⟨rfl, rfl⟩
  go_wp2_with fail
  go_ret
  refine ⟨?_, two_done OX h hb0 ok' r1 K1.out r2 k2⟩
  simp
end Go.Proofs.YtnniimfinakioaaGreatDoor
namespace Go.Proofs.YtnniimfinakioaaGreatDoor
open Go.RowKit
attribute [local go_sem ↓] eqTok eqEnt
attribute [local go_sem] toList_nm app_nm size_nm

set_option maxHeartbeats 2000000 in
set_option maxRecDepth 100000 in
theorem moves_round {RX : World → (Nat → Prop) → Nat → Wd → Prop} {late : Prop} (OX : ProgOpsG late RX) (hlate : late) (w : World) (SX SY : Nat → Prop) (x y : Nat) (W : Wd) (h : TwoR RX w SX SY x y W) (c a b : Int) (s : Nm) :
    Calls Tryz.prog 75 #[.agg #[ptr x, ptr y], .agg #[.int .i64 15, .int .i64 c, .int .i64 a, .int .i64 b, strV s]] w fun e w' => e = .returned (.bool true) ∧ TwoD RX w SX SY x y w' := by
  have hb0 : Below w.heap.size w ((w.alloc (.cells #[ptr x, ptr y] 128)).alloc (.cells #[.int .i64 15, .int .i64 c, .int .i64 a, .int .i64 b, strV s] 78)) := below2 w _ _
  have q1 : ((w.alloc (.cells #[ptr x, ptr y] 128)).alloc (.cells #[.int .i64 15, .int .i64 c, .int .i64 a, .int .i64 b, strV s] 78)).heap[w.heap.size]? = some (.cells #[ptr x, ptr y] 128 (0, 0)) := alloc_at (heap_alloc_new w _) _
  have lx := OX.lt h.rx
  have ly := h.ry.lt
  have hx0 := OX.kp h.rx (Kp.ofBelow (S := NoS) hb0) (Off.none lx)
  have hy0 := h.ry.kp (Kp.ofBelow (S := NoS) hb0) (Off.none ly)
  have HX0 := hide hx0
  have HY0 := hide hy0
  have HB0 := hide hb0
  have Q1 := hide q1
  clear hx0 hy0 hb0 q1
  obtain ⟨E, hE⟩ : ∃ E, (roundM W).1 = E := ⟨_, rfl⟩
  obtain ⟨W', hW'⟩ : ∃ W', (roundM W).2 = W' := ⟨_, rfl⟩
  have ok' := WG.round h.ok
  rw [hW'] at ok'
  have HE := hide hE
  have HW := hide hW'
  clear hE hW'
  go_enter Tryz.func75, Tryz.ntmps75
  go_wp2_with fail
  generalize (w.alloc (.cells #[ptr x, ptr y] 128)).alloc (.cells #[.int .i64 15, .int .i64 c, .int .i64 a, .int .i64 b, strV s] 78) = w0 at *
  refine (OX.round hlate w0 SX x W HX0.out h.ok).mono ?_
  rintro e w1 ⟨rfl, r1, k1⟩
  rw [HE.out]
  rw [HW.out] at r1
  have n1 : ¬ SX w.heap.size := fun hh => by have := lx _ hh; omega
  have z1 := lt_of_heap Q1.out
  obtain ⟨e1, _⟩ := row_facts ((k1.block _ z1 n1).trans Q1.out)
  have hb0 := HB0.out
  have hy1 := HY0.out.kp k1 (fun b hb => ⟨by have := ly b hb; have := hb0.size; omega, fun hh => h.apart b hh hb⟩)
  have K1 := hide k1
  clear k1
  go_wp2_with fail
  refine (refOpsG.round trivial w1 SY y W hy1 h.ok).mono ?_
  rintro e w2 ⟨rfl, r2, k2⟩
  rw [HE.out]
  rw [HW.out] at r2
  clear e1
  go_wp2_with fail
  go_ret
  refine ⟨?_, two_done OX h hb0 ok' r1 K1.out r2 k2⟩
  simp
end Go.Proofs.YtnniimfinakioaaGreatDoor
