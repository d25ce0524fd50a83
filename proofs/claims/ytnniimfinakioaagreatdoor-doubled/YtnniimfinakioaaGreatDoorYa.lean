import Derived.Sort.Grow
import Derived.Sort.Statements
import Derived.Test.YtnniimfinakioaaGreatDoorXe
import Derived.Test.YtnniimfinakioaaGreatDoorSh
namespace Go.Proofs.YtnniimfinakioaaGreatDoor
open Go.RowKit
attribute [local go_sem] toList_nm app_nm size_nm

/-- A world that has drawn, and new blocks: nothing else. -/
def LaysW (w w' : World) : Prop := ∃ q os, w' = Sort.grow (w.drewN q) os
theorem LaysW.refl (w : World) : LaysW w w := ⟨0, #[], by simp [Sort.grow, World.drewN]⟩
theorem LaysW.alloc {w w' : World} (h : LaysW w w') (o : Obj) : LaysW w (w'.alloc o) := by
  obtain ⟨q, os, rfl⟩ := h
  exact ⟨q, os ++ #[o], by rw [Sort.alloc_eq_grow, Sort.grow_grow]⟩
theorem LaysW.drew {w w' : World} (h : LaysW w w') : LaysW w w'.drew := by
  obtain ⟨q, os, rfl⟩ := h
  exact ⟨q + 1, os, rfl⟩
theorem LaysW.trans {a b c : World} (h : LaysW a b) (k : LaysW b c) : LaysW a c := by
  obtain ⟨q, os, rfl⟩ := h
  obtain ⟨q', os', rfl⟩ := k
  exact ⟨q + q', os ++ os', by simp [Sort.grow, World.drewN, Array.append_assoc, Nat.add_assoc]⟩

def cmpI (x y : Int) : Int := if x < y then -1 else if y < x then 1 else 0
def orI (x y : Int) : Int := if x = 0 then y else x

theorem isNaN_any (x : Int) (w : World) : Calls Tryz.prog 165 #[.int .i64 x] w fun e w' => e = .returned (.bool false) ∧ w = w' := by
  go_enter Tryz.func165, Tryz.ntmps165
  go_wp2_with fail
  go_ret
  exact ⟨by simp, rfl⟩

set_option maxHeartbeats 1000000 in
theorem compare_any (x y : Int) (w : World) : Calls Tryz.prog 151 #[.int .i64 x, .int .i64 y] w fun e w' => e = .returned (.int .i64 (cmpI x y)) ∧ w = w' := by
  by_cases h1 : x < y
  · go_enter Tryz.func151, Tryz.ntmps151
    go_wp2_with fail
    refine (isNaN_any x w).mono ?_
    rintro e w' ⟨rfl, rfl⟩
    go_wp2_with fail
    refine (isNaN_any y w).mono ?_
    rintro e w' ⟨rfl, rfl⟩
    go_wp2_with fail
    go_ret
    exact ⟨by simp [cmpI, h1], rfl⟩
  · by_cases h2 : y < x
    · go_enter Tryz.func151, Tryz.ntmps151
      go_wp2_with fail
      refine (isNaN_any x w).mono ?_
      rintro e w' ⟨rfl, rfl⟩
      go_wp2_with fail
      refine (isNaN_any y w).mono ?_
      rintro e w' ⟨rfl, rfl⟩
      go_wp2_with fail
      go_ret
      exact ⟨by simp [cmpI, h1, h2], rfl⟩
    · go_enter Tryz.func151, Tryz.ntmps151
      go_wp2_with fail
      refine (isNaN_any x w).mono ?_
      rintro e w' ⟨rfl, rfl⟩
      go_wp2_with fail
      refine (isNaN_any y w).mono ?_
      rintro e w' ⟨rfl, rfl⟩
      go_wp2_with fail
      go_ret
      exact ⟨show Ending.returned (.int .i64 0) = _ by rw [cmpI, if_neg (by omega), if_neg (by omega)], rfl⟩

theorem cmpI_range (x y : Int) : -1 ≤ cmpI x y ∧ cmpI x y ≤ 1 := by
  unfold cmpI
  split
  · omega
  · split <;> omega

set_option maxHeartbeats 1000000 in
theorem or_any (x y : Int) (g c : Nat) (w : World) (h0 : w.cell? ⟨g, 0, none⟩ = some (.int .i64 x)) (h1 : w.cell? ⟨g, 1, none⟩ = some (.int .i64 y)) :
    Calls Tryz.prog 130 #[.slice (some ⟨g, 0, none⟩) 2 c] w fun e w' => e = .returned (.int .i64 (orI x y)) ∧ w = w' := by
  by_cases hx : x = 0
  · subst hx
    by_cases hy : y = 0
    · subst hy
      go_enter Tryz.func130, Tryz.ntmps130
      go_wp2_with fail
      go_loopw [8] (fun j wr => (∃ k : Nat, k ≤ 2 ∧ j = .int .i64 k) ∧ w = wr) (fun j _ => 2 - (intOf j).toNat)
      case atStart => exact ⟨⟨0, by omega, rfl⟩, rfl⟩
      case round =>
        obtain ⟨⟨k, hk, rfl⟩, rfl⟩ := hrel
        obtain rfl | rfl | rfl : k = 0 ∨ k = 1 ∨ k = 2 := by omega
        · go_wp2_with fail
          exact ⟨⟨⟨1, by omega, by go_num⟩, trivial⟩, by simp [intOf]⟩
        · go_wp2_with fail
          exact ⟨⟨⟨2, by omega, by go_num⟩, trivial⟩, by simp [intOf]⟩
        · go_wp2_with fail
          go_ret
          exact ⟨rfl, rfl⟩
    · have hy2 : (y != 0) = true := by simpa using hy
      go_enter Tryz.func130, Tryz.ntmps130
      go_wp2_with fail
      go_loopw [8] (fun j wr => (∃ k : Nat, k ≤ 1 ∧ j = .int .i64 k) ∧ w = wr) (fun j _ => 2 - (intOf j).toNat)
      case atStart => exact ⟨⟨0, by omega, rfl⟩, rfl⟩
      case round =>
        obtain ⟨⟨k, hk, rfl⟩, rfl⟩ := hrel
        obtain rfl | rfl : k = 0 ∨ k = 1 := by omega
        · go_wp2_with fail
          exact ⟨⟨⟨1, by omega, by go_num⟩, trivial⟩, by simp [intOf]⟩
        · go_wp2_with fail
          go_ret
          exact ⟨rfl, rfl⟩
  · have hx2 : (x != 0) = true := by simpa using hx
    go_enter Tryz.func130, Tryz.ntmps130
    go_wp2_with fail
    go_loopw [8] (fun j wr => j = .int .i64 (0 : Nat) ∧ w = wr) (fun j _ => 2 - (intOf j).toNat)
    case atStart => exact ⟨rfl, rfl⟩
    case round =>
      obtain ⟨rfl, rfl⟩ := hrel
      go_wp2_with fail
      go_ret
      exact ⟨show Ending.returned (.int .i64 x) = _ by rw [orI, if_neg hx], rfl⟩

def cmpTok (a b : Tok) : Int := orI (cmpI a.1 b.1) (cmpI a.2 b.2)

set_option maxHeartbeats 4000000 in
set_option maxRecDepth 100000 in
theorem compareTokens_any (a b : Tok) (w : World) : Calls Tryz.prog 123 #[tokV a, tokV b] w fun e w' => e = .returned (.int .i64 (cmpTok a b)) ∧ Below w.heap.size w w' ∧ LaysW w w' := by
  have hb0 : Below w.heap.size w ((w.alloc (.cells #[.int .i64 a.1, .int .i64 a.2] 108)).alloc (.cells #[.int .i64 b.1, .int .i64 b.2] 108)) := below2 w _ _
  have q1 : ((w.alloc (.cells #[.int .i64 a.1, .int .i64 a.2] 108)).alloc (.cells #[.int .i64 b.1, .int .i64 b.2] 108)).heap[w.heap.size]? = some (.cells #[.int .i64 a.1, .int .i64 a.2] 108 (0, 0)) := alloc_at (heap_alloc_new w _) _
  have q2 : ((w.alloc (.cells #[.int .i64 a.1, .int .i64 a.2] 108)).alloc (.cells #[.int .i64 b.1, .int .i64 b.2] 108)).heap[w.heap.size + 1]? = some (.cells #[.int .i64 b.1, .int .i64 b.2] 108 (0, 0)) := by
    have := heap_alloc_new (w.alloc (.cells #[.int .i64 a.1, .int .i64 a.2] 108)) (.cells #[.int .i64 b.1, .int .i64 b.2] 108)
    rw [World.size_alloc] at this
    exact this
  have HB0 := hide hb0
  have HL0 := hide (((LaysW.refl w).alloc (.cells #[.int .i64 a.1, .int .i64 a.2] 108)).alloc (.cells #[.int .i64 b.1, .int .i64 b.2] 108))
  have Q1 := hide q1
  have Q2 := hide q2
  clear hb0 q1 q2
  go_enter Tryz.func123, Tryz.ntmps123
  go_wp2_with fail
  generalize (w.alloc (.cells #[.int .i64 a.1, .int .i64 a.2] 108)).alloc (.cells #[.int .i64 b.1, .int .i64 b.2] 108) = w0 at *
  have z1 := lt_of_heap Q1.out
  have z2 := lt_of_heap Q2.out
  obtain ⟨e1, _⟩ := row_facts Q1.out
  obtain ⟨e2, _⟩ := row_facts Q2.out
  have d1 := e1 0
  have d2 := e1 1
  have d3 := e2 0
  have d4 := e2 1
  simp only [List.getElem?_toArray, List.getElem?_cons_succ, List.getElem?_cons_zero] at d1 d2 d3 d4
  clear e1 e2
  have hG := Grw.cell w0
  have hGn := Grw.some w0
  refine wp_region_flt [0, 1, 2, 3, 5, 6, 7, 8] [4, 9, 10, 11, 12] (fun w' => ∃ x : Grw w0, w' = x.w) (by kernel_rfl) (by kernel_rfl) (fun _ _ d _ _ h => by cases d <;> exact h) ⟨⟨w0.drew, (Below.refl _ _).drew⟩, rfl⟩ ?_
  simp only [pickOps, List.getElem?_cons_zero, List.getElem?_cons_succ]
  repeat (go_big_quiet_step (fail))
  refine wpQuiet_nil ?_
  refine ⟨_, rfl, ?_⟩
  go_wp2_with fail
  refine (compare_any a.1 b.1 w0.drew).mono ?_
  rintro e w1 ⟨rfl, rfl⟩
  go_wp2_with fail
  refine ⟨fun _ => ⟨⟨w0.drew, (Below.refl _ _).drew⟩, rfl⟩, _, rfl, ?_⟩
  go_wp2_with fail
  refine (compare_any a.2 b.2 w0.drew).mono ?_
  rintro e w1 ⟨rfl, rfl⟩
  go_wp2_with fail
  refine ⟨fun _ => ⟨⟨w0.drew, (Below.refl _ _).drew⟩, rfl⟩, _, rfl, ?_⟩
  go_wp2_with fail
  have ba : Below w0.heap.size w0 (w0.alloc (.cells #[.int .i64 (cmpI a.1 b.1), .int .i64 (cmpI a.2 b.2)] 3)).drew := ((Below.refl _ _).alloc (Nat.le_refl _) _).drew
  have q3 : (w0.alloc (.cells #[.int .i64 (cmpI a.1 b.1), .int .i64 (cmpI a.2 b.2)] 3)).drew.heap[w0.heap.size]? = _ := heap_alloc_new w0 _
  refine ⟨fun _ => ⟨⟨_, ba⟩, rfl⟩, _, rfl, ?_⟩
  go_wp2_with fail
  have f0 := (row_facts q3).1 0
  have f1 := (row_facts q3).1 1
  simp only [List.getElem?_toArray, List.getElem?_cons_succ, List.getElem?_cons_zero] at f0 f1
  refine (or_any (cmpI a.1 b.1) (cmpI a.2 b.2) w0.heap.size 2 _ f0 f1).mono ?_
  rintro e w1 ⟨rfl, rfl⟩
  go_wp2_with fail
  refine ⟨fun _ => ⟨⟨_, ba⟩, rfl⟩, _, rfl, ?_⟩
  go_wp2_with fail
  refine ⟨fun h => absurd rfl h, ?_⟩
  unfold wpFin
  go_wp2_with fail
  go_ret
  exact ⟨rfl, HB0.out.trans (ba.mono HB0.out.size), (HL0.out.alloc _).drew⟩
end Go.Proofs.YtnniimfinakioaaGreatDoor
namespace Go.Proofs.YtnniimfinakioaaGreatDoor
open Go.RowKit
attribute [local go_sem] toList_nm app_nm size_nm

set_option maxHeartbeats 1000000 in
/-- The program's own isName. -/
theorem pIsName_any (s : Nm) (w : World) (hs : s.length ≤ 2000000) :
    Calls Tryz.prog 54 #[strV s] w fun e w' => e = .returned (.bool (nameB s)) ∧ w = w' := by
  by_cases h1 : (s.length : Int) < 1
  · go_enter Tryz.func54, Tryz.ntmps54
    go_wp2
    go_ret
    refine ⟨ret_bool ?_, rfl⟩
    have : ¬ 1 ≤ s.length := by omega
    simp [nameB, this]
  · have h1' : decide ((s.length : Int) < 1) = false := by simpa using h1
    by_cases h8 : (8 : Int) < (s.length : Int)
    · go_enter Tryz.func54, Tryz.ntmps54
      go_wp2
      go_ret
      refine ⟨ret_bool ?_, rfl⟩
      have : ¬ s.length ≤ 8 := by omega
      simp [nameB, this]
    · have h8' : decide ((8 : Int) < (s.length : Int)) = false := by simpa using h8
      go_enter Tryz.func54, Tryz.ntmps54
      go_wp2
      go_loop [14] (fun i => ∃ k : Nat, k ≤ s.length ∧ i = .int .i64 k ∧ (s.take k).all lowB = true) (fun i => s.length - (intOf i).toNat)
      case atStart => exact ⟨0, Nat.zero_le _, rfl, by simp⟩
      case round =>
        obtain ⟨k, hk, rfl, ha⟩ := hrel
        have HA := hide ha
        clear ha
        by_cases hlt : k < s.length
        · obtain ⟨x, hx⟩ := get_some hlt
          have hx' : s[k] = x := by rw [List.getElem?_eq_getElem hlt] at hx; simpa using hx
          have Hx := hide hx
          have hx3 : ∀ h, (ByteArray.mk s.toArray)[k]'h = x := fun _ => hx'
          clear hx
          have hT : (s.take (k + 1)).all lowB = lowB x := by rw [take_snoc' Hx.out, List.all_append, HA.out]; simp
          have HT := hide hT
          clear hT
          have hN : lowB x = false → nameB s = false := fun h => by
            have : s.all lowB = false := by
              rw [List.all_eq_false]
              exact ⟨x, List.mem_of_getElem? Hx.out, by simp [h]⟩
            simp [nameB, this]
          have HN := hide hN
          clear hN
          by_cases g1 : (x.toNat : Int) < 97
          · go_wp2
            go_ret
            exact ⟨ret_bool (HN.out (by simp [lowB]; omega)).symm, rfl⟩
          · have g1' : decide ((x.toNat : Int) < 97) = false := by simpa using g1
            by_cases g2 : (122 : Int) < x.toNat
            · go_wp2
              go_ret
              exact ⟨ret_bool (HN.out (by simp [lowB]; omega)).symm, rfl⟩
            · have g2' : decide ((122 : Int) < (x.toNat : Int)) = false := by simpa using g2
              have hlow : lowB x = true := by simp [lowB]; omega
              have HL := hide hlow
              clear hlow
              go_wp2
              refine ⟨⟨k + 1, by omega, by go_num, by rw [HT.out, HL.out]⟩, by simp [intOf]; omega⟩
        · have hkl : k = s.length := by omega
          subst hkl
          have hA : s.all lowB = true := by have := HA.out; rw [List.take_of_length_le (Nat.le_refl _)] at this; exact this
          have HB := hide hA
          clear hA
          go_wp2
          go_ret
          refine ⟨ret_bool ?_, rfl⟩
          have a1 : 1 ≤ s.length := by omega
          have a2 : s.length ≤ 8 := by omega
          simp [nameB, HB.out, a1, a2]
end Go.Proofs.YtnniimfinakioaaGreatDoor
namespace Go.Proofs.YtnniimfinakioaaGreatDoor
open Go.Shelf Go.RowKit
attribute [local go_sem] toList_nm app_nm size_nm


theorem sCompare_any (s t : Nm) (w : World) : Calls Tryz.prog 131 #[strV s, strV t] w fun e w' => e = .returned (.int .i64 (Lib.compareBytes s t)) ∧ w' = w := by
  have h := Any.strings_Compare Tryz.laysCompare ⟨s.toArray⟩ ⟨t.toArray⟩ w
  exact h

def cmpEnt (a b : Ent) : Int := orI (Lib.compareBytes a.1 b.1) (cmpTok a.2 b.2)

set_option maxHeartbeats 4000000 in
set_option maxRecDepth 100000 in
theorem compareEntries_any (a b : Ent) (w : World) : Calls Tryz.prog 96 #[entV a, entV b] w fun e w' => e = .returned (.int .i64 (cmpEnt a b)) ∧ Below w.heap.size w w' ∧ LaysW w w' := by
  have hb0 : Below w.heap.size w ((w.alloc (.cells #[strV a.1, .int .i64 a.2.1, .int .i64 a.2.2] 110)).alloc (.cells #[strV b.1, .int .i64 b.2.1, .int .i64 b.2.2] 110)) := below2 w _ _
  have q1 : ((w.alloc (.cells #[strV a.1, .int .i64 a.2.1, .int .i64 a.2.2] 110)).alloc (.cells #[strV b.1, .int .i64 b.2.1, .int .i64 b.2.2] 110)).heap[w.heap.size]? = some (.cells #[strV a.1, .int .i64 a.2.1, .int .i64 a.2.2] 110 (0, 0)) := alloc_at (heap_alloc_new w _) _
  have q2 : ((w.alloc (.cells #[strV a.1, .int .i64 a.2.1, .int .i64 a.2.2] 110)).alloc (.cells #[strV b.1, .int .i64 b.2.1, .int .i64 b.2.2] 110)).heap[w.heap.size + 1]? = some (.cells #[strV b.1, .int .i64 b.2.1, .int .i64 b.2.2] 110 (0, 0)) := by
    have := heap_alloc_new (w.alloc (.cells #[strV a.1, .int .i64 a.2.1, .int .i64 a.2.2] 110)) (.cells #[strV b.1, .int .i64 b.2.1, .int .i64 b.2.2] 110)
    rw [World.size_alloc] at this
    exact this
  have HB0 := hide hb0
  have HL0 := hide (((LaysW.refl w).alloc (.cells #[strV a.1, .int .i64 a.2.1, .int .i64 a.2.2] 110)).alloc (.cells #[strV b.1, .int .i64 b.2.1, .int .i64 b.2.2] 110))
  have Q1 := hide q1
  have Q2 := hide q2
  clear hb0 q1 q2
  go_enter Tryz.func96, Tryz.ntmps96
  go_wp2_with fail
  generalize (w.alloc (.cells #[strV a.1, .int .i64 a.2.1, .int .i64 a.2.2] 110)).alloc (.cells #[strV b.1, .int .i64 b.2.1, .int .i64 b.2.2] 110) = w0 at *
  have z1 := lt_of_heap Q1.out
  have z2 := lt_of_heap Q2.out
  obtain ⟨e1, _⟩ := row_facts Q1.out
  obtain ⟨e2, _⟩ := row_facts Q2.out
  have d1 := e1 0
  have d2 := e1 1
  have d3 := e1 2
  have d4 := e2 0
  have d5 := e2 1
  have d6 := e2 2
  simp only [List.getElem?_toArray, List.getElem?_cons_succ, List.getElem?_cons_zero] at d1 d2 d3 d4 d5 d6
  clear e1 e2
  have hG := Grw.cell w0
  have hGn := Grw.some w0
  refine wp_region_flt [0, 1, 2, 3, 5, 6, 7, 8] [4, 9, 10, 11, 12] (fun w' => ∃ x : Grw w0, w' = x.w) (by kernel_rfl) (by kernel_rfl) (fun _ _ d _ _ h => by cases d <;> exact h) ⟨⟨w0.drew, (Below.refl _ _).drew⟩, rfl⟩ ?_
  simp only [pickOps, List.getElem?_cons_zero, List.getElem?_cons_succ]
  repeat (go_big_quiet_step (fail))
  refine wpQuiet_nil ?_
  refine ⟨_, rfl, ?_⟩
  go_wp2_with fail
  refine (sCompare_any a.1 b.1 w0.drew).mono ?_
  rintro e w1 ⟨rfl, rfl⟩
  go_wp2_with fail
  refine ⟨fun _ => ⟨⟨w0.drew, (Below.refl _ _).drew⟩, rfl⟩, _, rfl, ?_⟩
  go_wp2_with fail
  refine (compareTokens_any a.2 b.2 w0.drew).mono ?_
  rintro e w1 ⟨rfl, hb1, hl1⟩
  have HL1 := hide (HL0.out.drew.trans hl1)
  clear hl1
  have bb : Below w0.heap.size w0 w1 := ⟨hb1.os, hb1.tape, hb1.output, hb1.size, hb1.block⟩
  go_wp2_with fail
  refine ⟨fun _ => ⟨⟨w1, bb⟩, rfl⟩, _, rfl, ?_⟩
  go_wp2_with fail
  have ba : Below w0.heap.size w0 (w1.alloc (.cells #[.int .i64 (Lib.compareBytes a.1 b.1), .int .i64 (cmpTok a.2 b.2)] 3)) := bb.alloc bb.size _
  have q3 : (w1.alloc (.cells #[.int .i64 (Lib.compareBytes a.1 b.1), .int .i64 (cmpTok a.2 b.2)] 3)).heap[w1.heap.size]? = _ := heap_alloc_new w1 _
  refine ⟨fun _ => ⟨⟨_, ba⟩, rfl⟩, _, rfl, ?_⟩
  go_wp2_with fail
  have f0 := (row_facts q3).1 0
  have f1 := (row_facts q3).1 1
  simp only [List.getElem?_toArray, List.getElem?_cons_succ, List.getElem?_cons_zero] at f0 f1
  refine (or_any (Lib.compareBytes a.1 b.1) (cmpTok a.2 b.2) w1.heap.size 2 _ f0 f1).mono ?_
  rintro e w2 ⟨rfl, rfl⟩
  go_wp2_with fail
  refine ⟨fun _ => ⟨⟨_, ba⟩, rfl⟩, _, rfl, ?_⟩
  go_wp2_with fail
  refine ⟨fun h => absurd rfl h, ?_⟩
  unfold wpFin
  go_wp2_with fail
  go_ret
  exact ⟨rfl, HB0.out.trans (ba.mono HB0.out.size), HL1.out.alloc _⟩
end Go.Proofs.YtnniimfinakioaaGreatDoor
namespace Go.Proofs.YtnniimfinakioaaGreatDoor
open Go.Shelf Go.RowKit Go.Sort

/-- Less, by a comparison. -/
def negB {α : Type} (cf : α → α → Int) (x y : α) : Bool := decide (cf x y < 0)

theorem cb_eq : ∀ s t : Nm, (Lib.compareBytes s t = 0 ↔ s = t) ∧ (Lib.compareBytes s t < 0 ↔ Op.bytesLess s t = true)
  | [], [] => by simp [Lib.compareBytes, Op.bytesLess]
  | [], _ :: _ => by simp [Lib.compareBytes, Op.bytesLess]
  | _ :: _, [] => by simp [Lib.compareBytes, Op.bytesLess]
  | a :: l, b :: r => by
    have ih := cb_eq l r
    unfold Lib.compareBytes
    rw [bytesLess_eq]
    simp only [decide_eq_true_eq, List.cons_lt_cons_iff, List.cons.injEq]
    rw [bytesLess_eq, decide_eq_true_eq] at ih
    split
    · rename_i h
      have : a ≠ b := fun e => by subst e; exact UInt8.lt_irrefl _ h
      simp [this, h]
    · split
      · rename_i h1 h2
        have : a ≠ b := fun e => by subst e; exact UInt8.lt_irrefl _ h2
        simp [this, h1]
      · rename_i h1 h2
        have : a = b := UInt8.le_antisymm (UInt8.not_lt.1 h2) (UInt8.not_lt.1 h1)
        subst this
        simp [ih]

theorem cmpI_lt {x y : Int} (h : x < y) : cmpI x y = -1 := by rw [cmpI, if_pos h]
theorem cmpI_gt {x y : Int} (h : y < x) : cmpI x y = 1 := by rw [cmpI, if_neg (by omega), if_pos h]
theorem cmpI_eq (x : Int) : cmpI x x = 0 := by rw [cmpI, if_neg (by omega), if_neg (by omega)]
theorem cmpTok_lt (a b : Tok) : negB cmpTok a b = beforeB a b := by
  obtain ⟨a1, a2⟩ := a
  obtain ⟨b1, b2⟩ := b
  unfold negB cmpTok orI beforeB
  rcases Int.lt_trichotomy a1 b1 with h | h | h
  · simp [cmpI_lt h, h]
  · subst h
    rcases Int.lt_trichotomy a2 b2 with h | h | h
    · simp [cmpI_eq, cmpI_lt h, h]
    · subst h; simp [cmpI_eq]
    · simp [cmpI_eq, cmpI_gt h]; omega
  · simp [cmpI_gt h]; omega
theorem cmpEnt_lt (a b : Ent) : negB cmpEnt a b = aheadB a b := by
  have h1 := cb_eq a.1 b.1
  unfold aheadB
  by_cases h : a.1 = b.1
  · rw [if_pos h, ← cmpTok_lt]
    simp only [negB, cmpEnt, orI, if_pos (h1.1.2 h)]
  · rw [if_neg h]
    have h0 : ¬ Lib.compareBytes a.1 b.1 = 0 := fun e => h (h1.1.1 e)
    simp only [negB, cmpEnt, orI, if_neg h0]
    rw [Bool.eq_iff_iff, decide_eq_true_eq]
    exact h1.2

theorem swo_of {α : Type} {lt : α → α → Bool} (O : Ordr lt) : SWO lt where
  irrefl := O.irr
  trans := O.tr
  ntrans x y z h1 h2 := by
    cases h : lt x z with
    | false => rfl
    | true =>
      by_cases hxy : x = y
      · subst hxy; rw [h] at h2; cases h2
      · rcases O.tot x y hxy with h3 | h3
        · rw [h3] at h1; cases h1
        · rw [O.tr _ _ _ h3 h] at h2; cases h2
theorem swo_tok : SWO (negB cmpTok) := by
  have : negB cmpTok = beforeB := funext fun a => funext fun b => cmpTok_lt a b
  rw [this]; exact swo_of ord_before
theorem swo_ent : SWO (negB cmpEnt) := by
  have : negB cmpEnt = aheadB := funext fun a => funext fun b => cmpEnt_lt a b
  rw [this]; exact swo_of ord_ahead
end Go.Proofs.YtnniimfinakioaaGreatDoor
namespace Go.Proofs.YtnniimfinakioaaGreatDoor
open Go.Shelf Go.RowKit Go.Lib Go.Sort

def encE (e : Ent) : List Value := [strV e.1, .int .i64 e.2.1, .int .i64 e.2.2]
def encT (t : Tok) : List Value := [.int .i64 t.1, .int .i64 t.2]

theorem sortEnt_any (blk off cap : Nat) (d : Array Ent) (w : World) (hH : HoldsK encE 3 w blk off d) (hblk : blk < w.heap.size) (hsz : d.size < 4611686018427387904) :
    Calls Tryz.prog 128 #[.slice (some ⟨blk, off, none⟩) d.size cap, .func (.func 96) #[] #[]] w fun e w' =>
      e = .returned (.tuple #[]) ∧ ∃ d' n os, PermIn 0 d.size d d' ∧ SortedIn (ltOf cmpEnt) 0 d.size d' ∧ w' = sortWorldK encE 3 w blk off n d' os := by
  have eg : ∀ args w, (callFunc 96 args).run Tryz.prog w = .ok (.enter 96 args) w := enters_of Tryz.func96 (by kernel_rfl) rfl
  have hc : CmpLays Tryz.prog 96 #[] encE 3 cmpEnt blk off d.size w := fun m os dk _ x y => (compareEntries_any x y _).mono fun e w' ⟨he, _, q, os', hw⟩ => ⟨he, q, os', hw⟩
  exact AnyQ.slices_SortFunc Tryz.sortEnt 3 Tryz.isAgg110 Tryz.sizeOf110 encE (fun _ => rfl) (fun x v hv => by simp [encE] at hv; rcases hv with rfl | rfl | rfl <;> rfl) cmpEnt swo_ent _ #[] blk off cap d w eg hc hH hblk hsz
theorem sortTok_any (blk off cap : Nat) (d : Array Tok) (w : World) (hH : HoldsK encT 2 w blk off d) (hblk : blk < w.heap.size) (hsz : d.size < 4611686018427387904) :
    Calls Tryz.prog 149 #[.slice (some ⟨blk, off, none⟩) d.size cap, .func (.func 123) #[] #[]] w fun e w' =>
      e = .returned (.tuple #[]) ∧ ∃ d' n os, PermIn 0 d.size d d' ∧ SortedIn (ltOf cmpTok) 0 d.size d' ∧ w' = sortWorldK encT 2 w blk off n d' os := by
  have eg : ∀ args w, (callFunc 123 args).run Tryz.prog w = .ok (.enter 123 args) w := enters_of Tryz.func123 (by kernel_rfl) rfl
  have hc : CmpLays Tryz.prog 123 #[] encT 2 cmpTok blk off d.size w := fun m os dk _ x y => (compareTokens_any x y _).mono fun e w' ⟨he, _, q, os', hw⟩ => ⟨he, q, os', hw⟩
  exact AnyQ.slices_SortFunc Tryz.sortTok 2 Tryz.isAgg108 Tryz.sizeOf108 encT (fun _ => rfl) (fun x v hv => by simp [encT] at hv; rcases hv with rfl | rfl <;> rfl) cmpTok swo_tok _ #[] blk off cap d w eg hc hH hblk hsz
end Go.Proofs.YtnniimfinakioaaGreatDoor
