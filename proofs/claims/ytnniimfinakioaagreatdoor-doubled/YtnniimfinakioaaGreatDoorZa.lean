import Derived.Test.YtnniimfinakioaaGreatDoorYm
import Derived.Test.YtnniimfinakioaaGreatDoorXp
import Derived.Test.YtnniimfinakioaaGreatDoorXe
namespace Go.Proofs.YtnniimfinakioaaGreatDoor
open Go.RowKit
attribute [local go_sem] toList_nm app_nm size_nm

/-- A world of the program's, made since w. -/
def NewW (w wr : World) (p : Nat) (W : Wd) : Prop := ∃ S, ProgW wr S p W ∧ (∀ b, S b → w.heap.size ≤ b) ∧ Below w.heap.size w wr
theorem NewW.moved {w w1 w2 : World} {S : Nat → Prop} {p : Nat} {W' : Wd} (hS : ∀ b, S b → w.heap.size ≤ b) (hB : Below w.heap.size w w1) (hP : ProgW w2 (Ext S w1 w2) p W') (hK : Kp w1.heap.size S w1 w2) : NewW w w2 p W' := by
  have hs := hB.size
  refine ⟨_, hP, fun b hb => ?_, ⟨hK.os.trans hB.os, hK.tape.trans hB.tape, hK.output.trans hB.output, Nat.le_trans hs hK.size, fun b hb => (hK.block b (by omega) (fun h => by have := hS b h; omega)).trans (hB.block b hb)⟩⟩
  rcases hb with x | x
  · exact hS b x
  · omega
theorem ProgW.below {w w' : World} {S : Nat → Prop} {p : Nat} {W : Wd} (h : ProgW w S p W) (k : Below w.heap.size w w') : ProgW w' S p W := h.kp (Kp.ofBelow k) (Off.none h.lt)
theorem NewW.grew {w w1 w2 : World} {p : Nat} {W : Wd} (h : NewW w w1 p W) (k : Below w1.heap.size w1 w2) : NewW w w2 p W := by
  obtain ⟨S, hP, hS, hB⟩ := h
  exact ⟨S, hP.below k, hS, hB.trans (k.mono hB.size)⟩
theorem NewW.bel {w w1 : World} {p : Nat} {W : Wd} (h : NewW w w1 p W) : Below w.heap.size w w1 := h.elim fun _ h => h.2.2

section
variable (w w1 : World) (p : Nat) (W : Wd) (h : NewW w w1 p W) (ok : WG W)
include h ok
theorem nAdd (i : Int) (s : Nm) (hs : s.length ≤ 2000000) : Calls Tryz.prog 27 #[ptr p, .int .i64 i, strV s] w1 fun e w2 => e = .returned (err (addM W i s).1) ∧ NewW w w2 p (addM W i s).2 := by
  obtain ⟨S, hP, hS, hB⟩ := h
  exact (pAdd w1 S p W i s hP ok hs).mono fun e w2 ⟨h1, h2, h3⟩ => ⟨h1, NewW.moved hS hB h2 h3⟩
theorem nRemove (i : Int) (s : Nm) (hs : s.length ≤ 2000000) : Calls Tryz.prog 31 #[ptr p, .int .i64 i, strV s] w1 fun e w2 => e = .returned (err (removeM W i s).1) ∧ NewW w w2 p (removeM W i s).2 := by
  obtain ⟨S, hP, hS, hB⟩ := h
  exact (pRemove w1 S p W i s hP ok hs).mono fun e w2 ⟨h1, h2, h3⟩ => ⟨h1, NewW.moved hS hB h2 h3⟩
theorem nClear (i : Int) : Calls Tryz.prog 35 #[ptr p, .int .i64 i] w1 fun e w2 => e = .returned (err (clearM W i).1) ∧ NewW w w2 p (clearM W i).2 := by
  obtain ⟨S, hP, hS, hB⟩ := h
  exact (pClear w1 S p W i hP ok).mono fun e w2 ⟨h1, h2, h3⟩ => ⟨h1, NewW.moved hS hB h2 h3⟩
theorem nSend (i j : Int) : Calls Tryz.prog 34 #[ptr p, .int .i64 i, .int .i64 j] w1 fun e w2 => e = .returned (err (sendM W i j).1) ∧ NewW w w2 p (sendM W i j).2 := by
  obtain ⟨S, hP, hS, hB⟩ := h
  exact (pSend w1 S p W i j hP ok).mono fun e w2 ⟨h1, h2, h3⟩ => ⟨h1, NewW.moved hS hB h2 h3⟩
theorem nDeliver (i : Int) : Calls Tryz.prog 19 #[ptr p, .int .i64 i] w1 fun e w2 => e = .returned (err (deliverM W i).1) ∧ NewW w w2 p (deliverM W i).2 := by
  obtain ⟨S, hP, hS, hB⟩ := h
  exact (pDeliver w1 S p W i hP ok).mono fun e w2 ⟨h1, h2, h3⟩ => ⟨h1, NewW.moved hS hB h2 h3⟩
theorem nDrop (i : Int) : Calls Tryz.prog 26 #[ptr p, .int .i64 i] w1 fun e w2 => e = .returned (err (dropM W i).1) ∧ NewW w w2 p (dropM W i).2 := by
  obtain ⟨S, hP, hS, hB⟩ := h
  exact (pDrop w1 S p W i hP ok).mono fun e w2 ⟨h1, h2, h3⟩ => ⟨h1, NewW.moved hS hB h2 h3⟩
theorem nDouble (i : Int) : Calls Tryz.prog 38 #[ptr p, .int .i64 i] w1 fun e w2 => e = .returned (err (doubleM W i).1) ∧ NewW w w2 p (doubleM W i).2 := by
  obtain ⟨S, hP, hS, hB⟩ := h
  exact (pDouble w1 S p W i hP ok).mono fun e w2 ⟨h1, h2, h3⟩ => ⟨h1, NewW.moved hS hB h2 h3⟩
theorem nCollect (i : Int) : Calls Tryz.prog 32 #[ptr p, .int .i64 i] w1 fun e w2 => e = .returned (err (collectM W i).1) ∧ NewW w w2 p (collectM W i).2 := by
  obtain ⟨S, hP, hS, hB⟩ := h
  exact (pCollect w1 S p W i hP ok).mono fun e w2 ⟨h1, h2, h3⟩ => ⟨h1, NewW.moved hS hB h2 h3⟩
theorem nCrash (i : Int) : Calls Tryz.prog 43 #[ptr p, .int .i64 i] w1 fun e w2 => e = .returned (err (crashM W i).1) ∧ NewW w w2 p (crashM W i).2 := by
  obtain ⟨S, hP, hS, hB⟩ := h
  exact (pCrash w1 S p W i hP ok).mono fun e w2 ⟨h1, h2, h3⟩ => ⟨h1, NewW.moved hS hB h2 h3⟩
theorem nText (i : Int) : Calls Tryz.prog 17 #[ptr p, .int .i64 i] w1 fun e w2 => e = .returned (.tuple #[strV (textM W i).2, err (textM W i).1]) ∧ NewW w w2 p W := by
  have h' := h
  obtain ⟨S, hP, hS, hB⟩ := h
  exact (pText w1 S p W i hP ok).mono fun e w2 ⟨h1, h2⟩ => ⟨h1, h'.grew h2⟩
theorem nItems (i : Int) : Calls Tryz.prog 30 #[ptr p, .int .i64 i] w1 fun e w2 => ∃ v, e = .returned (.tuple #[v, err (itemsM W i).1]) ∧ StrR w2 v (itemsM W i).2 ∧ NewW w w2 p W := by
  have h' := h
  obtain ⟨S, hP, hS, hB⟩ := h
  exact (pItems w1 S p W i hP ok).mono fun e w2 ⟨v, h1, h2, _, h4⟩ => ⟨v, h1, h2, h'.grew h4⟩
theorem nFlying : Calls Tryz.prog 18 #[ptr p] w1 fun e w2 => ∃ v, e = .returned v ∧ TmR w2 v (flyingM W) ∧ NewW w w2 p W := by
  have h' := h
  obtain ⟨S, hP, hS, hB⟩ := h
  exact (pFlying w1 S p W hP ok).mono fun e w2 ⟨v, h1, h2, _, h4⟩ => ⟨v, h1, h2, h'.grew h4⟩
end
theorem nNew (n : Nat) (w w0 : World) (hB : Below w.heap.size w w0) (h1 : 1 ≤ n) (h5 : n ≤ 5) : Calls Tryz.prog 42 #[.int .i64 n] w0 fun e w' => ∃ q, e = .returned (.tuple #[ptr q, err 0]) ∧ NewW w w' q (zW n) :=
  (pNew_ok n w0 h1 h5).mono fun e w' ⟨q, h1, h2, h3⟩ => ⟨q, h1, _, h2, fun b hb => by
    have := hB.size
    rcases hb with x | x
    · exact x.elim
    · omega, hB.trans (h3.mono hB.size)⟩

set_option maxHeartbeats 400000 in
theorem kPick_any (c : Int) (n : Nat) (w : World) (hn : 0 < n) (hn2 : n ≤ 1000000000) (h1 : -9223372036854775808 ≤ c) (h2 : c ≤ 9223372036854775807) : Calls Tryz.prog 25 #[.int .i64 c, .int .i64 n] w fun e w' => e = .returned (.int .i64 (pickN c n)) ∧ w = w' := by
  by_cases hc : c < 0
  · go_enter Tryz.func25, Tryz.ntmps25
    go_wp2_with fail
    go_ret
    refine ⟨?_, rfl⟩
    obtain ⟨m, hm⟩ := Int.eq_ofNat_of_zero_le (a := -(c + 1)) (by omega)
    have e1 : c + 1 = -(m : Int) := by omega
    have e2 : pickN c n = m % n := by rw [pickN, if_pos hc, hm]; rfl
    rw [e2]
    show Ending.returned (.int .i64 (-(c + 1).tmod (n : Int))) = _
    rw [e1, Int.neg_tmod, Int.neg_neg, Int.ofNat_tmod]
  · go_enter Tryz.func25, Tryz.ntmps25
    go_wp2_with fail
    go_ret
    refine ⟨?_, rfl⟩
    obtain ⟨m, rfl⟩ := Int.eq_ofNat_of_zero_le (a := c) (by omega)
    have e2 : pickN (m : Int) n = m % n := by rw [pickN, if_neg (by omega)]; rfl
    rw [e2]
    rfl
theorem pickN_lt (c : Int) (n : Nat) (h : 0 < n) : pickN c n < n := Nat.mod_lt _ h

def nmOf (k : Nat) : Nm := match k with
  | 0 => [97]
  | 1 => [98]
  | 2 => [99]
  | 3 => [100]
  | _ => [101]
theorem nmOf_name (k : Nat) : nameB (nmOf k) = true := by
  match k with
  | 0 => rfl
  | 1 => rfl
  | 2 => rfl
  | 3 => rfl
  | _ + 4 => rfl
theorem nmOf_len (k : Nat) : (nmOf k).length = 1 := by
  match k with
  | 0 => rfl
  | 1 => rfl
  | 2 => rfl
  | 3 => rfl
  | _ + 4 => rfl
set_option maxHeartbeats 1000000 in
theorem kName_any (c : Int) (w : World) (h1 : -9223372036854775808 ≤ c) (h2 : c ≤ 9223372036854775807) : Calls Tryz.prog 28 #[.int .i64 c] w fun e w' => e = .returned (strV (nmOf (pickN c 5))) ∧ w = w' := by
  have hP := kPick_any c 5 w (by decide) (by decide) h1 h2
  have hlt := pickN_lt c 5 (by decide)
  generalize pickN c 5 = k at *
  go_enter Tryz.func28, Tryz.ntmps28
  go_wp2_with fail
  refine hP.mono ?_
  rintro e w' ⟨rfl, rfl⟩
  clear hP
  rcases k with _ | _ | _ | _ | _ | k
  · go_wp2_with fail
    go_ret
    exact ⟨rfl, rfl⟩
  · go_wp2_with fail
    go_ret
    exact ⟨rfl, rfl⟩
  · go_wp2_with fail
    go_ret
    exact ⟨rfl, rfl⟩
  · go_wp2_with fail
    go_ret
    exact ⟨rfl, rfl⟩
  · go_wp2_with fail
    go_ret
    exact ⟨rfl, rfl⟩
  · omega

set_option maxHeartbeats 400000 in
theorem kFresh_any (w w0 : World) (hB : Below w.heap.size w w0) : Calls Tryz.prog 20 #[] w0 fun e w' => ∃ q, e = .returned (ptr q) ∧ NewW w w' q (zW 3) := by
  have hN := nNew 3 w w0 hB (by decide) (by decide)
  go_enter Tryz.func20, Tryz.ntmps20
  go_wp2_with fail
  refine hN.mono ?_
  rintro e w' ⟨q, rfl, hW⟩
  clear hN
  go_wp2_with fail
  go_ret
  exact ⟨q, rfl, hW⟩
end Go.Proofs.YtnniimfinakioaaGreatDoor
namespace Go.Proofs.YtnniimfinakioaaGreatDoor
open Go.RowKit
attribute [local go_sem] toList_nm app_nm size_nm

def tea : Nm := [116, 101, 97]
def rum : Nm := [114, 117, 109]
def teaT : Nm := [116, 101, 97, 58, 48, 46, 49, 32, 124, 32, 48, 46, 49]
def bW1 : Wd := (addM (zW 2) 0 tea).2
def bW2 : Wd := (addM bW1 1 rum).2
theorem b1 : (addM (zW 2) 0 tea).1 = 0 := by rfl
theorem b2 : (addM bW1 1 rum).1 = 0 := by rfl
theorem b3 : textM bW2 0 = (0, teaT) := by rfl
theorem b4 : itemsM bW2 1 = (0, [rum]) := by rfl
def tW2 : Wd := (sendM bW1 0 1).2
def tW3 : Wd := (deliverM tW2 0).2
theorem t1 : (sendM bW1 0 1).1 = 0 := by rfl
theorem t2 : (deliverM tW2 0).1 = 0 := by rfl
theorem t3 : textM tW3 1 = (0, teaT) := by rfl
theorem t4 : flyingM tW3 = [⟨2, 1, 0, 1, []⟩] := by rfl
theorem ok0 : WG (zW 2) := WG.zero (by decide) (by decide)
theorem okb1 : WG bW1 := ok0.add 0 tea
theorem okb2 : WG bW2 := okb1.add 1 rum
theorem okt2 : WG tW2 := okb1.send 0 1
theorem okt3 : WG tW3 := okt2.deliver 0

set_option maxHeartbeats 1000000 in
set_option maxRecDepth 100000 in
theorem kBegun_any (w w0 : World) (hB : Below w.heap.size w w0) : Calls Tryz.prog 70 #[] w0 fun e w' => e = .returned (.bool true) ∧ Below w.heap.size w w' := by
  have hN := nNew 2 w w0 hB (by decide) (by decide)
  go_enter Tryz.func70, Tryz.ntmps70
  go_wp2_with fail
  refine hN.mono ?_
  rintro e w1 ⟨q, rfl, hW⟩
  have hA := nAdd w w1 q _ hW ok0 0 tea (by decide)
  rw [b1] at hA
  clear hN
  go_wp2_with fail
  refine hA.mono ?_
  rintro e w2 ⟨rfl, hW2⟩
  have hW : NewW w w2 q bW1 := hW2
  have hA := nAdd w w2 q _ hW okb1 1 rum (by decide)
  rw [b2] at hA
  go_wp2_with fail
  refine hA.mono ?_
  rintro e w3 ⟨rfl, hW3⟩
  have hW : NewW w w3 q bW2 := hW3
  have hA := nText w w3 q _ hW okb2 0
  rw [b3] at hA
  go_wp2_with fail
  refine hA.mono ?_
  rintro e w4 ⟨rfl, hW⟩
  have hA := nItems w w4 q _ hW okb2 1
  rw [b4] at hA
  go_wp2_with fail
  refine hA.mono ?_
  rintro e w5 ⟨v, rfl, hv, hW⟩
  obtain ⟨o, c, hvf, _, _⟩ := own_form hv
  rw [hvf] at hv
  obtain ⟨g, rfl, hg, d1, _⟩ := own1_at (k := 0) (u := strV rum) hv rfl
  subst hvf
  clear hA hv
  go_wp2_with fail
  go_ret
  exact ⟨rfl, hW.bel⟩

set_option maxHeartbeats 1000000 in
set_option maxRecDepth 100000 in
theorem kTold_any (w : World) : Calls Tryz.prog 37 #[] w fun e w' => e = .returned (.bool true) ∧ Below w.heap.size w w' := by
  have hBg := kBegun_any w w (Below.refl _ _)
  go_enter Tryz.func37, Tryz.ntmps37
  go_wp2_with fail
  refine hBg.mono ?_
  rintro e w0 ⟨rfl, hB⟩
  have hN := nNew 2 w w0 hB (by decide) (by decide)
  clear hBg
  go_wp2_with fail
  refine hN.mono ?_
  rintro e w1 ⟨q, rfl, hW⟩
  have hA := nAdd w w1 q _ hW ok0 0 tea (by decide)
  rw [b1] at hA
  clear hN
  go_wp2_with fail
  refine hA.mono ?_
  rintro e w2 ⟨rfl, hW2⟩
  have hW : NewW w w2 q bW1 := hW2
  have hA := nSend w w2 q _ hW okb1 0 1
  rw [t1] at hA
  go_wp2_with fail
  refine hA.mono ?_
  rintro e w3 ⟨rfl, hW3⟩
  have hW : NewW w w3 q tW2 := hW3
  have hA := nDeliver w w3 q _ hW okt2 0
  rw [t2] at hA
  go_wp2_with fail
  refine hA.mono ?_
  rintro e w4 ⟨rfl, hW⟩
  have hW' : NewW w w4 q tW3 := hW
  have hA := nText w w4 q _ hW' okt3 1
  rw [t3] at hA
  go_wp2_with fail
  refine hA.mono ?_
  rintro e w5 ⟨rfl, hW⟩
  have hA := nFlying w w5 q _ hW okt3
  rw [t4] at hA
  go_wp2_with fail
  refine hA.mono ?_
  rintro e w6 ⟨v, rfl, hv, hW⟩
  unfold TmR at hv
  obtain ⟨o, c, hvf, _, _⟩ := own_form hv
  rw [hvf] at hv
  obtain ⟨g, cap, e, _, hlt⟩ := World.ownsRow.form hv (by decide)
  simp only [Value.slice.injEq, true_and] at e
  obtain ⟨rfl, rfl⟩ := e
  have d0 := own_cell hv rfl (j := 0) (u := .int .i64 2) rfl
  have d1 := own_cell hv rfl (j := 1) (u := .int .i64 1) rfl
  have d2 := own_cell hv rfl (j := 2) (u := .int .i64 0) rfl
  have d3 := own_cell hv rfl (j := 3) (u := .int .i64 1) rfl
  have d4 := own_cell hv rfl (j := 4) (u := strV []) rfl
  subst hvf
  clear hA hv
  go_wp2_with fail
  go_ret
  exact ⟨rfl, hW.bel⟩

/-! What the steps answer. -/
structure Ok3 (W : Wd) : Prop where
  wg : WG W
  n : W.nodes.length = 3
theorem nodeAt_lt {W : Wd} {k : Nat} (h : k < W.nodes.length) : ∃ d, nodeAt W k = some d ∧ W.nodes[k]? = some d := by
  obtain ⟨d, hd⟩ := get_some h
  exact ⟨d, by unfold nodeAt; rw [if_neg (by omega)]; simpa using hd, hd⟩
theorem msgAt_lt {W : Wd} {k : Nat} (h : k < W.fly.length) : ∃ d, msgAt W k = some d ∧ W.fly[k]? = some d := by
  obtain ⟨d, hd⟩ := get_some h
  exact ⟨d, by unfold msgAt; rw [if_neg (by omega)]; simpa using hd, hd⟩
theorem Ok3.zero : Ok3 (zW 3) := ⟨WG.zero (by decide) (by decide), rfl⟩
theorem Ok3.add {W : Wd} (h : Ok3 W) (i : Int) (s : Nm) : Ok3 (addM W i s).2 := ⟨h.wg.add i s, by
  unfold addM
  split
  · exact h.n
  · split
    · exact h.n
    · split
      · exact h.n
      · show (W.nodes.set _ _).length = 3; rw [List.length_set]; exact h.n⟩
theorem take_n {W : Wd} (h : W.nodes.length = 3) (i : Int) (d : Nd) (es : List Ent) : (takeM W i d es).2.nodes.length = 3 := by
  unfold takeM
  split
  · exact h
  · show (W.nodes.set _ _).length = 3; rw [List.length_set]; exact h
theorem Ok3.remove {W : Wd} (h : Ok3 W) (i : Int) (s : Nm) : Ok3 (removeM W i s).2 := ⟨h.wg.remove i s, by
  unfold removeM
  split
  · exact h.n
  · split
    · exact h.n
    · exact take_n h.n _ _ _⟩
theorem Ok3.clear {W : Wd} (h : Ok3 W) (i : Int) : Ok3 (clearM W i).2 := ⟨h.wg.clear i, by
  unfold clearM
  split
  · exact h.n
  · exact take_n h.n _ _ _⟩
theorem Ok3.send {W : Wd} (h : Ok3 W) (i j : Int) : Ok3 (sendM W i j).2 := ⟨h.wg.send i j, by
  unfold sendM
  split
  · split
    · exact h.n
    · split
      · exact h.n
      · exact h.n
  · exact h.n⟩
theorem Ok3.deliver {W : Wd} (h : Ok3 W) (i : Int) : Ok3 (deliverM W i).2 := ⟨h.wg.deliver i, by
  unfold deliverM
  split
  · exact h.n
  · split
    · exact h.n
    · split
      · show (W.nodes.set _ _).length = 3; rw [List.length_set]; exact h.n
      · show (W.nodes.set _ _).length = 3; rw [List.length_set]; exact h.n⟩
theorem Ok3.drop {W : Wd} (h : Ok3 W) (i : Int) : Ok3 (dropM W i).2 := ⟨h.wg.drop i, by
  unfold dropM
  split
  · exact h.n
  · exact h.n⟩
theorem Ok3.double {W : Wd} (h : Ok3 W) (i : Int) : Ok3 (doubleM W i).2 := ⟨h.wg.double i, by
  unfold doubleM
  split
  · exact h.n
  · exact h.n⟩
theorem Ok3.collect {W : Wd} (h : Ok3 W) (i : Int) : Ok3 (collectM W i).2 := ⟨h.wg.collect i, by
  unfold collectM
  split
  · exact h.n
  · show (W.nodes.set _ _).length = 3; rw [List.length_set]; exact h.n⟩
theorem Ok3.crash {W : Wd} (h : Ok3 W) (i : Int) : Ok3 (crashM W i).2 := ⟨h.wg.crash i, by
  unfold crashM
  split
  · exact h.n
  · show (W.nodes.set _ _).length = 3; rw [List.length_set]; exact h.n⟩
section
variable {W : Wd} (h : Ok3 W)
include h
theorem Ok3.addE {k : Nat} (hk : k < 3) {s : Nm} (hs : nameB s = true) : (addM W k s).1 = 0 ∨ (addM W k s).1 = 4 := by
  obtain ⟨d, hd, _⟩ := nodeAt_lt (W := W) (k := k) (by rw [h.n]; exact hk)
  unfold addM
  rw [hd]
  simp only [hs]
  by_cases h30 : 30 ≤ W.adds
  · right; simp [h30]
  · left; simp [h30]
theorem Ok3.removeE {k : Nat} (hk : k < 3) {s : Nm} (hs : nameB s = true) : (removeM W k s).1 = 0 ∨ (removeM W k s).1 = 3 := by
  obtain ⟨d, hd, _⟩ := nodeAt_lt (W := W) (k := k) (by rw [h.n]; exact hk)
  unfold removeM
  rw [hd]
  simp only [hs]
  unfold takeM
  by_cases he : named s d.p.L = []
  · right; simp [he]
  · left; simp [he]
theorem Ok3.clearE {k : Nat} (hk : k < 3) : (clearM W k).1 = 0 ∨ (clearM W k).1 = 3 := by
  obtain ⟨d, hd, _⟩ := nodeAt_lt (W := W) (k := k) (by rw [h.n]; exact hk)
  unfold clearM
  rw [hd]
  simp only
  unfold takeM
  by_cases he : d.p.L = []
  · right; simp [he]
  · left; simp [he]
theorem Ok3.sendE {k j : Nat} (hk : k < 3) (hj : j < 3) (hne : k ≠ j) : (sendM W k j).1 = 0 ∨ (sendM W k j).1 = 3 := by
  obtain ⟨d, hd, _⟩ := nodeAt_lt (W := W) (k := k) (by rw [h.n]; exact hk)
  obtain ⟨d2, hd2, _⟩ := nodeAt_lt (W := W) (k := j) (by rw [h.n]; exact hj)
  unfold sendM
  rw [hd, hd2]
  simp only
  rw [if_neg (by omega)]
  split
  · right; rfl
  · left; rfl
theorem Ok3.collectE {k : Nat} (hk : k < 3) : (collectM W k).1 = 0 := by
  obtain ⟨d, hd, _⟩ := nodeAt_lt (W := W) (k := k) (by rw [h.n]; exact hk)
  unfold collectM
  rw [hd]
theorem Ok3.crashE {k : Nat} (hk : k < 3) : (crashM W k).1 = 0 := by
  obtain ⟨d, hd, _⟩ := nodeAt_lt (W := W) (k := k) (by rw [h.n]; exact hk)
  unfold crashM
  rw [hd]
end
theorem deliverE {W : Wd} {k : Nat} (hk : k < W.fly.length) : (deliverM W k).1 = 0 := by
  obtain ⟨d, hd, _⟩ := msgAt_lt hk
  unfold deliverM
  rw [hd]
  simp only
  split
  · rfl
  · split <;> rfl
theorem dropE {W : Wd} {k : Nat} (hk : k < W.fly.length) : (dropM W k).1 = 0 := by
  obtain ⟨d, hd, _⟩ := msgAt_lt hk
  unfold dropM
  rw [hd]
theorem doubleE {W : Wd} {k : Nat} (hk : k < W.fly.length) : (doubleM W k).1 = 0 := by
  obtain ⟨d, hd, _⟩ := msgAt_lt hk
  unfold doubleM
  rw [hd]

set_option maxHeartbeats 1000000 in
set_option maxRecDepth 100000 in
theorem kMessage_any (w w1 : World) (p : Nat) (W : Wd) (h : NewW w w1 p W) (ok : Ok3 W) (k : Nat) (a : Int) (h1 : -9223372036854775808 ≤ a) (h2 : a ≤ 9223372036854775807) :
    Calls Tryz.prog 53 #[ptr p, .int .i64 k, .int .i64 a] w1 fun e w2 => e = .returned (.bool true) ∧ ∃ W', NewW w w2 p W' ∧ Ok3 W' := by
  have hF := nFlying w w1 p W h ok.wg
  have hfl : W.fly.length ≤ 40 := ok.wg.elim fun _ h => h.forty
  have hlen : (flyingM W).length = W.fly.length := List.length_map _
  go_enter Tryz.func53, Tryz.ntmps53
  go_wp2_with fail
  refine hF.mono ?_
  rintro e w2 ⟨v, rfl, hv, hW⟩
  unfold TmR at hv
  rw [hlen] at hv
  obtain ⟨o, c, rfl, _, _⟩ := own_form hv
  clear hF hv
  by_cases hn : W.fly.length = 0
  · have hn' : ((W.fly.length : Int) == 0) = true := by rw [hn]; rfl
    go_wp2_with fail
    go_ret
    exact ⟨rfl, W, hW, ok⟩
  · have hn' : ((W.fly.length : Int) == 0) = false := by rw [beq_eq_false_iff_ne]; omega
    have hP := fun w => kPick_any a W.fly.length w (by omega) (by omega) h1 h2
    have hlt := pickN_lt a W.fly.length (by omega)
    generalize pickN a W.fly.length = q at *
    clear hn
    by_cases hk : k < 12
    · have hk' : decide (k < 12) = true := by simpa using hk
      have hk2 : decide ((k : Int) < 12) = true := by simp; omega
      have hD := nDeliver w w2 p W hW ok.wg q
      rw [deliverE hlt] at hD
      clear hk
      go_wp2_with fail
      refine (hP w2).mono ?_
      rintro e w' ⟨rfl, rfl⟩
      go_wp2_with fail
      refine hD.mono ?_
      rintro e w3 ⟨rfl, hW3⟩
      clear hD
      go_wp2_with fail
      go_ret
      exact ⟨rfl, _, hW3, ok.deliver _⟩
    · have hk' : decide (k < 12) = false := by simpa using hk
      have hk2 : decide ((k : Int) < 12) = false := by simp; omega
      by_cases hk12 : k = 12
      · subst hk12
        have hD := nDrop w w2 p W hW ok.wg q
        rw [dropE hlt] at hD
        clear hk hk' hk2
        go_wp2_with fail
        refine (hP w2).mono ?_
        rintro e w' ⟨rfl, rfl⟩
        go_wp2_with fail
        refine hD.mono ?_
        rintro e w3 ⟨rfl, hW3⟩
        clear hD
        go_wp2_with fail
        go_ret
        exact ⟨rfl, _, hW3, ok.drop _⟩
      · have hk3 : ((k : Int) == 12) = false := by rw [beq_eq_false_iff_ne]; omega
        have hD := nDouble w w2 p W hW ok.wg q
        rw [doubleE hlt] at hD
        clear hk hk12
        go_wp2_with fail
        refine (hP w2).mono ?_
        rintro e w' ⟨rfl, rfl⟩
        go_wp2_with fail
        refine hD.mono ?_
        rintro e w3 ⟨rfl, hW3⟩
        clear hD
        go_wp2_with fail
        go_ret
        exact ⟨rfl, _, hW3, ok.double _⟩
end Go.Proofs.YtnniimfinakioaaGreatDoor
