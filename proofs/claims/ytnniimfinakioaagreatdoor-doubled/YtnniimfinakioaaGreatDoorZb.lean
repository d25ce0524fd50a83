import Derived.Test.YtnniimfinakioaaGreatDoorZa
import Derived.Test.YtnniimfinakioaaGreatDoorXn
namespace Go.Proofs.YtnniimfinakioaaGreatDoor
open Go.RowKit
attribute [local go_sem] toList_nm app_nm size_nm

structure StD where
  k : Int
  a : Int
  b : Int
def stC (o : StD) : List Value := [.int .i64 o.k, .int .i64 o.a, .int .i64 o.b]
def I64 (c : Int) : Prop := -9223372036854775808 ≤ c ∧ c ≤ 9223372036854775807
structure StOk (o : StD) : Prop where
  k : I64 o.k
  a : I64 o.a
  b : I64 o.b
def StepsR (w : World) (o : Option Addr) (l : List StD) : Prop := ∀ (i : Nat) (x : StD), l[i]? = some x → ∃ ad : Addr, o = some ad ∧ ad.block < w.heap.size ∧ ∀ (j : Nat) (u : Value), (stC x)[j]? = some u → w.cell? (ad.add (i * 3 + j)) = some u

set_option maxHeartbeats 2000000 in
set_option maxRecDepth 100000 in
theorem kStep_any (w w1 : World) (p : Nat) (W : Wd) (h : NewW w w1 p W) (ok : Ok3 W) (x : StD) (hx : StOk x) :
    Calls Tryz.prog 21 #[ptr p, .agg #[.int .i64 x.k, .int .i64 x.a, .int .i64 x.b]] w1 fun e w2 => e = .returned (.bool true) ∧ ∃ W', NewW w w2 p W' ∧ Ok3 W' := by
  have hPa := fun w => kPick_any x.a 3 w (by decide) (by decide) hx.a.1 hx.a.2
  have hPk := fun w => kPick_any x.k 16 w (by decide) (by decide) hx.k.1 hx.k.2
  have hPb := fun w => kPick_any x.b 2 w (by decide) (by decide) hx.b.1 hx.b.2
  have hNb := fun w => kName_any x.b w hx.b.1 hx.b.2
  have hla := pickN_lt x.a 3 (by decide)
  have hlk := pickN_lt x.k 16 (by decide)
  have hlb := pickN_lt x.b 2 (by decide)
  have hnm := nmOf_name (pickN x.b 5)
  have hnl := nmOf_len (pickN x.b 5)
  generalize pickN x.a 3 = n at *
  generalize pickN x.k 16 = k at *
  generalize pickN x.b 2 = t at *
  generalize nmOf (pickN x.b 5) = s at *
  have hb : Below w1.heap.size w1 (w1.alloc (.cells #[.int .i64 x.k, .int .i64 x.a, .int .i64 x.b] 43)) := (Below.refl _ _).alloc (Nat.le_refl _) _
  have hW := h.grew hb
  obtain ⟨S, hP0, hS, hB0⟩ := h
  have hP := hP0.below hb
  have hlt0 := hP0.lt
  have q0 := heap_alloc_new w1 (.cells #[.int .i64 x.k, .int .i64 x.a, .int .i64 x.b] 43)
  have hB1 : Below w.heap.size w (w1.alloc (.cells #[.int .i64 x.k, .int .i64 x.a, .int .i64 x.b] 43)) := hB0.trans (hb.mono hB0.size)
  have fin : ∀ w3 W', ProgW w3 (Ext S (w1.alloc (.cells #[.int .i64 x.k, .int .i64 x.a, .int .i64 x.b] 43)) w3) p W' → Kp (w1.alloc (.cells #[.int .i64 x.k, .int .i64 x.a, .int .i64 x.b] 43)).heap.size S (w1.alloc (.cells #[.int .i64 x.k, .int .i64 x.a, .int .i64 x.b] 43)) w3 →
      NewW w w3 p W' ∧ w3.cell? ⟨w1.heap.size, 0, none⟩ = some (.int .i64 x.k) := fun w3 W' h1 h2 => by
    refine ⟨NewW.moved hS hB1 h1 h2, ?_⟩
    have := (row_facts ((h2.block w1.heap.size (lt_of_heap q0) (fun hs => by have := hlt0 _ hs; omega)).trans q0)).1 0
    simpa using this
  clear hP0 hlt0 q0 hB1 hB0 hS hb
  by_cases k3 : k < 3
  · have k3' : decide ((k : Int) < 3) = true := by simp; omega
    have k3'' : decide (k < 3) = true := by simpa using k3
    have hA := nAdd w _ p W hW ok.wg n s (by omega)
    have hE := ok.addE (k := n) hla hnm
    clear k3
    go_enter Tryz.func21, Tryz.ntmps21
    go_wp2_with fail
    refine (hPa _).mono ?_
    rintro e w' ⟨rfl, rfl⟩
    go_wp2_with fail
    refine (hPk _).mono ?_
    rintro e w' ⟨rfl, rfl⟩
    go_wp2_with fail
    refine (hNb _).mono ?_
    rintro e w' ⟨rfl, rfl⟩
    go_wp2_with fail
    rcases hE with hE | hE
    · rw [hE] at hA
      refine hA.mono ?_
      rintro e w3 ⟨rfl, hW3⟩
      clear hA
      go_wp2_with fail
      go_ret
      exact ⟨rfl, _, hW3, ok.add _ _⟩
    · rw [hE] at hA
      refine hA.mono ?_
      rintro e w3 ⟨rfl, hW3⟩
      clear hA
      go_wp2_with fail
      go_ret
      exact ⟨rfl, _, hW3, ok.add _ _⟩
  · have k3' : decide ((k : Int) < 3) = false := by simp; omega
    have k3'' : decide (k < 3) = false := by simpa using k3
    by_cases e3 : k = 3
    · subst e3
      have hA := pRemove _ S p W n s hP ok.wg (by omega)
      have hE := ok.removeE (k := n) hla hnm
      clear k3
      go_enter Tryz.func21, Tryz.ntmps21
      go_wp2_with fail
      refine (hPa _).mono ?_
      rintro e w' ⟨rfl, rfl⟩
      go_wp2_with fail
      refine (hPk _).mono ?_
      rintro e w' ⟨rfl, rfl⟩
      go_wp2_with fail
      refine (hNb _).mono ?_
      rintro e w' ⟨rfl, rfl⟩
      go_wp2_with fail
      rcases hE with hE | hE
      · rw [hE] at hA
        refine hA.mono ?_
        rintro e w3 ⟨rfl, hP3, hK3⟩
        have hW3 := (fin w3 _ hP3 hK3).1
        clear hA
        go_wp2_with fail
        go_ret
        exact ⟨rfl, _, hW3, ok.remove _ _⟩
      · rw [hE] at hA
        refine hA.mono ?_
        rintro e w3 ⟨rfl, hP3, hK3⟩
        obtain ⟨hW3, u0⟩ := fin w3 _ hP3 hK3
        clear hA hP3 hK3
        go_wp2_with fail
        refine (hPk _).mono ?_
        rintro e w' ⟨rfl, rfl⟩
        go_wp2_with fail
        go_ret
        exact ⟨rfl, _, hW3, ok.remove _ _⟩
    · have e3' : ((k : Int) == 3) = false := by rw [beq_eq_false_iff_ne]; omega
      by_cases e4 : k = 4
      · subst e4
        have hA := pClear _ S p W n hP ok.wg
        have hE := ok.clearE (k := n) hla
        clear k3 e3
        go_enter Tryz.func21, Tryz.ntmps21
        go_wp2_with fail
        refine (hPa _).mono ?_
        rintro e w' ⟨rfl, rfl⟩
        go_wp2_with fail
        refine (hPk _).mono ?_
        rintro e w' ⟨rfl, rfl⟩
        go_wp2_with fail
        rcases hE with hE | hE
        · rw [hE] at hA
          refine hA.mono ?_
          rintro e w3 ⟨rfl, hP3, hK3⟩
          have hW3 := (fin w3 _ hP3 hK3).1
          clear hA
          go_wp2_with fail
          go_ret
          exact ⟨rfl, _, hW3, ok.clear _⟩
        · rw [hE] at hA
          refine hA.mono ?_
          rintro e w3 ⟨rfl, hP3, hK3⟩
          obtain ⟨hW3, u0⟩ := fin w3 _ hP3 hK3
          clear hA hP3 hK3
          go_wp2_with fail
          refine (hPk _).mono ?_
          rintro e w' ⟨rfl, rfl⟩
          go_wp2_with fail
          go_ret
          exact ⟨rfl, _, hW3, ok.clear _⟩
      · have e4' : ((k : Int) == 4) = false := by rw [beq_eq_false_iff_ne]; omega
        by_cases k8 : k < 8
        · have k8' : decide ((k : Int) < 8) = true := by simp; omega
          have k8'' : decide (k < 8) = true := by simpa using k8
          have hj : ((n : Int) + 1 + (t : Int)).tmod 3 = (((n + 1 + t) % 3 : Nat) : Int) := by
            rw [show (n : Int) + 1 + (t : Int) = ((n + 1 + t : Nat) : Int) by omega]
            rfl
          have hA := pSend _ S p W n (((n + 1 + t) % 3 : Nat) : Int) hP ok.wg
          have hE := ok.sendE (k := n) (j := (n + 1 + t) % 3) hla (Nat.mod_lt _ (by decide)) (by omega)
          rw [← hj] at hA
          rw [← hj] at hE
          clear k3 e3 e4 k8 hj
          go_enter Tryz.func21, Tryz.ntmps21
          go_wp2_with fail
          refine (hPa _).mono ?_
          rintro e w' ⟨rfl, rfl⟩
          go_wp2_with fail
          refine (hPk _).mono ?_
          rintro e w' ⟨rfl, rfl⟩
          go_wp2_with fail
          refine (hPb _).mono ?_
          rintro e w' ⟨rfl, rfl⟩
          go_wp2_with fail
          rcases hE with hE | hE
          · rw [hE] at hA
            refine hA.mono ?_
            rintro e w3 ⟨rfl, hP3, hK3⟩
            have hW3 := (fin w3 _ hP3 hK3).1
            clear hA
            go_wp2_with fail
            go_ret
            exact ⟨rfl, _, hW3, ok.send _ _⟩
          · rw [hE] at hA
            refine hA.mono ?_
            rintro e w3 ⟨rfl, hP3, hK3⟩
            obtain ⟨hW3, u0⟩ := fin w3 _ hP3 hK3
            clear hA hP3 hK3
            go_wp2_with fail
            refine (hPk _).mono ?_
            rintro e w' ⟨rfl, rfl⟩
            go_wp2_with fail
            go_ret
            exact ⟨rfl, _, hW3, ok.send _ _⟩
        · have k8' : decide ((k : Int) < 8) = false := by simp; omega
          have k8'' : decide (k < 8) = false := by simpa using k8
          by_cases k14 : k < 14
          · have k14' : decide ((k : Int) < 14) = true := by simp; omega
            have k14'' : decide (k < 14) = true := by simpa using k14
            have hA := kMessage_any w _ p W hW ok k x.a hx.a.1 hx.a.2
            clear k3 e3 e4 k8 k14
            go_enter Tryz.func21, Tryz.ntmps21
            go_wp2_with fail
            refine (hPa _).mono ?_
            rintro e w' ⟨rfl, rfl⟩
            go_wp2_with fail
            refine (hPk _).mono ?_
            rintro e w' ⟨rfl, rfl⟩
            go_wp2_with fail
            refine hA.mono ?_
            rintro e w3 ⟨rfl, W', hW3, ok3⟩
            clear hA
            go_wp2_with fail
            go_ret
            exact ⟨rfl, _, hW3, ok3⟩
          · have k14' : decide ((k : Int) < 14) = false := by simp; omega
            have k14'' : decide (k < 14) = false := by simpa using k14
            by_cases e14 : k = 14
            · subst e14
              have hA := pCollect _ S p W n hP ok.wg
              rw [ok.collectE hla] at hA
              clear k3 e3 e4 k8 k14
              go_enter Tryz.func21, Tryz.ntmps21
              go_wp2_with fail
              refine (hPa _).mono ?_
              rintro e w' ⟨rfl, rfl⟩
              go_wp2_with fail
              refine (hPk _).mono ?_
              rintro e w' ⟨rfl, rfl⟩
              go_wp2_with fail
              refine hA.mono ?_
              rintro e w3 ⟨rfl, hP3, hK3⟩
              have hW3 := (fin w3 _ hP3 hK3).1
              clear hA hP3 hK3
              go_wp2_with fail
              go_ret
              exact ⟨rfl, _, hW3, ok.collect _⟩
            · have e14' : ((k : Int) == 14) = false := by rw [beq_eq_false_iff_ne]; omega
              have hA := pCrash _ S p W n hP ok.wg
              rw [ok.crashE hla] at hA
              clear k3 e3 e4 k8 k14 e14
              go_enter Tryz.func21, Tryz.ntmps21
              go_wp2_with fail
              refine (hPa _).mono ?_
              rintro e w' ⟨rfl, rfl⟩
              go_wp2_with fail
              refine (hPk _).mono ?_
              rintro e w' ⟨rfl, rfl⟩
              go_wp2_with fail
              refine hA.mono ?_
              rintro e w3 ⟨rfl, hP3, hK3⟩
              have hW3 := (fin w3 _ hP3 hK3).1
              clear hA hP3 hK3
              go_wp2_with fail
              go_ret
              exact ⟨rfl, _, hW3, ok.crash _⟩

set_option maxHeartbeats 2000000 in
set_option maxRecDepth 100000 in
theorem kRun_any (w w0 : World) (hB : Below w.heap.size w w0) (o : Option Addr) (cap : Nat) (l : List StD) (hr : StepsR w o l) (hok : ∀ x ∈ l, StOk x) :
    Calls Tryz.prog 14 #[.slice o l.length cap] w0 fun e w' => ∃ q W, e = .returned (ptr q) ∧ NewW w w' q W ∧ Ok3 W := by
  have hF := kFresh_any w w0 hB
  have HR := hide hr
  have Hok := hide hok
  clear hr hok hB
  go_enter Tryz.func14, Tryz.ntmps14
  go_wp2_with fail
  refine hF.mono ?_
  rintro e w1 ⟨q, rfl, hW⟩
  clear hF
  go_wp2_with fail
  go_loopw [4] (fun j wr => ∃ (k : Nat) (W : Wd), k ≤ l.length ∧ k ≤ 60 ∧ j = .int .i64 k ∧ NewW w wr q W ∧ Ok3 W) (fun j _ => 60 - (intOf j).toNat)
  case atStart => exact ⟨0, _, Nat.zero_le _, Nat.zero_le _, rfl, hW, Ok3.zero⟩
  case round =>
    obtain ⟨k, W, hk, hk60, rfl, hW2, ok⟩ := hrel
    by_cases hlt : k < l.length
    · have hlt' : decide (k < l.length) = true := by simpa using hlt
      by_cases h60 : k < 60
      · have h60' : decide ((k : Int) < 60) = true := by simp; omega
        have h60'' : decide (k < 60) = true := by simpa using h60
        obtain ⟨x, hx⟩ := get_some hlt
        obtain ⟨ad, rfl, had, hc⟩ := HR.out k x hx
        have okx := Hok.out x (List.mem_of_getElem? hx)
        have hb := hW2.bel
        have d0 : wr.cell? (ad.add (k * 3)) = some (.int .i64 x.k) := (hb.cell (p := ad.add (k * 3 + 0)) (by unfold Addr.add; split <;> exact had)).trans (hc 0 _ rfl)
        have dj : ∀ (j : Nat) (u : Value), (stC x)[j + 1]? = some u → wr.cell? ⟨(ad.add (k * 3)).block, (ad.add (k * 3)).off + (j + 1), none⟩ = some u := fun j u hu => by
          have h1 := hc (j + 1) u hu
          rw [show k * 3 + (j + 1) = (k * 3 + j) + 1 by omega, add_pos] at h1
          rw [(add_parts ad (k * 3)).1, (add_parts ad (k * 3)).2, show ad.off + k * 3 + (j + 1) = ad.off + (k * 3 + j + 1) by omega, hb.cell (p := ⟨ad.block, ad.off + (k * 3 + j + 1), none⟩) had]
          exact h1
        have d1 := dj 0 _ rfl
        have d2 := dj 1 _ rfl
        simp only [Nat.reduceAdd] at d1 d2
        have hS := kStep_any w wr q W hW2 ok x okx
        clear hx hc dj hb okx
        go_wp2_with fail
        refine hS.mono ?_
        rintro e w3 ⟨rfl, W', hW3, ok3⟩
        clear hS
        go_wp2_with fail
        exact ⟨⟨k + 1, W', by omega, by omega, by go_num, hW3, ok3⟩, by simp [intOf]; omega⟩
      · have h60' : decide ((k : Int) < 60) = false := by simp; omega
        have h60'' : decide (k < 60) = false := by simpa using h60
        go_wp2_with fail
        go_ret
        exact ⟨q, W, rfl, hW2, ok⟩
    · have hlt' : decide (k < l.length) = false := by simpa using hlt
      go_wp2_with fail
      go_ret
      exact ⟨q, W, rfl, hW2, ok⟩
end Go.Proofs.YtnniimfinakioaaGreatDoor
namespace Go.Proofs.YtnniimfinakioaaGreatDoor
open Go.RowKit
attribute [local go_sem] toList_nm app_nm size_nm

theorem textM_congr {W W' : Wd} (h : W.nodes = W'.nodes) (i : Int) : textM W i = textM W' i := by unfold textM nodeAt; rw [h]
theorem statusM_congr {W W' : Wd} (h : W.nodes = W'.nodes) (i : Int) : statusM W i = statusM W' i := by unfold statusM nodeAt; rw [h]
theorem ackN_twice (d : Nd) (f k : Nat) (hf : f < d.acked.length) : ackN (ackN d f k) f k = ackN d f k := by
  by_cases h : d.acked.getD f 0 < k
  · have e : ackN d f k = { d with acked := d.acked.set f k } := if_pos h
    rw [e]
    unfold ackN
    have : (d.acked.set f k).getD f 0 = k := by rw [List.getD_eq_getElem?_getD, List.getElem?_set_self hf]; rfl
    simp only
    rw [this, if_neg (Nat.lt_irrefl _)]
  · have e : ackN d f k = d := if_neg h
    rw [e, e]
/-- What is known of a message that is doubled, and comes twice. -/
structure TwiceR (W : Wd) (i : Nat) (m : Md) (W1 W2 W3 : Wd) : Prop where
  d1 : doubleM W i = (0, W1)
  d2 : deliverM W1 i = (0, W2)
  d3 : deliverM W2 ((W.fly.length - 1 : Nat) : Int) = (0, W3)
  nodes : W3.nodes = W2.nodes
  fly : W3.fly.length = if m.kind = 1 then W.fly.length + 1 else W.fly.length - 1
  kind : m.kind = 1 ∨ m.kind = 2
theorem twice_model {W : Wd} (ok : WG W) (i : Nat) (hi : i < W.fly.length) (h40 : W.fly.length < 40) : ∃ m W1 W2 W3, W.fly[i]? = some m ∧ TwiceR W i m W1 W2 W3 := by
  obtain ⟨H, ok⟩ := ok
  obtain ⟨m, hm, hmi⟩ := msgAt_lt hi
  have hG := ok.fly m (List.mem_of_getElem? hmi)
  obtain ⟨d, hd⟩ := get_some (l := W.nodes) (k := m.to) hG.to
  have hN := ok.node m.to d hd
  have e1 : doubleM W i = (0, { W with fly := W.fly ++ [m] }) := by
    unfold doubleM
    rw [hm]
    simp only [flyL, if_pos h40]
  have hgone : gone { W with fly := W.fly ++ [m] } i = (W.fly.take i ++ W.fly.drop (i + 1)) ++ [m] := by
    show (W.fly ++ [m]).take i ++ (W.fly ++ [m]).drop (i + 1) = _
    rw [List.take_append_of_le_length (by omega), List.drop_append_of_le_length (by omega), List.append_assoc]
  have hL : (W.fly.take i ++ W.fly.drop (i + 1)).length = W.fly.length - 1 := by simp; omega
  have hm1 : msgAt { W with fly := W.fly ++ [m] } i = some m := by
    unfold msgAt
    rw [if_neg (by omega)]
    simp only [Int.toNat_natCast]
    rw [List.getElem?_append_left hi]
    exact hmi
  have hacked : m.frm < d.acked.length := by rw [hN.acked]; exact hG.frm
  refine ⟨m, { W with fly := W.fly ++ [m] }, ?_⟩
  rcases hG.kind with hk | hk
  · have e2 : deliverM { W with fly := W.fly ++ [m] } i = (0, { W with nodes := W.nodes.set m.to (comeN d m.p), fly := (W.fly.take i ++ W.fly.drop (i + 1)) ++ [m] ++ [ackMd m] }) := by
      unfold deliverM
      rw [hm1]
      simp only [hd, hk, Int.toNat_natCast]
      rw [if_neg (by decide), hgone, flyL, if_pos (by rw [List.length_append, hL, List.length_singleton]; omega)]
    have hm2 : msgAt { W with nodes := W.nodes.set m.to (comeN d m.p), fly := (W.fly.take i ++ W.fly.drop (i + 1)) ++ [m] ++ [ackMd m] } ((W.fly.length - 1 : Nat) : Int) = some m := by
      unfold msgAt
      rw [if_neg (by omega)]
      simp only [Int.toNat_natCast]
      rw [List.getElem?_append_left (by rw [List.length_append, hL, List.length_singleton]; omega), List.getElem?_append_right (by omega), hL]
      simp
    have hsame : comeN (comeN d m.p) m.p = comeN d m.p := by
      refine comeN_same ok.toks ?_ hG.pc ?_
      · rw [come_p]; exact hN.pc.join hG.pc
      · rw [come_p]; exact le_right ok.toks hN.pc hG.pc
    refine ⟨_, { W with nodes := W.nodes.set m.to (comeN d m.p), fly := flyL (gone { W with nodes := W.nodes.set m.to (comeN d m.p), fly := (W.fly.take i ++ W.fly.drop (i + 1)) ++ [m] ++ [ackMd m] } (W.fly.length - 1)) (ackMd m) }, hmi, e1, e2, ?_, rfl, ?_, Or.inl hk⟩
    · unfold deliverM
      rw [hm2]
      simp only [set_get hd, hk, Int.toNat_natCast, hsame, List.set_set]
      rw [if_neg (by decide)]
    · rw [if_pos hk]
      have hgl : (gone { W with nodes := W.nodes.set m.to (comeN d m.p), fly := (W.fly.take i ++ W.fly.drop (i + 1)) ++ [m] ++ [ackMd m] } (W.fly.length - 1)).length = W.fly.length := by
        unfold gone
        simp only [List.length_append, List.length_take, List.length_drop, List.length_singleton]
        omega
      show (flyL _ _).length = _
      rw [flyL, if_pos (by rw [hgl]; exact h40), List.length_append, hgl]
      rfl
  · have e2 : deliverM { W with fly := W.fly ++ [m] } i = (0, { W with nodes := W.nodes.set m.to (ackN d m.frm m.number), fly := (W.fly.take i ++ W.fly.drop (i + 1)) ++ [m] }) := by
      unfold deliverM
      rw [hm1]
      simp only [hd, hk, Int.toNat_natCast, if_true]
      rw [hgone]
    have hm2 : msgAt { W with nodes := W.nodes.set m.to (ackN d m.frm m.number), fly := (W.fly.take i ++ W.fly.drop (i + 1)) ++ [m] } ((W.fly.length - 1 : Nat) : Int) = some m := by
      unfold msgAt
      rw [if_neg (by omega)]
      simp only [Int.toNat_natCast]
      rw [List.getElem?_append_right (by omega), hL]
      simp
    refine ⟨_, { W with nodes := W.nodes.set m.to (ackN d m.frm m.number), fly := gone { W with nodes := W.nodes.set m.to (ackN d m.frm m.number), fly := (W.fly.take i ++ W.fly.drop (i + 1)) ++ [m] } (W.fly.length - 1) }, hmi, e1, e2, ?_, rfl, ?_, Or.inr hk⟩
    · unfold deliverM
      rw [hm2]
      simp only [set_get hd, hk, Int.toNat_natCast, if_true, ackN_twice d _ _ hacked, List.set_set]
    · rw [if_neg (by rw [hk]; decide)]
      unfold gone
      simp only [List.length_append, List.length_take, List.length_drop, List.length_singleton]
      omega
end Go.Proofs.YtnniimfinakioaaGreatDoor
namespace Go.Proofs.YtnniimfinakioaaGreatDoor
open Go.RowKit
attribute [local go_sem] toList_nm app_nm size_nm

set_option maxHeartbeats 2000000 in
set_option maxRecDepth 100000 in
theorem kSame_any (w : World) (c : Int) (vK vA vT vK' vA' vT' : Value) (lK lA lT : List Int) (hK : IntR w vK lK) (hA : IntR w vA lA) (hT : IntR w vT lT) (hK' : IntR w vK' lK) (hA' : IntR w vA' lA) (hT' : IntR w vT' lT)
    (h1 : lK.length ≤ 1000000) (h2 : lA.length ≤ 1000000) (h3 : lT.length ≤ 1000000) :
    Calls Tryz.prog 39 #[.agg #[.int .i64 c, vK, vA, vT], .agg #[.int .i64 c, vK', vA', vT']] w fun e w' => e = .returned (.bool true) ∧ Below w.heap.size w w' := by
  unfold IntR at *
  obtain ⟨oK, cK, rfl, _, _⟩ := own_form hK
  obtain ⟨oA, cA, rfl, _, _⟩ := own_form hA
  obtain ⟨oT, cT, rfl, _, _⟩ := own_form hT
  obtain ⟨oK', cK', rfl, _, _⟩ := own_form hK'
  obtain ⟨oA', cA', rfl, _, _⟩ := own_form hA'
  obtain ⟨oT', cT', rfl, _, _⟩ := own_form hT'
  have hb0 : Below w.heap.size w ((w.alloc (.cells #[.int .i64 c, .slice oK lK.length cK, .slice oA lA.length cA, .slice oT lT.length cT] 58)).alloc (.cells #[.int .i64 c, .slice oK' lK.length cK', .slice oA' lA.length cA', .slice oT' lT.length cT'] 58)) := below2 w _ _
  have q0 : ((w.alloc (.cells #[.int .i64 c, .slice oK lK.length cK, .slice oA lA.length cA, .slice oT lT.length cT] 58)).alloc (.cells #[.int .i64 c, .slice oK' lK.length cK', .slice oA' lA.length cA', .slice oT' lT.length cT'] 58)).heap[w.heap.size]? = some (.cells #[.int .i64 c, .slice oK lK.length cK, .slice oA lA.length cA, .slice oT lT.length cT] 58) := alloc_at (heap_alloc_new w _) _
  have q1 : ((w.alloc (.cells #[.int .i64 c, .slice oK lK.length cK, .slice oA lA.length cA, .slice oT lT.length cT] 58)).alloc (.cells #[.int .i64 c, .slice oK' lK.length cK', .slice oA' lA.length cA', .slice oT' lT.length cT'] 58)).heap[w.heap.size + 1]? = some (.cells #[.int .i64 c, .slice oK' lK.length cK', .slice oA' lA.length cA', .slice oT' lT.length cT'] 58) := new_at _ _ (by simp)
  have HB0 := hide hb0
  have Q0 := hide q0
  have Q1 := hide q1
  have RK := hide (own_below hK hb0)
  have RA := hide (own_below hA hb0)
  have RT := hide (own_below hT hb0)
  have RK' := hide (own_below hK' hb0)
  have RA' := hide (own_below hA' hb0)
  have RT' := hide (own_below hT' hb0)
  clear hb0 q0 q1 hK hA hT hK' hA' hT'
  go_enter Tryz.func39, Tryz.ntmps39
  go_wp2_with fail
  generalize (w.alloc (.cells #[.int .i64 c, .slice oK lK.length cK, .slice oA lA.length cA, .slice oT lT.length cT] 58)).alloc (.cells #[.int .i64 c, .slice oK' lK.length cK', .slice oA' lA.length cA', .slice oT' lT.length cT'] 58) = W0 at *
  obtain ⟨a, _⟩ := row_facts Q0.out
  obtain ⟨b, _⟩ := row_facts Q1.out
  have a1 := a 1
  have a2 := a 2
  have a3 := a 3
  have b1 := b 1
  have b2 := b 2
  have b3 := b 3
  simp only [List.getElem?_toArray, List.getElem?_cons_zero, List.getElem?_cons_succ] at a1 a2 a3 b1 b2 b3
  have l0 := lt_of_heap Q0.out
  have l1 := lt_of_heap Q1.out
  have HBa := hide (Below.refl W0.heap.size W0)
  clear a b
  go_loopw [5] (fun j wr => ∃ k : Nat, k ≤ lK.length ∧ j = .int .i64 k ∧ Below W0.heap.size W0 wr) (fun j _ => lK.length - (intOf j).toNat)
  case atStart => exact ⟨0, Nat.zero_le _, rfl, HBa.out⟩
  case round =>
    obtain ⟨k, hk, rfl, hb⟩ := hrel
    have x1 := (hb.cell (p := ⟨w.heap.size, 1, none⟩) l0).trans a1
    have x2 := (hb.cell (p := ⟨w.heap.size + 1, 1, none⟩) l1).trans b1
    have m0 : w.heap.size < wr.heap.size := by have := hb.size; omega
    have m1 : w.heap.size + 1 < wr.heap.size := by have := hb.size; omega
    by_cases hlt : k < lK.length
    · have hlt' : decide (k < lK.length) = true := by simpa using hlt
      obtain ⟨y, hy⟩ := get_some hlt
      obtain ⟨gy, hgy, hgl, e1, _⟩ := own1_at (k := k) (u := .int .i64 y) RK.out (by simp [hy])
      obtain ⟨gz, hgz, hzl, e2, _⟩ := own1_at (k := k) (u := .int .i64 y) RK'.out (by simp [hy])
      subst hgy
      subst hgz
      have f1 := (hb.cell (p := ⟨gy, k, none⟩) hgl).trans e1
      have f2 := (hb.cell (p := ⟨gz, k, none⟩) hzl).trans e2
      have HB := hide hb
      clear hb hy e1 e2
      go_wp2_with fail
      go_quiet (fail)
      go_wp2_with fail
      exact ⟨⟨k + 1, by omega, by go_num, below_drewN HB.out _⟩, by simp [intOf]; omega⟩
    · have hlt' : decide (k < lK.length) = false := by simpa using hlt
      have HBb := hide hb
      clear hb
      go_wp2_with fail
      go_loopw [6] (fun j wr => ∃ k : Nat, k ≤ lA.length ∧ j = .int .i64 k ∧ Below W0.heap.size W0 wr) (fun j _ => lA.length - (intOf j).toNat)
      case atStart => exact ⟨0, Nat.zero_le _, rfl, HBb.out⟩
      case round =>
        obtain ⟨k, hk, rfl, hb⟩ := hrel
        have x1 := (hb.cell (p := ⟨w.heap.size, 2, none⟩) l0).trans a2
        have x2 := (hb.cell (p := ⟨w.heap.size + 1, 2, none⟩) l1).trans b2
        have m0 : w.heap.size < wr.heap.size := by have := hb.size; omega
        have m1 : w.heap.size + 1 < wr.heap.size := by have := hb.size; omega
        by_cases hlt : k < lA.length
        · have hlt' : decide (k < lA.length) = true := by simpa using hlt
          obtain ⟨y, hy⟩ := get_some hlt
          obtain ⟨gy, hgy, hgl, e1, _⟩ := own1_at (k := k) (u := .int .i64 y) RA.out (by simp [hy])
          obtain ⟨gz, hgz, hzl, e2, _⟩ := own1_at (k := k) (u := .int .i64 y) RA'.out (by simp [hy])
          subst hgy
          subst hgz
          have f1 := (hb.cell (p := ⟨gy, k, none⟩) hgl).trans e1
          have f2 := (hb.cell (p := ⟨gz, k, none⟩) hzl).trans e2
          have HB := hide hb
          clear hb hy e1 e2
          go_wp2_with fail
          go_quiet (fail)
          go_wp2_with fail
          exact ⟨⟨k + 1, by omega, by go_num, below_drewN HB.out _⟩, by simp [intOf]; omega⟩
        · have hlt' : decide (k < lA.length) = false := by simpa using hlt
          have HBc := hide hb
          clear hb
          go_wp2_with fail
          go_loopw [7] (fun j wr => ∃ k : Nat, k ≤ lT.length ∧ j = .int .i64 k ∧ Below W0.heap.size W0 wr) (fun j _ => lT.length - (intOf j).toNat)
          case atStart => exact ⟨0, Nat.zero_le _, rfl, HBc.out⟩
          case round =>
            obtain ⟨k, hk, rfl, hb⟩ := hrel
            have x1 := (hb.cell (p := ⟨w.heap.size, 3, none⟩) l0).trans a3
            have x2 := (hb.cell (p := ⟨w.heap.size + 1, 3, none⟩) l1).trans b3
            have m0 : w.heap.size < wr.heap.size := by have := hb.size; omega
            have m1 : w.heap.size + 1 < wr.heap.size := by have := hb.size; omega
            by_cases hlt : k < lT.length
            · have hlt' : decide (k < lT.length) = true := by simpa using hlt
              obtain ⟨y, hy⟩ := get_some hlt
              obtain ⟨gy, hgy, hgl, e1, _⟩ := own1_at (k := k) (u := .int .i64 y) RT.out (by simp [hy])
              obtain ⟨gz, hgz, hzl, e2, _⟩ := own1_at (k := k) (u := .int .i64 y) RT'.out (by simp [hy])
              subst hgy
              subst hgz
              have f1 := (hb.cell (p := ⟨gy, k, none⟩) hgl).trans e1
              have f2 := (hb.cell (p := ⟨gz, k, none⟩) hzl).trans e2
              have HB := hide hb
              clear hb hy e1 e2
              go_wp2_with fail
              go_quiet (fail)
              go_wp2_with fail
              exact ⟨⟨k + 1, by omega, by go_num, below_drewN HB.out _⟩, by simp [intOf]; omega⟩
            · have hlt' : decide (k < lT.length) = false := by simpa using hlt
              have HBd := hide hb
              clear hb
              go_wp2_with fail
              go_ret
              exact ⟨rfl, HB0.out.trans (HBd.out.mono HB0.out.size)⟩
end Go.Proofs.YtnniimfinakioaaGreatDoor
