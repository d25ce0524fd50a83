import Derived.BigQuiet
import Derived.Test.YtnniimfinakioaaGreatDoorYc
namespace Go.Proofs.YtnniimfinakioaaGreatDoor
open Go.RowKit Go.Shelf
attribute [local go_sem] toList_nm app_nm size_nm

theorem named_snoc (s : Nm) (l : List Ent) (x : Ent) : named s (l ++ [x]) = named s l ++ if x.1 == s then [x] else [] := by
  unfold named
  rw [List.filter_append]
  by_cases h : (x.1 == s) = true <;> simp [h]

set_option maxHeartbeats 2000000 in
set_option maxRecDepth 100000 in
theorem named_any (w : World) (vE vK : Value) (ks L : List Ent) (s : Nm) (h : MapV entV w vE ks) (hp : ks.Perm L) (hL : L.Pairwise fun a b => aheadB a b = true) (hN : ks.length ≤ 1000000) :
    Calls Tryz.prog 59 #[.agg #[vE, vK], strV s] w fun e w' => ∃ r, e = .returned r ∧ w'.ownsRow w.heap.size 110 3 r (named s L).length (entC (named s L)) ∧ Below w.heap.size w w' := by
  obtain ⟨i0, z0, hi0, hz0, hs0, hb0, hc0⟩ := epEnt.info
  have hbox := h.alloc (.cells #[vE, vK] 90)
  have hE := entries_any (w.alloc (.cells #[vE, vK] 90)) vE vK ks L hbox hp hL hN
  have hlenL : L.length ≤ 1000000 := by have := hp.length_eq; omega
  have hb0 : Below w.heap.size w (w.alloc (.cells #[vE, vK] 90)) := (Below.refl _ _).alloc (Nat.le_refl _) _
  clear hbox
  go_enter Tryz.func59, Tryz.ntmps59
  go_wp2_with fail
  refine hE.mono ?_
  rintro e w2 ⟨r, rfl, hr, hb2⟩
  have hR : PEntR w2 r L := own_mono hr (Nat.zero_le _)
  have hb2' : Below w.heap.size w w2 := hb0.trans (hb2.mono (by simp))
  have hs2 : w.heap.size + 1 ≤ w2.heap.size := by have := hb2.size; simpa using this
  obtain ⟨o, c, rfl, hc1, hc2⟩ := hR.form
  clear hE hr hb2 hb0 hc1 hc2 h hp
  go_wp2_with fail
  go_loopw [5, 11] (fun v i wr => ∃ k : Nat, k ≤ L.length ∧ i = .int .i64 k ∧ wr.ownsRow w2.heap.size 110 3 v (named s (L.take k)).length (entC (named s (L.take k))) ∧ Below w2.heap.size w2 wr) (fun _ i _ => L.length - (intOf i).toNat)
  case atStart => exact ⟨0, Nat.zero_le _, rfl, World.ownsRow_nil .., Below.refl _ _⟩
  case round =>
    obtain ⟨k, hk, rfl, hV, hbel⟩ := hrel
    have hsr := hbel.size
    have HB := hide hbel
    by_cases hlt : k < L.length
    · obtain ⟨x, hx⟩ := get_some hlt
      obtain ⟨g, rfl, hg, c1, c2, c3⟩ := hR.at hx
      have c1' := (hbel.cell (p := ⟨g, k * 3, none⟩) hg).trans c1
      have c2' := (hbel.cell (p := ⟨g, k * 3 + 1, none⟩) hg).trans c2
      have c3' := (hbel.cell (p := ⟨g, k * 3 + 2, none⟩) hg).trans c3
      have hT : named s (L.take (k + 1)) = named s (L.take k) ++ if x.1 == s then [x] else [] := by rw [take_snoc' hx, named_snoc]
      have HT := hide hT
      have HV := hide hV
      have hnl : (named s (L.take k)).length ≤ 1000000 := by have := named_len s (L.take k); simp at this; omega
      have hgr : g < wr.heap.size := by omega
      clear hT hx c1 c2 c3 hbel hV
      by_cases hq : x.1 = s
      · have hq2 : (x.1 == s) = true := by simpa using hq
        have hnew : ∀ j u, (entC [x])[j]? = some u → ((wr.alloc (.cells #[strV x.1, .int .i64 x.2.1, .int .i64 x.2.2] 110)).alloc (.cells #[strV x.1, .int .i64 x.2.1, .int .i64 x.2.2] 110)).cell? ((⟨wr.heap.size + 1, 0, none⟩ : Addr).add j) = some u := fun j u hu => by
          rw [World.addr_add, Nat.zero_add, (row_facts (new_at (wr.alloc (.cells #[strV x.1, .int .i64 x.2.1, .int .i64 x.2.2] 110)) _ (by simp))).1 j]
          simpa [entC] using hu
        have HN := hide hnew
        have HQ := hide hq2
        clear hnew hq
        go_wp2_with (first
          | (at_builtin; refine wpList_append_own _ rfl _ _ 113 rfl w2.heap.size 110 i0 z0 3 32 epEnt.und hi0 hz0 hs0 hb0 hc0 (by decide) _ _ _ rfl ((HV.out.alloc _).alloc _) ⟨wr.heap.size + 1, 0, none⟩ 1 1 (entC [x]) rfl rfl HN.out (entC_one _) (by unfold maxLen; omega) (by omega) (by simp; omega) ?_
             intro v' w3 hown' hg3 _
             have HO := hide hown'
             have HG := hide hg3
             obtain ⟨o', c', rfl, _, _⟩ := own_form (own_mono hown' (Nat.zero_le _))
             clear hown' hg3)
          | go_in)
        have hg' : ((wr.alloc (.cells #[strV x.1, .int .i64 x.2.1, .int .i64 x.2.2] 110)).alloc (.cells #[strV x.1, .int .i64 x.2.1, .int .i64 x.2.2] 110)).grownBy w3 u5.ownBlock := HG.out
        refine ⟨⟨k + 1, by omega, by go_num, ?_, ((HB.out.alloc hsr _).alloc (by simp; omega) _).grown hg' (by simp; omega) (fun j hj => (HV.out.lt j hj).1)⟩, by simp [intOf]; omega⟩
        rw [HT.out, if_pos HQ.out, entC_app, List.length_append]
        exact HO.out
      · have hq2 : (x.1 == s) = false := by simpa using hq
        have hV2 : (wr.alloc (.cells #[strV x.1, .int .i64 x.2.1, .int .i64 x.2.2] 110)).ownsRow w2.heap.size 110 3 u5 (named s (L.take (k + 1))).length (entC (named s (L.take (k + 1)))) := by
          rw [HT.out, hq2]
          simpa using HV.out.alloc _
        have HV2 := hide hV2
        clear hV2
        go_wp2
        exact ⟨⟨k + 1, by omega, by go_num, HV2.out, HB.out.alloc hsr _⟩, by simp [intOf]; omega⟩
    · have hkl : k = L.length := by omega
      subst hkl
      rw [List.take_of_length_le (Nat.le_refl _)] at hV
      have HV := hide hV
      clear hV
      go_wp2
      go_ret
      exact ⟨_, rfl, own_mono HV.out (by omega), hb2'.trans (HB.out.mono (by omega))⟩
end Go.Proofs.YtnniimfinakioaaGreatDoor
namespace Go.Proofs.YtnniimfinakioaaGreatDoor
open Go.RowKit Go.Shelf Go.Sort
attribute [local go_sem] toList_nm app_nm size_nm


theorem compact_items (L : List Ent) : Lib.compact (L.map (·.1)) = itemsL L := by
  have key : ∀ m, m ≤ L.length → Lib.compactUpTo (L.map (·.1)).toArray m = (L.take m).foldl itStep [] := by
    intro m
    induction m with
    | zero => intro _; simp [Lib.compactUpTo]
    | succ m ih =>
      intro hm
      have hlt : m < L.length := by omega
      obtain ⟨x, hx⟩ := get_some hlt
      have hxe : L[m] = x := by rw [List.getElem?_eq_getElem hlt] at hx; simpa using hx
      have hget : (L.map (·.1)).toArray[m]! = x.1 := by rw [getElem!_pos _ m (by simpa using hlt)]; simp [hxe]
      rw [Lib.compactUpTo_succ, ih (by omega), foldl_take itStep [] L m x hx, hget]
      rw [show itStep ((L.take m).foldl itStep []) x = if ((L.take m).foldl itStep []).getLast? = some x.1 then (L.take m).foldl itStep [] else (L.take m).foldl itStep [] ++ [x.1] from rfl]
      by_cases h0 : m = 0
      · subst h0
        simp [Lib.keeps]
      · have hlt' : m - 1 < L.length := by omega
        obtain ⟨y, hy⟩ := get_some hlt'
        have hye : L[m - 1] = y := by rw [List.getElem?_eq_getElem hlt'] at hy; simpa using hy
        have hget' : (L.map (·.1)).toArray[m - 1]! = y.1 := by rw [getElem!_pos _ (m - 1) (by simpa using hlt')]; simp [hye]
        have hl := it_last L (m - 1) y hy
        rw [show m - 1 + 1 = m by omega] at hl
        rw [hl]
        by_cases he : x.1 = y.1
        · have hk : Lib.keeps (L.map (·.1)).toArray m = false := Lib.keeps_neg (by omega) (by rw [hget, hget', he])
          rw [hk]
          simp [he]
        · have hk : Lib.keeps (L.map (·.1)).toArray m = true := Lib.keeps_pos (by rw [hget, hget']; exact he)
          rw [hk]
          simp [show ¬ y.1 = x.1 from fun e => he e.symm]
  have := key L.length (Nat.le_refl _)
  rw [List.take_of_length_le (Nat.le_refl _)] at this
  unfold Lib.compact itemsL
  rw [List.length_map]
  exact this

theorem compact_len (zs : List Nm) : (Lib.compact zs).length ≤ zs.length := by
  unfold Lib.compact Lib.compactUpTo
  rw [List.length_map]
  refine Nat.le_trans (List.length_filter_le _ _) ?_
  simp

theorem compact_any (w : World) (v : Value) (zs : List Nm) {base : Nat} (h : w.ownsRow base 9 1 v zs.length (strC zs)) (hl : zs.length ≤ 1000000) :
    Calls Tryz.prog 89 #[v] w fun e w' => ∃ r, e = .returned r ∧ w'.ownsRow base 9 1 r (Lib.compact zs).length (strC (Lib.compact zs)) ∧ w.grownBy w' v.ownBlock := by
  rcases h.2 with ⟨rfl, hz⟩ | ⟨g, cap, cur, rfl, hbase, hgb, r1, r2, r3, r4⟩
  · have hz0 : zs = [] := List.eq_nil_of_length_eq_zero hz
    subst hz0
    refine (Any.slices_Compact_string_empty Tryz.laysCompact none 0 w).mono ?_
    rintro e w' ⟨rfl, rfl⟩
    exact ⟨_, rfl, World.ownsRow_nil .., ⟨rfl, rfl, rfl, Nat.le_refl _, fun _ _ _ => rfl⟩⟩
  · have hH : Holds encStr w g 0 zs.toArray := holds_of_block hgb (by rw [Nat.mul_one] at r4; exact r4)
    refine (Any.slices_Compact_string Tryz.laysCompact g 0 cap zs w hH (by omega) r1).mono ?_
    rintro e w' ⟨rfl, q, rfl⟩
    have hcl := compact_len zs
    obtain ⟨F, hF⟩ : ∃ F, Lib.compact zs ++ List.replicate (zs.length - (Lib.compact zs).length) [] = F := ⟨_, rfl⟩
    have hFl : F.length = zs.length := by rw [← hF]; simp; omega
    rw [hF]
    have hbk : (putRow encStr (Sort.ahead w q) g 0 F.toArray).heap[g]? = some (.cells (putCells encStr 0 F.toArray cur) 9 (0, 0)) := by
      simp [putRow, mapBlock, Sort.ahead, Array.getElem?_modify, hgb, onCells]
    refine ⟨_, rfl, ⟨by simp [strC], .inr ⟨g, cap, _, rfl, hbase, hbk, by omega, r2, by simp [putCells, r3], ?_⟩⟩, ⟨rfl, rfl, rfl, by simp, fun k hk hne => ?_⟩⟩
    · have ht := take_putCells cur F (by rw [r3]; omega)
      have : ((putCells encStr 0 F.toArray cur).toList.take F.length).take (Lib.compact zs).length = (F.map encStr).take (Lib.compact zs).length := by rw [ht]
      rw [List.take_take, Nat.min_eq_left (by omega), List.map_take.symm, ← hF, List.take_left'] at this
      · rw [hF] at this
        rw [Nat.mul_one]
        exact this
      · rfl
    · have : g ≠ k := fun e => hne (by rw [e]; rfl)
      simp [putRow, mapBlock, Sort.ahead, Array.getElem?_modify, this]

set_option maxHeartbeats 2000000 in
set_option maxRecDepth 100000 in
theorem names_any (w : World) (vE vK : Value) (ks L : List Ent) (h : MapV entV w vE ks) (hp : ks.Perm L) (hL : L.Pairwise fun a b => aheadB a b = true) (hN : ks.length ≤ 1000000) :
    Calls Tryz.prog 60 #[.agg #[vE, vK]] w fun e w' => ∃ r, e = .returned r ∧ w'.ownsRow w.heap.size 9 1 r (itemsL L).length (strC (itemsL L)) ∧ Below w.heap.size w w' := by
  obtain ⟨i0, z0, hi0, hz0, hs0, hb0, hc0⟩ := eStr.info
  have hbox := h.alloc (.cells #[vE, vK] 90)
  have hE := entries_any (w.alloc (.cells #[vE, vK] 90)) vE vK ks L hbox hp hL hN
  have hlenL : L.length ≤ 1000000 := by have := hp.length_eq; omega
  have hb0 : Below w.heap.size w (w.alloc (.cells #[vE, vK] 90)) := (Below.refl _ _).alloc (Nat.le_refl _) _
  clear hbox
  go_enter Tryz.func60, Tryz.ntmps60
  go_wp2_with fail
  refine hE.mono ?_
  rintro e w2 ⟨r, rfl, hr, hb2⟩
  have hR : PEntR w2 r L := own_mono hr (Nat.zero_le _)
  have hb2' : Below w.heap.size w w2 := hb0.trans (hb2.mono (by simp))
  have hs2 : w.heap.size + 1 ≤ w2.heap.size := by have := hb2.size; simpa using this
  obtain ⟨o, c, rfl, hc1, hc2⟩ := hR.form
  clear hE hr hb2 hb0 hc1 hc2 h hp
  go_wp2_with fail
  go_loopw [3, 9] (fun v i wr => ∃ k : Nat, k ≤ L.length ∧ i = .int .i64 k ∧ wr.ownsRow w2.heap.size 9 1 v k (strC ((L.take k).map (·.1))) ∧ Below w2.heap.size w2 wr) (fun _ i _ => L.length - (intOf i).toNat)
  case atStart => exact ⟨0, Nat.zero_le _, rfl, World.ownsRow_nil .., Below.refl _ _⟩
  case round =>
    obtain ⟨k, hk, rfl, hV, hbel⟩ := hrel
    have hsr := hbel.size
    have HB := hide hbel
    by_cases hlt : k < L.length
    · obtain ⟨x, hx⟩ := get_some hlt
      obtain ⟨g, rfl, hg, c1, c2, c3⟩ := hR.at hx
      have c1' := (hbel.cell (p := ⟨g, k * 3, none⟩) hg).trans c1
      have c2' := (hbel.cell (p := ⟨g, k * 3 + 1, none⟩) hg).trans c2
      have c3' := (hbel.cell (p := ⟨g, k * 3 + 2, none⟩) hg).trans c3
      have hT : strC ((L.take (k + 1)).map (·.1)) = strC ((L.take k).map (·.1)) ++ [strV x.1] := by rw [take_snoc' hx]; simp [strC]
      have HT := hide hT
      have HV := hide hV
      have hgr : g < wr.heap.size := by omega
      clear hT hx c1 c2 c3 hbel hV
      have hnew : ∀ j u, [strV x.1][j]? = some u → ((wr.alloc (.cells #[strV x.1, .int .i64 x.2.1, .int .i64 x.2.2] 110)).alloc (.cells #[strV x.1] 9)).cell? ((⟨wr.heap.size + 1, 0, none⟩ : Addr).add j) = some u := fun j u hu => by
        rw [World.addr_add, Nat.zero_add, (row_facts (new_at (wr.alloc (.cells #[strV x.1, .int .i64 x.2.1, .int .i64 x.2.2] 110)) _ (by simp))).1 j]
        simpa using hu
      have HN := hide hnew
      clear hnew
      go_wp2_with (first
        | (at_builtin; refine wpList_append_own _ rfl _ _ 53 rfl w2.heap.size 9 i0 z0 1 16 eStr.und hi0 hz0 hs0 hb0 hc0 (by decide) _ _ _ rfl ((HV.out.alloc _).alloc _) ⟨wr.heap.size + 1, 0, none⟩ 1 1 [strV x.1] rfl rfl HN.out (by simp [Value.oneCell']) (by unfold maxLen; omega) (by omega) (by simp; omega) ?_
           intro v' w3 hown' hg3 _
           have HO := hide hown'
           have HG := hide hg3
           obtain ⟨o', c', rfl, _, _⟩ := own_form (own_mono hown' (Nat.zero_le _))
           clear hown' hg3)
        | go_in)
      have hg' : ((wr.alloc (.cells #[strV x.1, .int .i64 x.2.1, .int .i64 x.2.2] 110)).alloc (.cells #[strV x.1] 9)).grownBy w3 u3.ownBlock := HG.out
      exact ⟨⟨k + 1, by omega, by go_num, by rw [HT.out]; exact HO.out, ((HB.out.alloc hsr _).alloc (by simp; omega) _).grown hg' (by simp; omega) (fun j hj => (HV.out.lt j hj).1)⟩, by simp [intOf]; omega⟩
    · have hkl : k = L.length := by omega
      subst hkl
      rw [List.take_of_length_le (Nat.le_refl _)] at hV
      have hV2 : wr.ownsRow w2.heap.size 9 1 u3 (L.map (·.1)).length (strC (L.map (·.1))) := by rw [List.length_map]; exact hV
      have hc := compact_any wr u3 (L.map (·.1)) hV2 (by rw [List.length_map]; exact hlenL)
      rw [compact_items] at hc
      have HV := hide hV
      clear hV hV2
      go_wp2_with fail
      refine hc.mono ?_
      rintro e w4 ⟨r4, rfl, h4, hg4⟩
      have HF := hide (own_mono h4 (base' := w.heap.size) (by omega))
      have HB4 := hide (hb2'.trans ((HB.out.grown hg4 hsr (fun j hj => (HV.out.lt j hj).1)).mono (by omega)))
      clear h4 hg4
      go_wp2_with fail
      go_ret
      exact ⟨r4, rfl, HF.out, HB4.out⟩
end Go.Proofs.YtnniimfinakioaaGreatDoor
namespace Go.Proofs.YtnniimfinakioaaGreatDoor
open Go.RowKit Go.Shelf
attribute [local go_sem] toList_nm app_nm size_nm


theorem dec_digits : ∀ i : Nat, i < 100 → Lib.decDigits i = digits i := by
  intro i hi
  by_cases h : i < 10
  · rw [Lib.decDigits, dif_pos h]
    have : ∀ i : Fin 10, [UInt8.ofNat (48 + i.val)] = digits i.val := by decide
    exact this ⟨i, h⟩
  · have hd : i / 10 < 10 := by omega
    rw [Lib.decDigits, dif_neg h, Lib.decDigits, dif_pos hd]
    have : ∀ i : Fin 100, ¬ i.val < 10 → [UInt8.ofNat (48 + i.val / 10)] ++ [UInt8.ofNat (48 + i.val % 10)] = digits i.val := by decide
    exact this ⟨i, hi⟩ h
theorem itoa_any (x : Int) (h0 : 0 ≤ x) (h1 : x < 100) (w : World) : Calls Tryz.prog 120 #[.int .i64 x] w fun e w' => e = .returned (strV (digits x.toNat)) ∧ w' = w := by
  obtain ⟨i, rfl⟩ : ∃ i : Nat, x = i := ⟨x.toNat, by omega⟩
  have h := Any.strconv_Itoa_small Tryz.laysItoa i (by omega) w
  rw [dec_digits i (by omega)] at h
  exact h

theorem itoa_val (a : Nat) {A : Nm} (w : World) (h : a < 100) (hA : digits a = A) : Calls Tryz.prog 120 #[.int .i64 (a : Int)] w fun e w' => e = .returned (strV A) ∧ Below w.heap.size w w' :=
  (itoa_any a (by omega) (by omega) w).mono fun e w' ⟨h1, h2⟩ => ⟨by rw [h1, ← hA]; rfl, by rw [h2]; exact Below.refl _ _⟩

set_option maxHeartbeats 400000 in
theorem pTokText_any (t : Tok) (w : World) (h1 : 0 ≤ t.1) (h2 : t.1 < 100) (h3 : 0 ≤ t.2) (h4 : t.2 < 100) :
    Calls Tryz.prog 82 #[tokV t] w fun e w' => e = .returned (strV (tokT t)) ∧ Below w.heap.size w w' := by
  obtain ⟨a, b⟩ := t
  dsimp only at h1 h2 h3 h4
  obtain ⟨a, rfl⟩ := Int.eq_ofNat_of_zero_le h1
  obtain ⟨b, rfl⟩ := Int.eq_ofNat_of_zero_le h3
  dsimp only [tokV]
  have l1 := digits_len a (by omega)
  have l2 := digits_len b (by omega)
  obtain ⟨A, hA⟩ : ∃ A, digits a = A := ⟨_, rfl⟩
  obtain ⟨B, hB⟩ : ∃ B, digits b = B := ⟨_, rfl⟩
  rw [hA] at l1
  rw [hB] at l2
  have HA := hide hA
  have HB := hide hB
  clear hA hB
  have hG := Grw.cell (w.alloc (.cells #[.int .i64 (a : Int), .int .i64 (b : Int)] 108))
  have hGn := Grw.some (w.alloc (.cells #[.int .i64 (a : Int), .int .i64 (b : Int)] 108))
  go_enter Tryz.func82, Tryz.ntmps82
  go_wp2_with fail
  refine wp_region_grw (by kernel_rfl) (by kernel_rfl) ?_
  repeat (go_big_quiet_step ((first | (go_at_call_of 120 (Value.int IntKind.i64 (a : Int)); exact Calls.grw_of (itoa_val a _ (by omega) HA.out)) | (go_at_call_of 120 (Value.int IntKind.i64 (b : Int)); exact Calls.grw_of (itoa_val b _ (by omega) HB.out)))))
  refine wpQuiet_nil ?_
  rintro _ ⟨y, rfl⟩
  go_wp2_with fail
  go_ret
  refine ⟨?_, ((Below.refl _ _).alloc (Nat.le_refl _) _).trans (y.h.mono (by simp))⟩
  simp [tokT, HA.out, HB.out]
end Go.Proofs.YtnniimfinakioaaGreatDoor
namespace Go.Proofs.YtnniimfinakioaaGreatDoor
open Go.RowKit Go.Shelf
attribute [local go_sem] toList_nm app_nm size_nm

theorem extraBS : Builder.Extra Tryz.prog Tryz.laysBS_ren where
  sizeBuilder := by kernel_rfl
  liesBuilder := by kernel_rfl
  t5 := Tryz.underlying5
  a5 := Tryz.isAgg5
  z5 := Tryz.sizeOf5
  v5 := Tryz.zeroValue5
  infoByte := by kernel_rfl
  cellsByte := by kernel_rfl
  sizeByte := by kernel_rfl
  neB5 := by decide

/-- A builder that holds s. -/
abbrev BuildR (w : World) (b : Nat) (s : Nm) : Prop := Lib.IsBuilderF 135 5 b b (Lib.byteCells s) w
abbrev KeptB (b : Nat) (w w' : World) : Prop := Lib.OthersKept 5 (some b) w w'
set_option maxRecDepth 100000 in
theorem copyCheck_fresh (b : Nat) (w : World) (h0 : w.cell? ⟨b, 0, none⟩ = some (.pointer none)) (hsh : w.shape? b = some (135, 2)) (hfz : w.frozen? ⟨b, 0, none⟩ = false) :
    Calls Tryz.prog 119 #[ptr b] w fun e w' => e = .returned (.tuple #[]) ∧ w' = w.setCell ⟨b, 0, none⟩ (ptr b) := by
  obtain ⟨j, hj, hjs⟩ := Option.map_eq_some_iff.1 extraBS.sizeBuilder
  go_enter Tryz.func119, Tryz.ntmps119
  go_wp2
  rw [Lib.run_to_unsafe w ⟨b, 0, none⟩ Tryz.underlying133 Tryz.underlying212 hj (by rw [hjs]; decide) hsh (Nat.zero_lt_succ 1)]
  simp only [Result.andThen]
  rw [Oper.upon_value]
  go_wp2
  rw [run_callFunc_extern Tryz.func146 (by kernel_rfl) (by kernel_rfl) (by kernel_rfl) (e := Extern.AbiNoEscape.same) (by kernel_rfl)]
  rw [Lib.run_noEscape]
  simp only [Result.andThen]
  rw [Oper.upon_value]
  go_wp2
  rw [Lib.run_from_unsafe w ⟨b, 0, none⟩ Tryz.underlying212 Tryz.underlying133 hj hsh extraBS.liesBuilder]
  simp only [Result.andThen]
  rw [Oper.upon_value]
  go_wp2
  go_end0
  exact ⟨rfl, rfl⟩
set_option maxRecDepth 100000 in
theorem copyCheck_used (b : Nat) (w : World) (h0 : w.cell? ⟨b, 0, none⟩ = some (ptr b)) :
    Calls Tryz.prog 119 #[ptr b] w fun e w' => e = .returned (.tuple #[]) ∧ w' = w := by
  obtain ⟨j, hj, _⟩ := Option.map_eq_some_iff.1 extraBS.sizeBuilder
  go_enter Tryz.func119, Tryz.ntmps119
  go_wp2
  rw [Lib.run_neq_ptr_same w _ Tryz.underlying133 hj]
  go_wp2
  go_end0
  exact ⟨rfl, rfl⟩
theorem copyCheck_any (b : Nat) (bs : List Value) (w : World) (h : Lib.IsBuilderF 135 5 b b bs w) :
    Calls Tryz.prog 119 #[ptr b] w fun e w' => e = .returned (.tuple #[]) ∧ (Lib.BuilderAtF 135 5 b b (ptr b) bs w' ∧ Below b w w' ∧ KeptB b w w') := by
  rcases h with h | h
  · refine (copyCheck_fresh b w h.cell0 h.shape h.frozen0).mono ?_
    rintro e w' ⟨rfl, rfl⟩
    exact ⟨rfl, h.used _, (Below.refl b w).setCell (p := ⟨b, 0, none⟩) h.1 _, (Lib.OthersKept.refl _ _ w).setCell ⟨b, 0, none⟩ rfl _⟩
  · refine (copyCheck_used b w h.cell0).mono ?_
    rintro e w' ⟨rfl, rfl⟩
    exact ⟨rfl, h, Below.refl b _, Lib.OthersKept.refl _ _ _⟩
theorem write_any (w : World) (b : Nat) (s t : Nm) (h : BuildR w b s) (hb : b ≤ w.heap.size) (hl : s.length + t.length ≤ 1000000) :
    Calls Tryz.prog 81 #[ptr b, strV t] w fun e w' => e = .returned (.tuple #[.int .i64 t.length, .nilIface]) ∧ BuildR w' b (s ++ t) ∧ Below b w w' ∧ KeptB b w w' := by
  obtain ⟨i0, hi, hz0, hz1, hz2⟩ := info_parts extraBS.infoByte
  have hsl : (Lib.byteCells s).length = s.length := Lib.byteCells_length s
  have htl : (ByteArray.mk t.toArray).size = t.length := size_nm t
  go_enter Tryz.func81, Tryz.ntmps81
  go_wp2_with fail
  refine (copyCheck_any b _ w h).mono ?_
  rintro e w1 ⟨rfl, h1, hb1, hk1⟩
  obtain ⟨hB, v, hbk, hown, hne⟩ := h1
  have c0 : w1.cell? ⟨b, 0, none⟩ = some (ptr b) := by rw [Lib.cell_of_heap hbk]; rfl
  have c1 : w1.cell? ⟨b, 1, none⟩ = some v := by rw [Lib.cell_of_heap hbk]; rfl
  go_wp2_with (first
    | (at_builtin; refine Lib.wpList_append_own_stringF _ rfl _ _ 122 9 rfl b 5 i0 Tryz.underlying122 Tryz.underlying9 hi hz0 hz1 hz2 _ _ _ rfl hown ⟨t.toArray⟩ rfl ?c3 ?c4 ?c5 ?_)
    | go_in)
  case c3 => unfold maxLen; omega
  case c4 => omega
  case c5 => have := hb1.size; omega
  intro v' w2 hown' hgrow _
  have hlt : b < w1.heap.size := lt_of_heap hbk
  have hb2 : w2.heap[b]? = some (.cells #[ptr b, v] 135 (0, 0)) := by
    rw [hgrow.block b hlt (fun e => hne e.symm)]
    exact hbk
  have d0 : w2.cell? ⟨b, 0, none⟩ = some (ptr b) := by rw [Lib.cell_of_heap hb2]; rfl
  have d1 : w2.cell? ⟨b, 1, none⟩ = some v := by rw [Lib.cell_of_heap hb2]; rfl
  have f1 : w2.frozen? ⟨b, 1, none⟩ = false := Lib.frozen_of_heap hb2 1
  obtain ⟨ao, n', cap, rfl⟩ : ∃ ao n' cap, v' = .slice ao n' cap := by
    rcases hown'.2 with ⟨hv, _⟩ | ⟨g, cap, cur, fz, hv, _⟩
    · exact ⟨_, _, _, hv⟩
    · exact ⟨_, _, _, hv⟩
  go_wp2
  go_ret2
  refine ⟨rfl, Or.inr ?_, ?_, (hk1.grown hgrow (Lib.ownsRowF_kind hown)).setCell ⟨b, 1, none⟩ rfl _⟩
  · rw [Lib.byteCells_append]
    exact Lib.BuilderAtF.put (T := 135) (e := 5) hB hb2 (bs' := Lib.byteCells s ++ Lib.strCells ⟨t.toArray⟩) (by rw [List.length_append, Lib.strCells_length, hsl, htl]; exact hown') extraBS.neB5
  · exact (hb1.grown hgrow (by have := hb1.size; omega) (fun k hk => (hown.lt k hk).1)).setCell (p := ⟨b, 1, none⟩) hB _
theorem bstring_any (w : World) (b : Nat) (s : Nm) (h : BuildR w b s) (hb : b ≤ w.heap.size) :
    Calls Tryz.prog 84 #[ptr b] w fun e w' => e = .returned (strV s) ∧ Below b w w' := by
  refine (Any.Builder_String_any_k Tryz.laysBS extraBS b b s w h hb).mono ?_
  rintro e w' ⟨rfl, _, h2, _⟩
  exact ⟨rfl, h2⟩
theorem row_kept {w w' : World} {b e size n : Nat} {v : Value} {xs : List Value} (h : w.ownsRow 0 e size v n xs) (k : KeptB b w w') (hb : ∀ g, v.ownBlock = some g → g ≠ b) (he : e ≠ 5) : w'.ownsRow 0 e size v n xs := by
  refine ⟨h.1, ?_⟩
  rcases h.2 with hn | ⟨g, cap, cur, rfl, hbb, hgg, rest⟩
  · exact .inl hn
  · exact .inr ⟨g, cap, cur, rfl, hbb, k g _ hgg (fun e' => hb g rfl (by cases e'; rfl)) (fun c fz e' => he (by cases e'; rfl)), rest⟩
end Go.Proofs.YtnniimfinakioaaGreatDoor
