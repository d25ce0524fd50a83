import Derived.Test.YtnniimfinakioaaGreatDoorYd
namespace Go.Proofs.YtnniimfinakioaaGreatDoor
open Go.RowKit
/-! As Flt, where the last one comes behind the light ones through up to six others. -/
section
variable {P : Program} {ops : Array Oper} {Q : Exit → Act → World → Prop} {C : World → Prop} {L : Nat}
def lightsC (ops : Array Oper) (L : Nat) : Array Bool → List Nat → List Nat → Bool
  | listed, [], rs => chainB ops L listed rs
  | listed, i :: r, rs => (match ops[i]? with | some o => lightOp o.op | none => false) && Region.free .any ops listed i && (Region.ready .any ops listed).contains i && heldB ops listed i 6 L && (L != i) && !(listed.getD L true) && lightsC ops L (listed.setIfInBounds i true) r rs

theorem wpC_of_quietC {l : List Oper} (hs : Region.noSelect l.toArray = true) (hQ : ∀ (c : List PanicEntry) (a : Act) (d : Option Tmp) (v : Value) (w : World), Q (.panic c) (a.put d v) w → Q (.panic c) a w) (w : World) (hC : C w) (rs : List Nat) :
    ∀ (ls : List Nat) (listed : Array Bool) (a : Act), lightsC l.toArray L listed ls rs = true →
      wpQuiet P l.toArray C (fun a' => wpFin P l.toArray Q C rs a' w) (pickOps l ls) a → wpC P l.toArray Q C L (ls.length + rs.length) listed a w := by
  intro ls
  induction ls with
  | nil =>
    intro listed a hB h
    simp only [List.length_nil, Nat.zero_add]
    exact wpC_of_fin rs listed a w hB (fun _ => hC) h
  | cons i r ih =>
    intro listed a hB h
    simp only [lightsC, Bool.and_eq_true, Bool.not_eq_true', bne_iff_ne, ne_eq] at hB
    obtain ⟨⟨⟨⟨⟨⟨h1, h2⟩, h3⟩, h4⟩, h5⟩, h6⟩, h7⟩ := hB
    cases ho : l.toArray[i]? with
    | none => rw [ho] at h1; cases h1
    | some o =>
      rw [ho] at h1
      have ho' : l[i]? = some o := by simpa using ho
      simp only [pickOps, ho'] at h
      rw [show (i :: r).length + rs.length = (r.length + rs.length) + 1 by simp; omega]
      unfold wpQuiet at h
      by_cases hw : Region.wanted o (yielded l.toArray a.tmps) = true
      · rw [if_pos hw] at h
        obtain ⟨v, hv, hn⟩ := h
        exact wpC_first ho (Region.noSelect_spec hs) (fun c a w => hQ c a o.dst v w) h5 _ listed a w (Region.free_spec ho h2) (by simpa using h3) (heldB_spec 6 L h4) h6 (yields_of_quiet h1 hw hv) hC (ih _ _ h7 hn)
      · rw [if_neg hw] at h
        exact wpC_first ho (Region.noSelect_spec hs) (fun c a w => hQ c a o.dst undef w) h5 _ listed a w (Region.free_spec ho h2) (by simpa using h3) (heldB_spec 6 L h4) h6 (.inr ⟨by simpa using hw, rfl⟩) hC (ih _ _ h7 h)

def fltC (ops : Array Oper) (ls rs : List Nat) : Bool := Region.noSelect ops && lightsC ops (rs.getLastD 0) (Array.replicate ops.size false) ls rs && (ls.length + rs.length == ops.size)

theorem wp_region_fltC {id : Nat} {l : List Oper} {a : Act} {w : World} (ls rs : List Nat) (C : World → Prop) (hm : P.follows .mixedOrders = true) (hB : fltC l.toArray ls rs = true)
    (hQ : ∀ (c : List PanicEntry) (a : Act) (d : Option Tmp) (v : Value) (w : World), Q (.panic c) (a.put d v) w → Q (.panic c) a w) (hC : C w.drew)
    (h : wpQuiet P l.toArray C (fun a' => wpFin P l.toArray Q C rs a' w.drew) (pickOps l ls) a) : (Code.region id l.toArray true).wp P Q a w := by
  simp only [fltC, Bool.and_eq_true, beq_iff_eq] at hB
  obtain ⟨⟨h1, h2⟩, h3⟩ := hB
  refine wp_region_any hm (wpAny_of_wpC (C := C) (L := rs.getLastD 0) _ _ _ _ ?_)
  have := wpC_of_quietC h1 hQ w.drew hC rs ls _ a h2 h
  rw [h3] at this
  exact this
end
end Go.Proofs.YtnniimfinakioaaGreatDoor
namespace Go.Proofs.YtnniimfinakioaaGreatDoor
open Go.RowKit Go.Shelf
attribute [local go_sem] toList_nm app_nm size_nm

theorem BuildR.below {w w' : World} {b : Nat} {s : Nm} (h : BuildR w b s) (k : Below w.heap.size w w') : BuildR w' b s := by
  have one : ∀ p, Lib.BuilderAtF 135 5 b b p (Lib.byteCells s) w → Lib.BuilderAtF 135 5 b b p (Lib.byteCells s) w' := by
    rintro p ⟨h1, v, h2, h3, h4⟩
    exact ⟨h1, v, (k.block b (lt_of_heap h2)).trans h2, h3.kept (row := none) ⟨k.os, k.tape, k.output, k.size, fun j hj _ => k.block j hj⟩ (by cases v.ownBlock <;> simp), h4⟩
  exact h.elim (fun h => Or.inl (one _ h)) (fun h => Or.inr (one _ h))
/-- Tokens below a hundred. -/
def TokS (t : Tok) : Prop := 0 ≤ t.1 ∧ t.1 < 100 ∧ 0 ≤ t.2 ∧ t.2 < 100
theorem TokS.ok {t : Tok} (h : TokS t) : TokOk t := ⟨h.1, by have := h.2.1; omega, h.2.2.1, by have := h.2.2.2; omega⟩
theorem tokText_val (t : Tok) (w : World) (h : TokS t) {s : Nm} (hs : tokT t = s) : Calls Tryz.prog 82 #[tokV t] w fun e w' => e = .returned (strV s) ∧ Below w.heap.size w w' := by
  rw [← hs]
  exact pTokText_any t w h.1 h.2.1 h.2.2.1 h.2.2.2

set_option maxHeartbeats 4000000 in
set_option maxRecDepth 100000 in
theorem pieceText_any (w : World) (vE vK : Value) (ks L : List Ent) (kt K : List Tok) (h : MapV entV w vE ks) (hp : ks.Perm L) (hL : L.Pairwise fun a b => aheadB a b = true)
    (hk : MapV tokV w vK kt) (hkp : kt.Perm K) (hK : K.Pairwise fun a b => beforeB a b = true) (hN : L.length ≤ 1000) (hM : K.length ≤ 1000) (hE : ∀ e ∈ L, e.1.length ≤ 8 ∧ TokS e.2) (hT : ∀ t ∈ K, TokS t) :
    Calls Tryz.prog 48 #[.agg #[vE, vK]] w fun e w' => e = .returned (strV (pieceT L K)) ∧ Below w.heap.size w w' := by
  have hks : ks.length ≤ 1000000 := by have := hp.length_eq; omega
  have hkt : kt.length ≤ 1000000 := by have := hkp.length_eq; omega
  have lenE : ∀ k, k ≤ L.length → ((L.take k).foldl entT []).length ≤ 30000 := fun k _ => by
    have := entT_len (L.take k) (fun e he => ⟨(hE e (List.mem_of_mem_take he)).1, (hE e (List.mem_of_mem_take he)).2.ok⟩) []
    simp at this
    omega
  have lenT : ∀ (s : Nm) k, k ≤ K.length → ((K.take k).foldl tkT s).length ≤ s.length + 30000 := fun s k _ => by
    have := tkT_len (K.take k) (fun t ht => (hT t (List.mem_of_mem_take ht)).ok) s
    simp at this
    omega
  obtain ⟨W0, hW0⟩ : ∃ W0, (w.alloc (.cells #[vE, vK] 90)).alloc (.cells #[.pointer none, .slice none 0 0] 135) = W0 := ⟨_, rfl⟩
  have hb0 : Below w.heap.size w W0 := by rw [← hW0]; exact below2 w _ _
  have bx : W0.heap[w.heap.size]? = some (.cells #[vE, vK] 90) := by rw [← hW0]; exact alloc_at (new_at _ _ rfl) _
  have bB : W0.heap[w.heap.size + 1]? = some (.cells #[.pointer none, .slice none 0 0] 135) := by rw [← hW0]; exact new_at _ _ (by simp)
  have hs0 : W0.heap.size = w.heap.size + 2 := by rw [← hW0]; simp
  have hBR : BuildR W0 (w.heap.size + 1) [] := Or.inl ⟨Nat.le_refl _, _, bB, World.ownsRowF_nil .., by simp [Value.ownBlock]⟩
  have hEn := entries_any W0 vE vK ks L (h.below hb0 fun _ hb => h.lt hb) hp hL hks
  have hk0 : MapV tokV W0 vK kt := hk.below hb0 fun _ hb => hk.lt hb
  have hklt := fun b hb => hk.lt (b := b) hb
  obtain ⟨p0, p1, _⟩ := cells_at bx
  clear h hp hk
  go_enter Tryz.func48, Tryz.ntmps48
  go_wp2_with fail
  clear hW0
  refine hEn.mono ?_
  rintro e w2 ⟨r, rfl, hr, hb2⟩
  have hR : PEntR w2 r L := own_mono hr (Nat.zero_le _)
  have hrb : ∀ g, r.ownBlock = some g → g ≠ w.heap.size + 1 := fun g hg => by have := (hr.lt g hg).1; omega
  obtain ⟨o, c, rfl, hc1, hc2⟩ := hR.form
  have hB2 := hBR.below hb2
  have HB2 := hide hB2
  have HR := hide hR
  have HBW := hide hb2
  clear hEn hr hb2 hR hB2 hBR hc1 hc2 p0 p1 bB
  go_wp2_with fail
  go_loopw [11] (fun i wr => ∃ k : Nat, k ≤ L.length ∧ i = .int .i64 k ∧ BuildR wr (w.heap.size + 1) ((L.take k).foldl entT []) ∧ PEntR wr (.slice o L.length c) L ∧ Below (w.heap.size + 1) W0 wr ∧ W0.heap.size ≤ wr.heap.size) (fun i _ => L.length - (intOf i).toNat)
  case atStart => exact ⟨0, Nat.zero_le _, rfl, HB2.out, HR.out, HBW.out.mono (by omega), HBW.out.size⟩
  case round =>
    obtain ⟨k, hk, rfl, hB, hR, hbel, hsz⟩ := hrel
    by_cases hlt : k < L.length
    · obtain ⟨x, hx⟩ := get_some hlt
      obtain ⟨hx8, hxS⟩ := hE x (List.mem_of_getElem? hx)
      obtain ⟨g, rfl, hg, c1, c2, c3⟩ := hR.at hx
      have hfo := foldl_take entT [] L k x hx
      have hsl := lenE k hk
      obtain ⟨T, hTt⟩ : ∃ T, tokT x.2 = T := ⟨_, rfl⟩
      have hTl : T.length ≤ 20 := by rw [← hTt]; exact hxS.ok.len
      obtain ⟨s0, hs0'⟩ : ∃ s0, (L.take k).foldl entT [] = s0 := ⟨_, rfl⟩
      rw [hs0'] at hfo hsl hB
      have hfo' : (L.take (k + 1)).foldl entT [] = s0 ++ (x.1 ++ ([58] ++ (T ++ [32]))) := by rw [hfo, entT, hTt]
      have HFO := hide hfo'
      have HTt := hide hTt
      have HB := hide hB
      have HR := hide hR
      have HBW := hide hbel
      clear hfo hfo' hTt hB hR hbel hx hs0' lenE lenT hE hT hK hL hkp
      go_wp2_with fail
      have q0 := heap_alloc_new wr (.cells #[strV x.1, .int .i64 x.2.1, .int .i64 x.2.2] 110)
      have hb3 : Below wr.heap.size wr (wr.alloc (.cells #[strV x.1, .int .i64 x.2.1, .int .i64 x.2.2] 110)) := (Below.refl _ _).alloc (Nat.le_refl _) _
      have hs3 : (wr.alloc (.cells #[strV x.1, .int .i64 x.2.1, .int .i64 x.2.2] 110)).heap.size = wr.heap.size + 1 := by simp
      have HB3 := hide hb3
      clear hb3
      generalize wr.alloc (.cells #[strV x.1, .int .i64 x.2.1, .int .i64 x.2.2] 110) = w3 at *
      obtain ⟨e1, _⟩ := row_facts q0
      have d1 := e1 0
      have d2 := e1 1
      have d3 := e1 2
      simp only [List.getElem?_toArray, List.getElem?_cons_succ, List.getElem?_cons_zero] at d1 d2 d3
      have z1 := lt_of_heap q0
      clear e1 q0 c1 c2 c3 bx
      have hG := Grw.cell w3
      have hGn := Grw.some w3
      refine wp_region_fltC [0, 1, 2, 3, 4] [5, 6, 7, 8] (fun w' => ∃ x : Grw w3, w' = x.w) (by kernel_rfl) (by kernel_rfl) (fun _ _ d _ _ h => by cases d <;> exact h) ⟨⟨w3.drew, (Below.refl _ _).drew⟩, rfl⟩ ?_
      simp only [pickOps, List.getElem?_cons_zero, List.getElem?_cons_succ]
      repeat (go_big_quiet_step (fail))
      refine wpQuiet_nil ?_
      refine ⟨_, rfl, ?_⟩
      go_wp2_with fail
      refine (tokText_val x.2 w3.drew hxS HTt.out).mono ?_
      rintro e w4 ⟨rfl, hb4⟩
      have hb4' : Below w3.heap.size w3 w4 := ⟨hb4.os, hb4.tape, hb4.output, hb4.size, hb4.block⟩
      clear hG hGn
      go_wp2_with fail
      refine ⟨fun _ => ⟨⟨w4, hb4'⟩, rfl⟩, _, rfl, ?_⟩
      go_wp2_with fail
      refine ⟨fun _ => ⟨⟨w4, hb4'⟩, rfl⟩, _, rfl, ?_⟩
      go_wp2_with fail
      refine ⟨fun _ => ⟨⟨w4, hb4'⟩, rfl⟩, _, rfl, ?_⟩
      go_wp2_with fail
      have hB4 := (HB.out.below HB3.out).below hb4'
      have hR4 : PEntR w4 (.slice (some ⟨g, 0, none⟩) L.length c) L := (HR.out.below HB3.out).below hb4'
      have hs4 := hb4'.size
      have hlen2 : s0.length + (x.1 ++ 58 :: (T ++ [32])).length ≤ 1000000 := by simp; omega
      refine (write_any w4 (w.heap.size + 1) s0 (x.1 ++ 58 :: (T ++ [32])) hB4 (by omega) hlen2).mono ?_
      rintro e w5 ⟨rfl, hB5, hb5, hk5⟩
      have HR5 := hide (show PEntR w5 (.slice (some ⟨g, 0, none⟩) L.length c) L from row_kept hR4 hk5 hrb (by decide))
      have HB5 := hide hB5
      have hs5 := hb5.size
      have HBW5 := hide (((HBW.out.trans (HB3.out.mono (by omega))).trans (hb4'.mono (by omega))).trans hb5)
      clear hB5 hb5 hk5 hB4 hR4 hb4 hb4'
      go_wp2_with fail
      refine ⟨fun h => absurd rfl h, ?_⟩
      unfold wpFin
      go_wp2_with fail
      refine ⟨⟨k + 1, by omega, by go_num, ?_, HR5.out, HBW5.out, by omega⟩, by simp [intOf]; omega⟩
      rw [HFO.out]
      exact HB5.out
    · have hkl : k = L.length := by omega
      subst hkl
      rw [List.take_of_length_le (Nat.le_refl _)] at hB
      have hsl := lenE L.length (Nat.le_refl _)
      rw [List.take_of_length_le (Nat.le_refl _)] at hsl
      obtain ⟨s1, hs1⟩ : ∃ s1, L.foldl entT [] = s1 := ⟨_, rfl⟩
      have hPT : pieceT L K = K.foldl tkT (s1 ++ [124]) := by rw [pieceT, hs1]
      rw [hs1] at hB hsl
      have HPT := hide hPT
      have hW := write_any wr (w.heap.size + 1) s1 [124] hB (by omega) (by simp; omega)
      clear hB hR hs1 hPT lenE hE hL HB2 HR HBW
      go_wp2_with fail
      refine hW.mono ?_
      rintro e w6 ⟨rfl, hB6, hb6, hk6⟩
      have hb6' : Below (w.heap.size + 1) W0 w6 := hbel.trans hb6
      have hs6 := hb6.size
      have bx6 := (hb6'.block w.heap.size (by omega)).trans bx
      obtain ⟨p0, p1, _⟩ := cells_at bx6
      have hKn := known_any w6 vE vK kt K (hk0.below hb6' fun b hb => by have := hklt b hb; omega) hkp hK hkt
      have HB6 := hide hB6
      have HBW6 := hide hb6'
      clear hW hB6 hb6 hk6 hb6' bx6 bx hbel
      go_wp2_with fail
      refine hKn.mono ?_
      rintro e w7 ⟨r7, rfl, hr7, hb7⟩
      have hR7 : PTokR w7 r7 K := own_mono hr7 (Nat.zero_le _)
      have hrb7 : ∀ g, r7.ownBlock = some g → g ≠ w.heap.size + 1 := fun g hg => by have := (hr7.lt g hg).1; omega
      obtain ⟨o7, c7, rfl, hc1, hc2⟩ := hR7.form
      have HB7 := hide (HB6.out.below hb7)
      have HR7 := hide hR7
      have HBW7 := hide (HBW6.out.trans (hb7.mono (by omega)))
      have hs7 := hb7.size
      clear hKn hr7 hb7 hR7 hc1 hc2 p0 p1
      go_wp2_with fail
      go_loopw [29] (fun i wr => ∃ k : Nat, k ≤ K.length ∧ i = .int .i64 k ∧ BuildR wr (w.heap.size + 1) ((K.take k).foldl tkT (s1 ++ [124])) ∧ PTokR wr (.slice o7 K.length c7) K ∧ Below (w.heap.size + 1) W0 wr ∧ W0.heap.size ≤ wr.heap.size) (fun i _ => K.length - (intOf i).toNat)
      case atStart => exact ⟨0, Nat.zero_le _, rfl, HB7.out, HR7.out, HBW7.out, by omega⟩
      case round =>
        obtain ⟨k, hk, rfl, hB, hR, hbel, hsz⟩ := hrel
        by_cases hlt : k < K.length
        · obtain ⟨x, hx⟩ := get_some hlt
          have hxS := hT x (List.mem_of_getElem? hx)
          obtain ⟨g, rfl, hg, c1, c2⟩ := hR.at hx
          have hfo := foldl_take tkT (s1 ++ [124]) K k x hx
          have hsl2 := lenT (s1 ++ [124]) k hk
          simp only [List.length_append, List.length_cons, List.length_nil] at hsl2
          obtain ⟨T, hTt⟩ : ∃ T, tokT x = T := ⟨_, rfl⟩
          have hTl : T.length ≤ 20 := by rw [← hTt]; exact hxS.ok.len
          obtain ⟨s0, hs0'⟩ : ∃ s0, (K.take k).foldl tkT (s1 ++ [124]) = s0 := ⟨_, rfl⟩
          rw [hs0'] at hfo hsl2 hB
          have hfo' : (K.take (k + 1)).foldl tkT (s1 ++ [124]) = s0 ++ ([32] ++ T) := by rw [hfo, tkT, hTt]
          have HFO := hide hfo'
          have hb3 : Below wr.heap.size wr (wr.alloc (.cells #[.int .i64 x.1, .int .i64 x.2] 108)) := (Below.refl _ _).alloc (Nat.le_refl _) _
          have hs3 : (wr.alloc (.cells #[.int .i64 x.1, .int .i64 x.2] 108)).heap.size = wr.heap.size + 1 := by simp
          have hTx := tokText_val x (wr.alloc (.cells #[.int .i64 x.1, .int .i64 x.2] 108)) hxS hTt
          have HB := hide hB
          have HR := hide hR
          have HBW := hide hbel
          have HB3 := hide hb3
          clear hfo hfo' hTt hB hR hbel hx hs0' lenT hT hb3 HB6 HBW6 HB7 HR7 HBW7
          go_wp2_with fail
          refine hTx.mono ?_
          rintro e w4 ⟨rfl, hb4⟩
          have hB4 := (HB.out.below HB3.out).below hb4
          have hR4 : PTokR w4 (.slice (some ⟨g, 0, none⟩) K.length c7) K := (HR.out.below HB3.out).below hb4
          have hs4 := hb4.size
          have hlen2 : s0.length + (32 :: T).length ≤ 1000000 := by simp; omega
          have hW2 := write_any w4 (w.heap.size + 1) s0 (32 :: T) hB4 (by omega) hlen2
          clear hTx
          go_wp2_with fail
          refine hW2.mono ?_
          rintro e w5 ⟨rfl, hB5, hb5, hk5⟩
          have HR5 := hide (show PTokR w5 (.slice (some ⟨g, 0, none⟩) K.length c7) K from row_kept hR4 hk5 hrb7 (by decide))
          have HB5 := hide hB5
          have hs5 := hb5.size
          have HBW5 := hide (((HBW.out.trans (HB3.out.mono (by omega))).trans (hb4.mono (by omega))).trans hb5)
          clear hB5 hb5 hk5 hB4 hR4 hb4 hW2
          go_wp2_with fail
          refine ⟨⟨k + 1, by omega, by go_num, ?_, HR5.out, HBW5.out, by omega⟩, by simp [intOf]; omega⟩
          rw [HFO.out]
          exact HB5.out
        · have hkl : k = K.length := by omega
          subst hkl
          rw [List.take_of_length_le (Nat.le_refl _)] at hB
          have hS := bstring_any wr (w.heap.size + 1) _ hB (by omega)
          have HBW := hide hbel
          clear hB hR hbel
          go_wp2_with fail
          refine hS.mono ?_
          rintro e w9 ⟨rfl, hb9⟩
          have HB9 := hide (hb0.trans ((HBW.out.trans hb9).mono (by omega)))
          clear hb9 hS
          go_wp2_with fail
          go_ret
          exact ⟨by rw [HPT.out]; rfl, HB9.out⟩
end Go.Proofs.YtnniimfinakioaaGreatDoor
