import Derived.Test.YtnniimfinakioaaGreatDoorXc
namespace Go.Proofs.YtnniimfinakioaaGreatDoor
open Go.RowKit
attribute [local go_sem ↓] eqTok eqEnt
attribute [local go_sem] toList_nm app_nm size_nm


set_option maxHeartbeats 400000 in
theorem add_arg (w : World) (S : Nat → Prop) (p : Nat) (vN : Value) (ns : List NS) (vF : Value) (ms : List MS) (adds : Nat) (h : RefR w S p vN ns vF ms adds) (hl : ns.length ≤ 1000) (i : Int) (hi : i < 0 ∨ (ns.length : Int) ≤ i) (s : Nm) (hs2 : s.length ≤ 2000000) : Calls Tryz.prog 107 #[ptr p, .int .i64 i, strV s] w fun e w' => e = .returned (err 1) ∧ w = w' := by
  go_enter Tryz.func107, Tryz.ntmps107
  go_wp2_with fail
  refine (is_no w S p vN ns vF ms adds h i hi hl).mono ?_
  rintro e w' ⟨rfl, rfl⟩
  go_wp2_with fail
  refine (isName_any s w hs2).mono ?_
  rintro e w' ⟨rfl, rfl⟩
  go_wp2_with fail
  go_ret
  exact ⟨rfl, rfl⟩
set_option maxHeartbeats 400000 in
theorem add_name (w : World) (S : Nat → Prop) (p : Nat) (vN : Value) (ns : List NS) (vF : Value) (ms : List MS) (adds : Nat) (h : RefR w S p vN ns vF ms adds) (hl : ns.length ≤ 1000) (i : Nat) (hi : i < ns.length) (s : Nm) (hs2 : s.length ≤ 2000000) (hs : nameB s = false) : Calls Tryz.prog 107 #[ptr p, .int .i64 i, strV s] w fun e w' => e = .returned (err 2) ∧ w = w' := by
  have Hs := hide hs
  clear hs
  go_enter Tryz.func107, Tryz.ntmps107
  go_wp2_with fail
  refine (is_yes w S p vN ns vF ms adds h i hi hl).mono ?_
  rintro e w' ⟨rfl, rfl⟩
  go_wp2_with fail
  refine (isName_any s w hs2).mono ?_
  rintro e w' ⟨rfl, rfl⟩
  rw [Hs.out]
  go_wp2_with fail
  go_ret
  exact ⟨rfl, rfl⟩
set_option maxHeartbeats 400000 in
theorem add_full (w : World) (S : Nat → Prop) (p : Nat) (vN : Value) (ns : List NS) (vF : Value) (ms : List MS) (adds : Nat) (h : RefR w S p vN ns vF ms adds) (hl : ns.length ≤ 1000) (i : Nat) (hi : i < ns.length) (s : Nm) (hs2 : s.length ≤ 2000000) (hs : nameB s = true) (ha : 30 ≤ adds) (ha2 : adds ≤ 1000000) : Calls Tryz.prog 107 #[ptr p, .int .i64 i, strV s] w fun e w' => e = .returned (err 4) ∧ w = w' := by
  have Hs := hide hs
  clear hs
  obtain ⟨e1, f1⟩ := row_facts h.self
  go_enter Tryz.func107, Tryz.ntmps107
  go_wp2_with fail
  refine (is_yes w S p vN ns vF ms adds h i hi hl).mono ?_
  rintro e w' ⟨rfl, rfl⟩
  go_wp2_with fail
  refine (isName_any s w hs2).mono ?_
  rintro e w' ⟨rfl, rfl⟩
  rw [Hs.out]
  go_wp2_with fail
  go_ret
  exact ⟨rfl, rfl⟩
set_option maxHeartbeats 400000 in
theorem remove_arg (w : World) (S : Nat → Prop) (p : Nat) (vN : Value) (ns : List NS) (vF : Value) (ms : List MS) (adds : Nat) (h : RefR w S p vN ns vF ms adds) (hl : ns.length ≤ 1000) (i : Int) (hi : i < 0 ∨ (ns.length : Int) ≤ i) (s : Nm) (hs2 : s.length ≤ 2000000) : Calls Tryz.prog 108 #[ptr p, .int .i64 i, strV s] w fun e w' => e = .returned (err 1) ∧ w = w' := by
  go_enter Tryz.func108, Tryz.ntmps108
  go_wp2_with fail
  refine (is_no w S p vN ns vF ms adds h i hi hl).mono ?_
  rintro e w' ⟨rfl, rfl⟩
  go_wp2_with fail
  refine (isName_any s w hs2).mono ?_
  rintro e w' ⟨rfl, rfl⟩
  go_wp2_with fail
  go_ret
  exact ⟨rfl, rfl⟩
set_option maxHeartbeats 400000 in
theorem remove_name (w : World) (S : Nat → Prop) (p : Nat) (vN : Value) (ns : List NS) (vF : Value) (ms : List MS) (adds : Nat) (h : RefR w S p vN ns vF ms adds) (hl : ns.length ≤ 1000) (i : Nat) (hi : i < ns.length) (s : Nm) (hs2 : s.length ≤ 2000000) (hs : nameB s = false) : Calls Tryz.prog 108 #[ptr p, .int .i64 i, strV s] w fun e w' => e = .returned (err 2) ∧ w = w' := by
  have Hs := hide hs
  clear hs
  go_enter Tryz.func108, Tryz.ntmps108
  go_wp2_with fail
  refine (is_yes w S p vN ns vF ms adds h i hi hl).mono ?_
  rintro e w' ⟨rfl, rfl⟩
  go_wp2_with fail
  refine (isName_any s w hs2).mono ?_
  rintro e w' ⟨rfl, rfl⟩
  rw [Hs.out]
  go_wp2_with fail
  go_ret
  exact ⟨rfl, rfl⟩
set_option maxHeartbeats 400000 in
theorem remove_none (w : World) (S : Nat → Prop) (p : Nat) (vN : Value) (ns : List NS) (vF : Value) (ms : List MS) (adds : Nat) (h : RefR w S p vN ns vF ms adds) (hl : ns.length ≤ 1000) (i : Nat) (d : NS) (hd : ns[i]? = some d) (hdp : SmallP d.p) (s : Nm) (hs2 : s.length ≤ 2000000) (hs : nameB s = true) (hn : named s d.p.L = []) : Calls Tryz.prog 108 #[ptr p, .int .i64 i, strV s] w fun e w' => e = .returned (err 3) ∧ Below w.heap.size w w' := by
  have hi : i < ns.length := (List.getElem?_eq_some_iff.1 hd).1
  have hn0 : (((named s d.p.L).length : Int) == 0) = true := by rw [hn]; rfl
  have Hs := hide hs
  have Hn := hide hn
  clear hs hn
  go_enter Tryz.func108, Tryz.ntmps108
  go_wp2_with fail
  refine (is_yes w S p vN ns vF ms adds h i hi hl).mono ?_
  rintro e w' ⟨rfl, rfl⟩
  go_wp2_with fail
  refine (isName_any s w hs2).mono ?_
  rintro e w' ⟨rfl, rfl⟩
  rw [Hs.out]
  go_wp2_with fail
  refine (of_name w S p vN ns vF ms adds h i d hd s hdp).mono ?_
  rintro e w1 ⟨vK, rfl, hK, hnK, hb⟩
  obtain ⟨oK, cK, rfl, _, _⟩ := hK.form
  go_wp2_with fail
  go_ret
  exact ⟨rfl, hb.alloc hb.size _⟩
set_option maxHeartbeats 400000 in
theorem clear_arg (w : World) (S : Nat → Prop) (p : Nat) (vN : Value) (ns : List NS) (vF : Value) (ms : List MS) (adds : Nat) (h : RefR w S p vN ns vF ms adds) (hl : ns.length ≤ 1000) (i : Int) (hi : i < 0 ∨ (ns.length : Int) ≤ i) : Calls Tryz.prog 109 #[ptr p, .int .i64 i] w fun e w' => e = .returned (err 1) ∧ w = w' := by
  go_enter Tryz.func109, Tryz.ntmps109
  go_wp2_with fail
  refine (is_no w S p vN ns vF ms adds h i hi hl).mono ?_
  rintro e w' ⟨rfl, rfl⟩
  go_wp2_with fail
  go_ret
  exact ⟨rfl, rfl⟩
set_option maxHeartbeats 400000 in
theorem clear_none (w : World) (S : Nat → Prop) (p : Nat) (vN : Value) (ns : List NS) (vF : Value) (ms : List MS) (adds : Nat) (h : RefR w S p vN ns vF ms adds) (hl : ns.length ≤ 1000) (i : Nat) (d : NS) (hd : ns[i]? = some d) (hdp : SmallP d.p) (hn : d.p.L = []) : Calls Tryz.prog 109 #[ptr p, .int .i64 i] w fun e w' => e = .returned (err 3) ∧ Below w.heap.size w w' := by
  have hi : i < ns.length := (List.getElem?_eq_some_iff.1 hd).1
  have hn0 : ((d.p.L.length : Int) == 0) = true := by rw [hn]; rfl
  have Hn := hide hn
  clear hn
  go_enter Tryz.func109, Tryz.ntmps109
  go_wp2_with fail
  refine (is_yes w S p vN ns vF ms adds h i hi hl).mono ?_
  rintro e w' ⟨rfl, rfl⟩
  go_wp2_with fail
  refine (of_all w S p vN ns vF ms adds h i d hd [] hdp).mono ?_
  rintro e w1 ⟨vK, rfl, hK, hnK, hb⟩
  obtain ⟨oK, cK, rfl, _, _⟩ := hK.form
  go_wp2_with fail
  go_ret
  exact ⟨rfl, hb.alloc hb.size _⟩
set_option maxHeartbeats 400000 in
theorem text_arg (w : World) (S : Nat → Prop) (p : Nat) (vN : Value) (ns : List NS) (vF : Value) (ms : List MS) (adds : Nat) (h : RefR w S p vN ns vF ms adds) (hl : ns.length ≤ 1000) (i : Int) (hi : i < 0 ∨ (ns.length : Int) ≤ i) : Calls Tryz.prog 100 #[ptr p, .int .i64 i] w fun e w' => e = .returned (.tuple #[strV [], err 1]) ∧ w = w' := by
  go_enter Tryz.func100, Tryz.ntmps100
  go_wp2_with fail
  refine (is_no w S p vN ns vF ms adds h i hi hl).mono ?_
  rintro e w' ⟨rfl, rfl⟩
  go_wp2_with fail
  go_ret2
  exact ⟨rfl, rfl⟩
set_option maxHeartbeats 400000 in
theorem text_ok (w : World) (S : Nat → Prop) (p : Nat) (vN : Value) (ns : List NS) (vF : Value) (ms : List MS) (adds : Nat) (h : RefR w S p vN ns vF ms adds) (hl : ns.length ≤ 1000) (i : Nat) (d : NS) (hd : ns[i]? = some d) (hdp : SmallP d.p) (h3 : ∀ e ∈ d.p.L, EntOk e) (h4 : ∀ t ∈ d.p.K, TokOk t) : Calls Tryz.prog 100 #[ptr p, .int .i64 i] w fun e w' => e = .returned (.tuple #[strV (pieceT d.p.L d.p.K), err 0]) ∧ Below w.heap.size w w' := by
  have hi : i < ns.length := (List.getElem?_eq_some_iff.1 hd).1
  obtain ⟨g, c, rfl, hSg, hg, hgp, hcell, hfz⟩ := h.at hd
  obtain ⟨e1, f1⟩ := row_facts h.self
  have hnd := h.node d (List.mem_of_getElem? hd)
  have c0 := hcell 0 (by decide)
  have c1 := hcell 1 (by decide)
  simp only [nsC, List.getElem?_cons_zero, List.getElem?_cons_succ, Nat.add_zero] at c0 c1
  clear hcell hfz
  have H3 := hide h3
  have H4 := hide h4
  clear h3 h4
  go_enter Tryz.func100, Tryz.ntmps100
  go_wp2_with fail
  refine (is_yes w S p _ ns vF ms adds h i hi hl).mono ?_
  rintro e w' ⟨rfl, rfl⟩
  go_wp2_with fail
  refine (ptext_any _ _ d.p.L d.p.K w hnd.pc.L hnd.pc.K hdp.1 hdp.2 H3.out H4.out).mono ?_
  rintro e w1 ⟨rfl, hb⟩
  go_wp2_with fail
  go_ret2
  exact ⟨rfl, hb⟩
set_option maxHeartbeats 400000 in
theorem items_arg (w : World) (S : Nat → Prop) (p : Nat) (vN : Value) (ns : List NS) (vF : Value) (ms : List MS) (adds : Nat) (h : RefR w S p vN ns vF ms adds) (hl : ns.length ≤ 1000) (i : Int) (hi : i < 0 ∨ (ns.length : Int) ≤ i) : Calls Tryz.prog 97 #[ptr p, .int .i64 i] w fun e w' => e = .returned (.tuple #[.slice none 0 0, err 1]) ∧ w = w' := by
  go_enter Tryz.func97, Tryz.ntmps97
  go_wp2_with fail
  refine (is_no w S p vN ns vF ms adds h i hi hl).mono ?_
  rintro e w' ⟨rfl, rfl⟩
  go_wp2_with fail
  go_ret2
  exact ⟨rfl, rfl⟩
end Go.Proofs.YtnniimfinakioaaGreatDoor
namespace Go.Proofs.YtnniimfinakioaaGreatDoor
open Go.RowKit
attribute [local go_sem ↓] eqTok eqEnt
attribute [local go_sem] toList_nm app_nm size_nm

def strC (l : List Nm) : List Value := l.map fun s => strV s
def StrR (w : World) (v : Value) (l : List Nm) : Prop := w.ownsRow 0 9 1 v l.length (strC l)
def IntR (w : World) (v : Value) (l : List Int) : Prop := w.ownsRow 0 3 1 v l.length (l.map fun n => .int .i64 n)
theorem StrR.form {w : World} {v : Value} {l : List Nm} (h : StrR w v l) : ∃ o c, v = .slice o l.length c ∧ l.length ≤ c ∧ c ≤ maxLen := own_form h
theorem IntR.form {w : World} {v : Value} {l : List Int} (h : IntR w v l) : ∃ o c, v = .slice o l.length c ∧ l.length ≤ c ∧ c ≤ maxLen := own_form h
theorem StrR.below {w w' : World} {v : Value} {l : List Nm} (h : StrR w v l) (k : Below w.heap.size w w') : StrR w' v l := own_below h k
theorem IntR.below {w w' : World} {v : Value} {l : List Int} (h : IntR w v l) (k : Below w.heap.size w w') : IntR w' v l := own_below h k

/-- One cell of a row whose elements take one cell each. -/
theorem own1_at {w : World} {e n c : Nat} {o : Option Addr} {xs : List Value} (h : w.ownsRow 0 e 1 (.slice o n c) n xs) {k : Nat} {u : Value} (hk : xs[k]? = some u) :
    ∃ g, o = some ⟨g, 0, none⟩ ∧ g < w.heap.size ∧ w.cell? ⟨g, k, none⟩ = some u ∧ w.frozen? ⟨g, k, none⟩ = false := by
  have hk' : k < xs.length := (List.getElem?_eq_some_iff.1 hk).1
  have hl := h.1
  rcases h.2 with ⟨hx, h0⟩ | ⟨g, cap, cur, hx, hb, hgg, h1, h2, h3, h4⟩
  · omega
  · simp only [Value.slice.injEq] at hx
    obtain ⟨rfl, _, rfl⟩ := hx
    exact ⟨g, rfl, lt_of_heap hgg, own_cell h rfl hk, (row_facts hgg).2 k⟩
theorem src_one (w : World) (u : Value) (h1 : u.oneCell' = true) {c : Nat} {ty : TypeId} : Src (w.alloc (.cells #[u] ty)) 1 (.slice (some ⟨w.heap.size, 0, none⟩) 1 c) 1 [u] :=
  ⟨rfl, by intro x hx; simp at hx; rw [hx]; exact h1, Or.inr ⟨_, _, rfl, World.news_of_block (cs := #[u]) (heap_alloc_new w _)⟩⟩

def itStep (acc : List Nm) (e : Ent) : List Nm := if acc.getLast? = some e.1 then acc else acc ++ [e.1]
def itemsL (L : List Ent) : List Nm := L.foldl itStep []
theorem it_last (L : List Ent) (k : Nat) (x : Ent) (h : L[k]? = some x) : ((L.take (k + 1)).foldl itStep []).getLast? = some x.1 := by
  rw [foldl_take itStep [] L k x h]
  unfold itStep
  split
  · assumption
  · simp
theorem it_len (L : List Ent) : ∀ acc : List Nm, (L.foldl itStep acc).length ≤ acc.length + L.length := by
  induction L with
  | nil => intro acc; simp
  | cons x l ih =>
    intro acc
    have := ih (itStep acc x)
    have h2 : (itStep acc x).length ≤ acc.length + 1 := by unfold itStep; split <;> simp
    simp only [List.foldl_cons, List.length_cons]; omega


set_option maxHeartbeats 1000000 in
set_option maxRecDepth 100000 in
theorem items_ok (w : World) (S : Nat → Prop) (p : Nat) (vN : Value) (ns : List NS) (vF : Value) (ms : List MS) (adds : Nat) (h : RefR w S p vN ns vF ms adds) (hl : ns.length ≤ 1000) (i : Nat) (d : NS) (hd : ns[i]? = some d) (hdp : SmallP d.p) :
    Calls Tryz.prog 97 #[ptr p, .int .i64 i] w fun e w' => ∃ v, e = .returned (.tuple #[v, err 0]) ∧ StrR w' v (itemsL d.p.L) ∧ (∀ g, v.ownBlock = some g → w.heap.size ≤ g) ∧ Below w.heap.size w w' := by
  have hi : i < ns.length := (List.getElem?_eq_some_iff.1 hd).1
  obtain ⟨g, c, rfl, hSg, hg, hgp, hcell, hfz⟩ := h.at hd
  obtain ⟨e1, f1⟩ := row_facts h.self
  have hnd := h.node d (List.mem_of_getElem? hd)
  have c0 := hcell 0 (by decide)
  simp only [nsC, List.getElem?_cons_zero, Nat.add_zero] at c0
  obtain ⟨oL, cL, hdL, _, _⟩ := hnd.pc.L.form
  rw [hdL] at c0
  have hL : EntR w (.slice oL d.p.L.length cL) d.p.L := hdL ▸ hnd.pc.L
  have hsm := hdp.1
  clear hcell hfz hdL hnd
  go_enter Tryz.func97, Tryz.ntmps97
  go_wp2_with fail
  refine (is_yes w S p _ ns vF ms adds h i hi hl).mono ?_
  rintro e w' ⟨rfl, rfl⟩
  go_wp2_with fail
  clear e1 f1 c0
  go_loopw [7, 9] (fun r j wr => ∃ (k : Nat) (v : Value), k ≤ d.p.L.length ∧ j = .int .i64 k ∧ r = v ∧ StrR wr v ((d.p.L.take k).foldl itStep []) ∧ (∀ g, v.ownBlock = some g → w.heap.size ≤ g) ∧ Below w.heap.size w wr) (fun _ j _ => d.p.L.length - (intOf j).toNat)
  case atStart => exact ⟨0, _, Nat.zero_le _, rfl, rfl, World.ownsRow_nil _ _ _ _, by simp [Value.ownBlock], Below.refl _ _⟩
  case round =>
    obtain ⟨k, v, hk, rfl, rfl, hrow, hnew, hbel⟩ := hrel
    have hlen := it_len (d.p.L.take k) []
    have hlen2 := List.length_take_le k d.p.L
    simp only [List.length_nil, Nat.zero_add] at hlen
    generalize hR : (d.p.L.take k).foldl itStep [] = R at *
    have HR := hide hR
    clear hR
    obtain ⟨o, c', rfl, _, _⟩ := hrow.form
    have hcl : ∀ b j, b < w.heap.size → wr.cell? ⟨b, j, none⟩ = w.cell? ⟨b, j, none⟩ := fun b j hb => hbel.cell (p := ⟨b, j, none⟩) hb
    by_cases hlt : k < d.p.L.length
    · obtain ⟨x, hx⟩ := get_some hlt
      have Hx := hide hx
      obtain ⟨g', rfl, hg', c1, c2, c3⟩ := hL.at hx
      by_cases hk0 : k = 0
      · subst hk0
        have HN : Hid (¬ R.getLast? = some x.1) := by
          have e : R = [] := by have := HR.out; simpa using this.symm
          show ¬ R.getLast? = some x.1
          rw [e]; simp
        clear hx
        go_wp2_with fail
        go_quiet (fail)
        have hsz : w.heap.size ≤ wr.heap.size := hbel.size
        replace hbel : Below w.heap.size w (wr.drewN nq) := ⟨hbel.os, hbel.tape, hbel.output, hbel.size, hbel.block⟩
        replace hrow : StrR (wr.drewN nq) (.slice o R.length c') R := hrow
        go_wp2_with (first | (at_builtin; refine wpList_app (t := 53) _ eStr (by rfl) _ _ (by rfl) (.slice o R.length c') R.length (strC R) (by rfl) ?own _ 1 [strV x.1] (by rfl) ?src ?h63 ?hby ?next))
        case own => exact hrow.alloc _
        case src => exact src_one _ _ rfl
        case h63 => simp only [maxLen]; omega
        case hby => omega
        case next =>
          intro v1 w1 hown1 hgr1 hat1
          have hv1 := at_ge (N := w.heap.size) hat1 hnew (by first | omega | (simp; omega))
          have hb1 := (hbel.alloc hbel.size _).grown hgr1 (by first | omega | (simp; omega)) hnew
          go_wp2_with fail
          refine ⟨⟨0 + 1, v1, by omega, by go_num, rfl, ?_, hv1, ⟨hb1.os, hb1.tape, hb1.output, hb1.size, hb1.block⟩⟩, by simp [intOf]; omega⟩
          rw [foldl_take itStep [] d.p.L 0 x Hx.out, HR.out, itStep, if_neg HN.out]
          unfold StrR
          rw [List.length_append, strC, List.map_append]
          exact hown1
      · obtain ⟨m, rfl⟩ : ∃ m, k = m + 1 := ⟨k - 1, by omega⟩
        obtain ⟨y, hy⟩ := get_some (l := d.p.L) (k := m) (by omega)
        have hlast := it_last d.p.L m y hy
        rw [HR.out] at hlast
        obtain ⟨g2, hg2, _, y1, y2, y3⟩ := EntR.at hL hy
        simp only [Option.some.injEq, Addr.mk.injEq, and_true] at hg2
        subst hg2
        have HY := hide hlast
        have hz1 : ((m : Int) + 1 == 0) = false := by simp; omega
        have hz2 : (((m + 1 : Nat) : Int) == 0) = false := by simp; omega
        clear hx hy hlast hk0
        by_cases hEq : y.1 = x.1
        · have HE := hide hEq
          have hE : (y.1 == x.1) = true := by simpa using hEq
          clear hEq
          go_wp2_with fail
          go_quiet (fail)
          go_wp2_with fail
          refine ⟨⟨m + 1 + 1, _, by omega, by go_num, rfl, ?_, hnew, ⟨hbel.os, hbel.tape, hbel.output, hbel.size, hbel.block⟩⟩, by simp [intOf]; omega⟩
          rw [foldl_take itStep [] d.p.L (m + 1) x Hx.out, HR.out, itStep, if_pos (by rw [HY.out, HE.out])]
          exact hrow
        · have HN : Hid (¬ R.getLast? = some x.1) := by
            show ¬ R.getLast? = some x.1
            rw [HY.out]
            simpa using hEq
          have hE : (y.1 == x.1) = false := by simpa using hEq
          clear hEq
          go_wp2_with fail
          go_quiet (fail)
          have hsz : w.heap.size ≤ wr.heap.size := hbel.size
          replace hbel : Below w.heap.size w (wr.drewN nq) := ⟨hbel.os, hbel.tape, hbel.output, hbel.size, hbel.block⟩
          replace hrow : StrR (wr.drewN nq) (.slice o R.length c') R := hrow
          go_wp2_with (first | (at_builtin; refine wpList_app (t := 53) _ eStr (by rfl) _ _ (by rfl) (.slice o R.length c') R.length (strC R) (by rfl) ?own _ 1 [strV x.1] (by rfl) ?src ?h63 ?hby ?next))
          case own => exact hrow.alloc _
          case src => exact src_one _ _ rfl
          case h63 => simp only [maxLen]; omega
          case hby => omega
          case next =>
            intro v1 w1 hown1 hgr1 hat1
            have hv1 := at_ge (N := w.heap.size) hat1 hnew (by first | omega | (simp; omega))
            have hb1 := (hbel.alloc hbel.size _).grown hgr1 (by first | omega | (simp; omega)) hnew
            go_wp2_with fail
            refine ⟨⟨(m + 1) + 1, v1, by omega, by go_num, rfl, ?_, hv1, ⟨hb1.os, hb1.tape, hb1.output, hb1.size, hb1.block⟩⟩, by simp [intOf]; omega⟩
            rw [foldl_take itStep [] d.p.L (m + 1) x Hx.out, HR.out, itStep, if_neg HN.out]
            unfold StrR
            rw [List.length_append, strC, List.map_append]
            exact hown1
    · have hkl : k = d.p.L.length := by omega
      subst hkl
      have e := HR.out
      rw [List.take_of_length_le (Nat.le_refl _)] at e
      have HR2 := hide e
      clear e HR
      go_wp2_with fail
      go_ret2
      refine ⟨_, rfl, ?_, hnew, hbel⟩
      rw [itemsL, HR2.out]
      exact hrow
end Go.Proofs.YtnniimfinakioaaGreatDoor
namespace Go.Proofs.YtnniimfinakioaaGreatDoor
open Go.RowKit
attribute [local go_sem ↓] eqTok eqEnt
attribute [local go_sem] toList_nm app_nm size_nm

def ackL (cnt : Nat) (acked : List Nat) (i k : Nat) : List Int := (List.range k).map fun j => if j = i then (cnt : Int) else ((acked[j]?.getD 0 : Nat) : Int)
def knownOf (K : List Tok) (j : Nat) : Nat := (K.filter fun t => t.1 == (j : Int)).length
def tokL (K : List Tok) (k : Nat) : List Int := (List.range k).map fun j => (knownOf K j : Int)
def keptL (l : List KS) : List Int := l.map fun k => (k.n : Int)
theorem ackL_succ (cnt : Nat) (acked : List Nat) (i k : Nat) : ackL cnt acked i (k + 1) = ackL cnt acked i k ++ [if k = i then (cnt : Int) else ((acked[k]?.getD 0 : Nat) : Int)] := by simp [ackL, List.range_succ]
theorem tokL_succ (K : List Tok) (k : Nat) : tokL K (k + 1) = tokL K k ++ [(knownOf K k : Int)] := by simp [tokL, List.range_succ]
theorem knownOf_take (K : List Tok) (j m : Nat) (t : Tok) (h : K[m]? = some t) : knownOf (K.take (m + 1)) j = knownOf (K.take m) j + if t.1 == (j : Int) then 1 else 0 := by
  unfold knownOf
  rw [take_snoc' h, List.filter_append, List.length_append, List.filter_cons]
  split <;> simp

theorem IntR.app {w : World} {v : Value} {l : List Int} {x : Int} {n : Nat} (h : w.ownsRow 0 3 1 v (n + 1) ((l.map fun n => Value.int .i64 n) ++ [Value.int .i64 x])) (hn : l.length = n) : IntR w v (l ++ [x]) := by
  unfold IntR
  rw [List.length_append, List.map_append, hn]
  exact h

/-- The world while Status makes its answer. -/
structure StR (w : World) (nc : Array Value) (cnt : Nat) (vK vA vT : Value) (lK lA lT : List Int) (wr : World) : Prop where
  bel : Below (w.heap.size + 1 + 1) ((w.alloc (.cells #[.int .i64 0, .slice none 0 0, .slice none 0 0, .slice none 0 0] 58)).alloc (.cells nc 168)) wr
  box : wr.heap[w.heap.size + 1 + 1]? = some (.cells #[.int .i64 cnt, vK, vA, vT] 58 (0, 0))
  rK : IntR wr vK lK
  rA : IntR wr vA lA
  rT : IntR wr vT lT
  nK : ∀ g, vK.ownBlock = some g → w.heap.size + 1 + 1 + 1 ≤ g
  nA : ∀ g, vA.ownBlock = some g → w.heap.size + 1 + 1 + 1 ≤ g
  nT : ∀ g, vT.ownBlock = some g → w.heap.size + 1 + 1 + 1 ≤ g
  dKA : ∀ g, vK.ownBlock = some g → vA.ownBlock = some g → False
  dKT : ∀ g, vK.ownBlock = some g → vT.ownBlock = some g → False
  dAT : ∀ g, vA.ownBlock = some g → vT.ownBlock = some g → False

theorem StR.start (w : World) (nc : Array Value) (cnt : Nat) : StR w nc cnt (.slice none 0 0) (.slice none 0 0) (.slice none 0 0) [] [] [] (((w.alloc (.cells #[.int .i64 0, .slice none 0 0, .slice none 0 0, .slice none 0 0] 58)).alloc (.cells nc 168)).alloc (.cells #[.int .i64 cnt, .slice none 0 0, .slice none 0 0, .slice none 0 0] 58)) := by
  refine ⟨(Below.refl _ _).alloc (by simp) _, ?_, World.ownsRow_nil _ _ _ _, World.ownsRow_nil _ _ _ _, World.ownsRow_nil _ _ _ _, by simp [Value.ownBlock], by simp [Value.ownBlock], by simp [Value.ownBlock], by simp [Value.ownBlock], by simp [Value.ownBlock], by simp [Value.ownBlock]⟩
  have := heap_alloc_new ((w.alloc (.cells #[.int .i64 0, .slice none 0 0, .slice none 0 0, .slice none 0 0] 58)).alloc (.cells nc 168)) (.cells #[.int .i64 cnt, .slice none 0 0, .slice none 0 0, .slice none 0 0] 58)
  simpa using this

/-- Behind an append to one of the three rows (x): the other two lie as they lay; then the new row's header is stored. -/
theorem StR.grown {w wr wa w1 : World} {nc : Array Value} {cnt : Nat} {vK vA vT x : Value} {lK lA lT : List Int} (h : StR w nc cnt vK vA vT lK lA lT wr) (ha : Below wr.heap.size wr wa) (hg : wa.grownBy w1 x.ownBlock) (hx : ∀ g, x.ownBlock = some g → w.heap.size + 1 + 1 + 1 ≤ g) :
    Below (w.heap.size + 1 + 1) ((w.alloc (.cells #[.int .i64 0, .slice none 0 0, .slice none 0 0, .slice none 0 0] 58)).alloc (.cells nc 168)) w1 ∧ w1.heap[w.heap.size + 1 + 1]? = some (.cells #[.int .i64 cnt, vK, vA, vT] 58 (0, 0)) ∧
    (∀ (v : Value) (l : List Int), IntR wr v l → (∀ g, v.ownBlock = some g → x.ownBlock = some g → False) → IntR w1 v l) := by
  have hlt := lt_of_heap h.box
  have hs := ha.size
  refine ⟨(h.bel.trans (ha.mono (by omega))).grown hg (by omega) (fun k hk => by have := hx k hk; omega), ?_, fun v l hv hd => ?_⟩
  · exact (hg.block _ (by omega) (fun e => by have := hx _ e.symm; omega)).trans ((ha.block _ hlt).trans h.box)
  · exact own_kp (own_below hv ha) (Kp.ofGrown hg) (fun g hgb => ⟨(World.ownsRow.lt (own_below hv ha) g hgb).2, fun e => hd g hgb e⟩)

theorem setBox {w1 : World} {B : Nat} {a b c d : Value} {v : Value} {j : Nat} (hbox : w1.heap[B]? = some (.cells #[a, b, c, d] 58 (0, 0))) (_hj : j < 4) :
    (w1.setCell ⟨B, j, none⟩ v).heap[B]? = some (.cells (#[a, b, c, d].setIfInBounds j v) 58 (0, 0)) := setCell_row hbox v
theorem int_box {w1 : World} {B j : Nat} {a b c d x v : Value} {l : List Int} (hbox : w1.heap[B]? = some (.cells #[a, b, c, d] 58 (0, 0))) (h : IntR w1 x l) : IntR (w1.setCell ⟨B, j, none⟩ v) x l :=
  own_kpE h (Kp.set1 w1 B j v) (Nat.le_refl _) (fun b hb => ⟨_, _, hb ▸ hbox⟩) (by decide)

theorem StR.putK {w wr wa w1 : World} {nc : Array Value} {cnt : Nat} {vK vA vT v' : Value} {lK lA lT lK' : List Int} (h : StR w nc cnt vK vA vT lK lA lT wr) (ha : Below wr.heap.size wr wa) (hg : wa.grownBy w1 vK.ownBlock) (hv : IntR w1 v' lK') (hat : v'.ownBlock = vK.ownBlock ∨ v'.ownBlock = some wa.heap.size) :
    StR w nc cnt v' vA vT lK' lA lT (w1.setCell ⟨w.heap.size + 1 + 1, 1, none⟩ v') := by
  obtain ⟨g1, g2, g3⟩ := h.grown ha hg h.nK
  have hlt := lt_of_heap h.box
  have hs := ha.size
  have n' := at_ge hat h.nK (by omega)
  refine ⟨g1.setCell (by simp) _, by simpa using setBox (v := v') (j := 1) g2 (by decide), int_box g2 hv, int_box g2 (g3 _ _ h.rA fun g a b => h.dKA g b a), int_box g2 (g3 _ _ h.rT fun g a b => h.dKT g b a), n', h.nA, h.nT, fun g a b => ?_, fun g a b => ?_, h.dAT⟩
  · rcases hat with e | e
    · exact h.dKA g (e ▸ a) b
    · have := (World.ownsRow.lt h.rA g b).2
      rw [e] at a; simp only [Option.some.injEq] at a; omega
  · rcases hat with e | e
    · exact h.dKT g (e ▸ a) b
    · have := (World.ownsRow.lt h.rT g b).2
      rw [e] at a; simp only [Option.some.injEq] at a; omega
theorem StR.putA {w wr wa w1 : World} {nc : Array Value} {cnt : Nat} {vK vA vT v' : Value} {lK lA lT lA' : List Int} (h : StR w nc cnt vK vA vT lK lA lT wr) (ha : Below wr.heap.size wr wa) (hg : wa.grownBy w1 vA.ownBlock) (hv : IntR w1 v' lA') (hat : v'.ownBlock = vA.ownBlock ∨ v'.ownBlock = some wa.heap.size) :
    StR w nc cnt vK v' vT lK lA' lT (w1.setCell ⟨w.heap.size + 1 + 1, 2, none⟩ v') := by
  obtain ⟨g1, g2, g3⟩ := h.grown ha hg h.nA
  have hlt := lt_of_heap h.box
  have hs := ha.size
  have n' := at_ge hat h.nA (by omega)
  refine ⟨g1.setCell (by simp) _, by simpa using setBox (v := v') (j := 2) g2 (by decide), int_box g2 (g3 _ _ h.rK fun g a b => h.dKA g a b), int_box g2 hv, int_box g2 (g3 _ _ h.rT fun g a b => h.dAT g b a), h.nK, n', h.nT, fun g a b => ?_, h.dKT, fun g a b => ?_⟩
  · rcases hat with e | e
    · exact h.dKA g a (e ▸ b)
    · have := (World.ownsRow.lt h.rK g a).2
      rw [e] at b; simp only [Option.some.injEq] at b; omega
  · rcases hat with e | e
    · exact h.dAT g (e ▸ a) b
    · have := (World.ownsRow.lt h.rT g b).2
      rw [e] at a; simp only [Option.some.injEq] at a; omega
theorem StR.putT {w wr wa w1 : World} {nc : Array Value} {cnt : Nat} {vK vA vT v' : Value} {lK lA lT lT' : List Int} (h : StR w nc cnt vK vA vT lK lA lT wr) (ha : Below wr.heap.size wr wa) (hg : wa.grownBy w1 vT.ownBlock) (hv : IntR w1 v' lT') (hat : v'.ownBlock = vT.ownBlock ∨ v'.ownBlock = some wa.heap.size) :
    StR w nc cnt vK vA v' lK lA lT' (w1.setCell ⟨w.heap.size + 1 + 1, 3, none⟩ v') := by
  obtain ⟨g1, g2, g3⟩ := h.grown ha hg h.nT
  have hlt := lt_of_heap h.box
  have hs := ha.size
  have n' := at_ge hat h.nT (by omega)
  refine ⟨g1.setCell (by simp) _, by simpa using setBox (v := v') (j := 3) g2 (by decide), int_box g2 (g3 _ _ h.rK fun g a b => h.dKT g a b), int_box g2 (g3 _ _ h.rA fun g a b => h.dAT g a b), int_box g2 hv, h.nK, h.nA, n', h.dKA, fun g a b => ?_, fun g a b => ?_⟩
  · rcases hat with e | e
    · exact h.dKT g a (e ▸ b)
    · have := (World.ownsRow.lt h.rK g a).2
      rw [e] at b; simp only [Option.some.injEq] at b; omega
  · rcases hat with e | e
    · exact h.dAT g a (e ▸ b)
    · have := (World.ownsRow.lt h.rA g a).2
      rw [e] at b; simp only [Option.some.injEq] at b; omega
theorem StR.below {w wr w1 : World} {nc : Array Value} {cnt : Nat} {vK vA vT : Value} {lK lA lT : List Int} (h : StR w nc cnt vK vA vT lK lA lT wr) (hb : Below wr.heap.size wr w1) : StR w nc cnt vK vA vT lK lA lT w1 := by
  have := lt_of_heap h.box
  exact ⟨h.bel.trans (hb.mono (by omega)), (hb.block _ (lt_of_heap h.box)).trans h.box, h.rK.below hb, h.rA.below hb, h.rT.below hb, h.nK, h.nA, h.nT, h.dKA, h.dKT, h.dAT⟩
end Go.Proofs.YtnniimfinakioaaGreatDoor
namespace Go.Proofs.YtnniimfinakioaaGreatDoor
open Go.RowKit
attribute [local go_sem ↓] eqTok eqEnt
attribute [local go_sem] toList_nm app_nm size_nm

theorem kept_at {w : World} {o : Option Addr} {n c : Nat} {l : List KS} (h : w.ownsRow 0 196 3 (.slice o n c) n (l.flatMap ksC)) {k : Nat} {x : KS} (hk : l[k]? = some x) :
    ∃ g, o = some ⟨g, 0, none⟩ ∧ g < w.heap.size ∧ w.cell? ⟨g, k * 3, none⟩ = some (.int .i64 (x.n : Int)) := by
  have hk' : k < l.length := (List.getElem?_eq_some_iff.1 hk).1
  have hl := h.1
  rw [flat_len ksW] at hl
  rcases h.2 with ⟨hx, h0⟩ | ⟨g, cap, cur, hx, hb, hgg, h1, h2, h3, h4⟩
  · omega
  · simp only [Value.slice.injEq] at hx
    obtain ⟨rfl, _, rfl⟩ := hx
    refine ⟨g, rfl, lt_of_heap hgg, own_cell h rfl ?_⟩
    have := flat_get ksW l k 0 x hk (by decide)
    simpa [ksC] using this

theorem st_row4 {wr : World} {B N : Nat} {v a b c d : Value} {i j k m : Nat} {l : List Int} (h : IntR wr v l) (hn : ∀ g, v.ownBlock = some g → N ≤ g) (hB : B < N) :
    IntR ((((wr.setCell ⟨B, i, none⟩ a).setCell ⟨B, j, none⟩ b).setCell ⟨B, k, none⟩ c).setCell ⟨B, m, none⟩ d) v l :=
  own_mono (ownsRow_setCell_below (ownsRow_setCell_below (ownsRow_setCell_below (ownsRow_setCell_below (own_raise h hn) hB _) hB _) hB _) hB _) (Nat.zero_le _)

set_option maxHeartbeats 400000 in
theorem status_arg (w : World) (S : Nat → Prop) (p : Nat) (vN : Value) (ns : List NS) (vF : Value) (ms : List MS) (adds : Nat) (h : RefR w S p vN ns vF ms adds) (hl : ns.length ≤ 1000) (i : Int) (hi : i < 0 ∨ (ns.length : Int) ≤ i) :
    Calls Tryz.prog 101 #[ptr p, .int .i64 i] w fun e w' => e = .returned (.tuple #[.agg #[.int .i64 0, .slice none 0 0, .slice none 0 0, .slice none 0 0], err 1]) ∧ Below w.heap.size w w' := by
  have hb : Below w.heap.size w (w.alloc (.cells #[.int .i64 0, .slice none 0 0, .slice none 0 0, .slice none 0 0] 58)) := (Below.refl _ _).alloc (Nat.le_refl _) _
  have h2 := h.below hb
  go_enter Tryz.func101, Tryz.ntmps101
  go_wp2_with fail
  refine (is_no _ S p vN ns vF ms adds h2 i hi hl).mono ?_
  rintro e w' ⟨rfl, rfl⟩
  go_wp2_with fail
  refine bodyPost_ret (v := .tuple #[.agg #[.int .i64 0, .slice none 0 0, .slice none 0 0, .slice none 0 0], err 1]) (by simp [results, Tryz.results101, go_sem]) rfl ⟨rfl, ?_⟩
  exact (Below.refl _ _).alloc (Nat.le_refl _) _

set_option maxHeartbeats 2000000 in
set_option maxRecDepth 100000 in
theorem status_ok (w : World) (S : Nat → Prop) (p : Nat) (vN : Value) (ns : List NS) (vF : Value) (ms : List MS) (adds : Nat) (h : RefR w S p vN ns vF ms adds) (hl : ns.length ≤ 1000) (i : Nat) (d : NS) (hd : ns[i]? = some d) (hdp : SmallP d.p) (hkl : d.kept.length ≤ 1000000000) (hal : d.acked.length = ns.length) :
    Calls Tryz.prog 101 #[ptr p, .int .i64 i] w fun e w' => ∃ vK vA vT, e = .returned (.tuple #[.agg #[.int .i64 d.count, vK, vA, vT], err 0]) ∧ IntR w' vK (keptL d.kept) ∧ IntR w' vA (ackL d.count d.acked i ns.length) ∧ IntR w' vT (tokL d.p.K ns.length) ∧
      (∀ g, vK.ownBlock = some g → w.heap.size ≤ g) ∧ (∀ g, vA.ownBlock = some g → w.heap.size ≤ g) ∧ (∀ g, vT.ownBlock = some g → w.heap.size ≤ g) ∧
      (∀ g, vK.ownBlock = some g → vA.ownBlock = some g → False) ∧ (∀ g, vK.ownBlock = some g → vT.ownBlock = some g → False) ∧ (∀ g, vA.ownBlock = some g → vT.ownBlock = some g → False) ∧ Below w.heap.size w w' := by
  have hi : i < ns.length := (List.getElem?_eq_some_iff.1 hd).1
  obtain ⟨g, c, rfl, hSg, hg, hgp, hcell, hfz⟩ := h.at hd
  have hnd := h.node d (List.mem_of_getElem? hd)
  obtain ⟨oL, cL, hvL, _, _⟩ := hnd.pc.L.form
  obtain ⟨oK, cK, hvK, _, _⟩ := hnd.pc.K.form
  obtain ⟨oKe, cKe, hvKe, _, _⟩ := own_form hnd.kept
  obtain ⟨oA, cA, hvA, _, _⟩ := own_form hnd.acked
  have c0 := hcell 0 (by decide)
  have c1 := hcell 1 (by decide)
  have c2 := hcell 2 (by decide)
  have c3 := hcell 3 (by decide)
  have c4 := hcell 4 (by decide)
  have c5 := hcell 5 (by decide)
  simp only [nsC, List.getElem?_cons_zero, List.getElem?_cons_succ, Nat.add_zero] at c0 c1 c2 c3 c4 c5
  rw [hvL] at c0
  rw [hvK] at c1
  rw [hvKe] at c3
  rw [hvA] at c4
  have hK : TokR w (.slice oK d.p.K.length cK) d.p.K := hvK ▸ hnd.pc.K
  have hKe : w.ownsRow 0 196 3 (.slice oKe d.kept.length cKe) d.kept.length (d.kept.flatMap ksC) := hvKe ▸ hnd.kept
  have hA : w.ownsRow 0 3 1 (.slice oA d.acked.length cA) d.acked.length (intC d.acked) := hvA ▸ hnd.acked
  have Hal := hide hal
  have hsm := hdp.2
  obtain ⟨e1, f1⟩ := row_facts h.self
  have hplt : p < w.heap.size := lt_of_heap h.self
  clear hcell hfz hvL hvK hvKe hvA hal
  have hb : Below w.heap.size w (w.alloc (.cells #[.int .i64 0, .slice none 0 0, .slice none 0 0, .slice none 0 0] 58)) := (Below.refl _ _).alloc (Nat.le_refl _) _
  have h2 := h.below hb
  go_enter Tryz.func101, Tryz.ntmps101
  go_wp2_with fail
  refine (is_yes _ S p _ ns vF ms adds h2 i hi hl).mono ?_
  rintro e w' ⟨rfl, rfl⟩
  go_wp2_with fail
  clear e1 f1 c0 c1 c2 c3 c4 c5 hb h2
  go_loopw [9] (fun j wr => ∃ (k : Nat) (v : Value), k ≤ d.kept.length ∧ j = .int .i64 k ∧ StR w #[.slice oL d.p.L.length cL, .slice oK d.p.K.length cK, .int .i64 d.count, .slice oKe d.kept.length cKe, .slice oA d.acked.length cA, .int .i64 d.made] d.count v (.slice none 0 0) (.slice none 0 0) (keptL (d.kept.take k)) [] [] wr) (fun j _ => d.kept.length - (intOf j).toNat)
  case atStart => exact ⟨0, _, Nat.zero_le _, rfl, StR.start _ _ _⟩
  case round =>
    obtain ⟨k, v, hk, rfl, hj⟩ := hrel
    have hlen : (keptL (d.kept.take k)).length = k := by simp [keptL]; omega
    generalize hR : keptL (d.kept.take k) = R at *
    have HR := hide hR
    have Hlen := hide hlen
    clear hR hlen
    obtain ⟨o, c', rfl, _, _⟩ := hj.rK.form
    obtain ⟨a1, a2, a3, a4, a5, a6, a7⟩ := bx2 hj.bel
    obtain ⟨b1, b2⟩ := row_facts hj.box
    by_cases hlt : k < d.kept.length
    · obtain ⟨x, hx⟩ := get_some hlt
      have Hx := hide hx
      obtain ⟨gk, rfl, hgk, ck⟩ := kept_at hKe hx
      clear hx
      obtain ⟨Sx, hSx⟩ : ∃ Sx : Nat → Prop, Sx = fun b => (Value.slice o R.length c').ownBlock = some b := ⟨_, rfl⟩
      have s1 : ¬ Sx gk := by rw [hSx]; intro hh; have := hj.nK _ hh; omega
      have s2 : ¬ Sx (w.heap.size + 1) := by rw [hSx]; intro hh; have := hj.nK _ hh; omega
      have s3 : ¬ Sx (w.heap.size + 1 + 1) := by rw [hSx]; intro hh; have := hj.nK _ hh; omega
      have HSx := hide hSx
      clear hSx
      have hlt3 := lt_of_heap hj.box
      have t1 : gk < wr.heap.size := by omega
      have t2 : w.heap.size + 1 < wr.heap.size := by omega
      have hG := GrS.cell wr Sx
      have hGn := GrS.some wr Sx
      go_wp2_with fail
      refine wp_region_flt [0, 1, 2, 3, 4, 5, 6, 7] [8, 9, 10, 11] (fun w' => ∃ x : GrS wr Sx, w' = x.w) (by kernel_rfl) (by kernel_rfl) (fun _ _ d _ _ h => by cases d <;> exact h) ⟨⟨wr.drew, (Kp.refl _ _ _).drew⟩, rfl⟩ ?_
      simp only [pickOps, List.getElem?_cons_zero, List.getElem?_cons_succ]
      repeat (go_big_quiet_step (fail))
      refine wpQuiet_nil ?_
      refine ⟨_, rfl, ?_⟩
      go_wp2_with fail
      refine ⟨fun _ => ⟨⟨_, ((Kp.refl _ _ _).alloc (Nat.le_refl _) _).drew⟩, rfl⟩, _, rfl, ?_⟩
      refine wpList_app (t := 44) _ eInt (by rfl) _ _ (by rfl) (.slice o R.length c') R.length (R.map fun n => .int .i64 n) (by rfl) ?own _ 1 [.int .i64 (x.n : Int)] (by rfl) ?src ?h63 ?hby ?next
      case own => exact hj.rK.alloc _
      case src => exact src_one wr _ rfl
      case h63 => have := Hlen.out; simp only [maxLen]; omega
      case hby => have := Hlen.out; omega
      case next =>
        intro v1 w1 hown1 hgr1 hat1
        have ha : Below wr.heap.size wr ((wr.alloc (.cells #[.int .i64 (x.n : Int)] 3)).drew) := ((Below.refl _ _).alloc (Nat.le_refl _) _).drew
        have hv1 : IntR w1 v1 (R ++ [(x.n : Int)]) := IntR.app hown1 rfl
        have hj1 := hj.putK ha hgr1 hv1 hat1
        have kp1 : Kp wr.heap.size Sx wr w1 := (Kp.ofBelow ha).grown hgr1 (by simp) (fun b hb => Or.inr (by rw [HSx.out]; exact hb))
        have hbx := (kp1.block (w.heap.size + 1 + 1) hlt3 s3).trans hj.box
        obtain ⟨d1, d2⟩ := row_facts hbx
        obtain ⟨o1, c1', rfl, _, _⟩ := hv1.form
        clear a1 a2 a3 a4 a5 b1 b2 hG hGn
        go_wp2_with fail
        refine ⟨fun _ => ⟨⟨w1, kp1⟩, rfl⟩, _, rfl, ?_⟩
        go_wp2_with fail
        refine ⟨fun _ => ⟨⟨w1, kp1⟩, rfl⟩, _, rfl, ?_⟩
        go_wp2_with fail
        refine ⟨fun h => absurd rfl h, ?_⟩
        unfold wpFin
        go_wp2_with fail
        have el : (R ++ [(x.n : Int)]).length = R.length + 1 := by simp
        rw [el] at hj1
        refine ⟨⟨k + 1, .slice o1 (R.length + 1) c1', by omega, by go_num, ?_⟩, by simp [intOf]; omega⟩
        rw [take_snoc' Hx.out, keptL, List.map_append]
        rw [← keptL, HR.out]
        exact hj1
    · have hke : k = d.kept.length := by omega
      subst hke
      have e := HR.out
      rw [List.take_of_length_le (Nat.le_refl _)] at e
      have HR2 := hide e
      clear e HR
      go_wp2_with fail
      clear a1 a2 a3 a4 a5 b1 b2
      obtain ⟨e1, f1⟩ := row_facts h.self
      go_loopw [10] (fun j wr => ∃ (k : Nat) (vA vT : Value), k ≤ ns.length ∧ j = .int .i64 k ∧ StR w #[.slice oL d.p.L.length cL, .slice oK d.p.K.length cK, .int .i64 d.count, .slice oKe d.kept.length cKe, .slice oA d.acked.length cA, .int .i64 d.made] d.count (.slice o R.length c') vA vT R (ackL d.count d.acked i k) (tokL d.p.K k) wr) (fun j _ => ns.length - (intOf j).toNat)
      case atStart => exact ⟨0, _, _, Nat.zero_le _, rfl, hj⟩
      case round =>
        clear hj
        obtain ⟨k, vA, vT, hk, rfl, hj⟩ := hrel
        have hlA : (ackL d.count d.acked i k).length = k := by simp [ackL]
        have hlT : (tokL d.p.K k).length = k := by simp [tokL]
        generalize hR : ackL d.count d.acked i k = A at *
        have HA := hide hR
        generalize hR2 : tokL d.p.K k = U at *
        have HU := hide hR2
        have HlA := hide hlA
        have HlT := hide hlT
        clear hR hR2 hlA hlT
        obtain ⟨oA', cA', rfl, _, _⟩ := hj.rA.form
        obtain ⟨oT', cT', rfl, _, _⟩ := hj.rT.form
        obtain ⟨a1, a2, a3, a4, a5, a6, a7⟩ := bx2 hj.bel
        obtain ⟨b1, b2⟩ := row_facts hj.box
        by_cases hlt : k < ns.length
        · obtain ⟨y, hy⟩ := get_some (l := d.acked) (k := k) (by have := Hal.out; omega)
          have hy' : (intC d.acked)[k]? = some (.int .i64 (y : Int)) := by simp [intC, hy]
          have Hy := hide hy
          obtain ⟨gA, rfl, hgA, cA1, _⟩ := own1_at hA hy'
          have hka : (k : Int) < (d.acked.length : Int) := by have := Hal.out; omega
          clear hy hy'
          rcases hki : ((k : Int) == (i : Int)) with _ | _
          · have HZ : Hid ((y : Int) = if k = i then (d.count : Int) else ((d.acked[k]?.getD 0 : Nat) : Int)) := by
              have hh : ¬ (k : Int) = (i : Int) := by simpa using hki
              have : ¬ k = i := by omega
              show (y : Int) = _
              rw [if_neg this, Hy.out]; rfl
            go_wp2_with (first | (at_builtin; refine wpList_app (t := 44) _ eInt (by rfl) _ _ (by rfl) (.slice oA' A.length cA') A.length (A.map fun n => .int .i64 n) (by rfl) ?own _ 1 [.int .i64 (y : Int)] (by rfl) ?src ?h63 ?hby ?next))
            case own => exact hj.rA.alloc _
            case src => exact src_one wr _ rfl
            case h63 => have := HlA.out; simp only [maxLen]; omega
            case hby => have := HlA.out; omega
            case next =>
              intro v1 w1 hown1 hgr1 hat1
              have ha : Below wr.heap.size wr (wr.alloc (.cells #[.int .i64 (y : Int)] 3)) := (Below.refl _ _).alloc (Nat.le_refl _) _
              have hv1 : IntR w1 v1 (A ++ [(y : Int)]) := IntR.app hown1 rfl
              have hj1 := hj.putA ha hgr1 hv1 (by simpa using hat1)
              have hbx := (hj.grown ha hgr1 hj.nA).2.1
              obtain ⟨d1, d2⟩ := row_facts hbx
              obtain ⟨o1, c1', rfl, _, _⟩ := hv1.form
              have el : (A ++ [(y : Int)]).length = A.length + 1 := by simp
              rw [el] at hj1
              clear a1 a2 a3 a4 a5 b1 b2 cA1 hown1 hgr1 hat1 hv1 ha hj a6 a7 el
              go_wp2_with fail
              generalize w1.setCell ⟨w.heap.size + 1 + 1, 2, none⟩ (.slice o1 (A.length + 1) c1') = w2 at *
              clear d1 d2 hbx
              obtain ⟨a1, a2, a3, a4, a5, a6, a7⟩ := bx2 hj1.bel
              obtain ⟨b1, b2⟩ := row_facts hj1.box
              go_loop [12, 13] (fun kk jj => ∃ m : Nat, m ≤ d.p.K.length ∧ jj = .int .i64 m ∧ ∃ q : Nat, kk = .int .i64 q ∧ q ≤ m ∧ Hid (q = knownOf (d.p.K.take m) k)) (fun _ jj => d.p.K.length - (intOf jj).toNat)
              case atStart => exact ⟨0, Nat.zero_le _, rfl, 0, rfl, Nat.le_refl _, rfl⟩
              case round =>
                obtain ⟨m, hm, rfl, q, rfl, hqm, HQ⟩ := hrel
                by_cases hmt : m < d.p.K.length
                · obtain ⟨t, ht⟩ := get_some hmt
                  have Ht := hide ht
                  obtain ⟨gK, rfl, hgK, ct1, ct2⟩ := hK.at ht
                  clear ht
                  rcases htk : (t.1 == (k : Int)) with _ | _
                  · have HTK := hide htk
                    go_wp2_with fail
                    refine ⟨⟨m + 1, by omega, by go_num, q, rfl, by omega, ?_⟩, by simp [intOf]; omega⟩
                    show q = _
                    rw [knownOf_take _ _ _ _ Ht.out, HTK.out, HQ.out]; rfl
                  · have HTK := hide htk
                    go_wp2_with fail
                    refine ⟨⟨m + 1, by omega, by go_num, q + 1, by go_num, by omega, ?_⟩, by simp [intOf]; omega⟩
                    show q + 1 = _
                    rw [knownOf_take _ _ _ _ Ht.out, HTK.out, HQ.out]; rfl
                · have hmk : m = d.p.K.length := by omega
                  subst hmk
                  have eq := HQ.out
                  rw [List.take_of_length_le (Nat.le_refl _)] at eq
                  have HQ2 := hide eq
                  clear eq HQ
                  go_wp2_with (first | (at_builtin; refine wpList_app (t := 44) _ eInt (by rfl) _ _ (by rfl) (.slice oT' U.length cT') U.length (U.map fun n => .int .i64 n) (by rfl) ?own _ 1 [.int .i64 (q : Int)] (by rfl) ?src ?h63 ?hby ?next))
                  case own => exact hj1.rT.alloc _
                  case src => exact src_one w2 _ rfl
                  case h63 => have := HlT.out; simp only [maxLen]; omega
                  case hby => have := HlT.out; omega
                  case next =>
                    intro v3 w3 hown3 hgr3 hat3
                    have ha : Below w2.heap.size w2 (w2.alloc (.cells #[.int .i64 (q : Int)] 3)) := (Below.refl _ _).alloc (Nat.le_refl _) _
                    have hv3 : IntR w3 v3 (U ++ [(q : Int)]) := IntR.app hown3 rfl
                    have hj3 := hj1.putT ha hgr3 hv3 (by simpa using hat3)
                    have hbx := (hj1.grown ha hgr3 hj1.nT).2.1
                    obtain ⟨d1, d2⟩ := row_facts hbx
                    obtain ⟨o3, c3', rfl, _, _⟩ := hv3.form
                    have el : (U ++ [(q : Int)]).length = U.length + 1 := by simp
                    rw [el] at hj3
                    clear a1 a2 a3 a4 a5 b1 b2 hown3 hgr3 hat3 hv3 ha hj1 a6 a7 el
                    go_wp2_with fail
                    refine ⟨⟨k + 1, .slice o1 (A.length + 1) c1', .slice o3 (U.length + 1) c3', by omega, by go_num, ?_⟩, by simp [intOf]; omega⟩
                    rw [ackL_succ, tokL_succ, HA.out, HU.out, ← HZ.out, ← HQ2.out]
                    exact hj3
          · have HZ : Hid ((d.count : Int) = if k = i then (d.count : Int) else ((d.acked[k]?.getD 0 : Nat) : Int)) := by
              have hh : (k : Int) = (i : Int) := by simpa using hki
              have : k = i := by omega
              show (d.count : Int) = _
              rw [if_pos this]
            go_wp2_with (first | (at_builtin; refine wpList_app (t := 44) _ eInt (by rfl) _ _ (by rfl) (.slice oA' A.length cA') A.length (A.map fun n => .int .i64 n) (by rfl) ?own _ 1 [.int .i64 (d.count : Int)] (by rfl) ?src ?h63 ?hby ?next))
            case own => exact hj.rA.alloc _
            case src => exact src_one wr _ rfl
            case h63 => have := HlA.out; simp only [maxLen]; omega
            case hby => have := HlA.out; omega
            case next =>
              intro v1 w1 hown1 hgr1 hat1
              have ha : Below wr.heap.size wr (wr.alloc (.cells #[.int .i64 (d.count : Int)] 3)) := (Below.refl _ _).alloc (Nat.le_refl _) _
              have hv1 : IntR w1 v1 (A ++ [(d.count : Int)]) := IntR.app hown1 rfl
              have hj1 := hj.putA ha hgr1 hv1 (by simpa using hat1)
              have hbx := (hj.grown ha hgr1 hj.nA).2.1
              obtain ⟨d1, d2⟩ := row_facts hbx
              obtain ⟨o1, c1', rfl, _, _⟩ := hv1.form
              have el : (A ++ [(d.count : Int)]).length = A.length + 1 := by simp
              rw [el] at hj1
              clear a1 a2 a3 a4 a5 b1 b2 cA1 hown1 hgr1 hat1 hv1 ha hj a6 a7 el
              go_wp2_with fail
              generalize w1.setCell ⟨w.heap.size + 1 + 1, 2, none⟩ (.slice o1 (A.length + 1) c1') = w2 at *
              clear d1 d2 hbx
              obtain ⟨a1, a2, a3, a4, a5, a6, a7⟩ := bx2 hj1.bel
              obtain ⟨b1, b2⟩ := row_facts hj1.box
              go_loop [12, 13] (fun kk jj => ∃ m : Nat, m ≤ d.p.K.length ∧ jj = .int .i64 m ∧ ∃ q : Nat, kk = .int .i64 q ∧ q ≤ m ∧ Hid (q = knownOf (d.p.K.take m) k)) (fun _ jj => d.p.K.length - (intOf jj).toNat)
              case atStart => exact ⟨0, Nat.zero_le _, rfl, 0, rfl, Nat.le_refl _, rfl⟩
              case round =>
                obtain ⟨m, hm, rfl, q, rfl, hqm, HQ⟩ := hrel
                by_cases hmt : m < d.p.K.length
                · obtain ⟨t, ht⟩ := get_some hmt
                  have Ht := hide ht
                  obtain ⟨gK, rfl, hgK, ct1, ct2⟩ := hK.at ht
                  clear ht
                  rcases htk : (t.1 == (k : Int)) with _ | _
                  · have HTK := hide htk
                    go_wp2_with fail
                    refine ⟨⟨m + 1, by omega, by go_num, q, rfl, by omega, ?_⟩, by simp [intOf]; omega⟩
                    show q = _
                    rw [knownOf_take _ _ _ _ Ht.out, HTK.out, HQ.out]; rfl
                  · have HTK := hide htk
                    go_wp2_with fail
                    refine ⟨⟨m + 1, by omega, by go_num, q + 1, by go_num, by omega, ?_⟩, by simp [intOf]; omega⟩
                    show q + 1 = _
                    rw [knownOf_take _ _ _ _ Ht.out, HTK.out, HQ.out]; rfl
                · have hmk : m = d.p.K.length := by omega
                  subst hmk
                  have eq := HQ.out
                  rw [List.take_of_length_le (Nat.le_refl _)] at eq
                  have HQ2 := hide eq
                  clear eq HQ
                  go_wp2_with (first | (at_builtin; refine wpList_app (t := 44) _ eInt (by rfl) _ _ (by rfl) (.slice oT' U.length cT') U.length (U.map fun n => .int .i64 n) (by rfl) ?own _ 1 [.int .i64 (q : Int)] (by rfl) ?src ?h63 ?hby ?next))
                  case own => exact hj1.rT.alloc _
                  case src => exact src_one w2 _ rfl
                  case h63 => have := HlT.out; simp only [maxLen]; omega
                  case hby => have := HlT.out; omega
                  case next =>
                    intro v3 w3 hown3 hgr3 hat3
                    have ha : Below w2.heap.size w2 (w2.alloc (.cells #[.int .i64 (q : Int)] 3)) := (Below.refl _ _).alloc (Nat.le_refl _) _
                    have hv3 : IntR w3 v3 (U ++ [(q : Int)]) := IntR.app hown3 rfl
                    have hj3 := hj1.putT ha hgr3 hv3 (by simpa using hat3)
                    have hbx := (hj1.grown ha hgr3 hj1.nT).2.1
                    obtain ⟨d1, d2⟩ := row_facts hbx
                    obtain ⟨o3, c3', rfl, _, _⟩ := hv3.form
                    have el : (U ++ [(q : Int)]).length = U.length + 1 := by simp
                    rw [el] at hj3
                    clear a1 a2 a3 a4 a5 b1 b2 hown3 hgr3 hat3 hv3 ha hj1 a6 a7 el
                    go_wp2_with fail
                    refine ⟨⟨k + 1, .slice o1 (A.length + 1) c1', .slice o3 (U.length + 1) c3', by omega, by go_num, ?_⟩, by simp [intOf]; omega⟩
                    rw [ackL_succ, tokL_succ, HA.out, HU.out, ← HZ.out, ← HQ2.out]
                    exact hj3
        · have hkn : k = ns.length := by omega
          subst hkn
          go_wp2_with fail
          refine bodyPost_ret (v := .tuple #[.agg #[.int .i64 d.count, .slice o R.length c', .slice oA' A.length cA', .slice oT' U.length cT'], err 0]) (by simp [results, Tryz.results101, go_sem, a1]) rfl ⟨_, _, _, rfl, ?_, ?_, ?_, fun g hg => by have := hj.nK g hg; omega, fun g hg => by have := hj.nA g hg; omega, fun g hg => by have := hj.nT g hg; omega, hj.dKA, hj.dKT, hj.dAT, ?_⟩
          · rw [HR2.out]
            exact st_row4 hj.rK hj.nK (by omega)
          · rw [HA.out]
            exact st_row4 hj.rA hj.nA (by omega)
          · rw [HU.out]
            exact st_row4 hj.rT hj.nT (by omega)
          · exact (((a6.setCell (by simp) _).setCell (by simp) _).setCell (by simp) _).setCell (by simp) _
end Go.Proofs.YtnniimfinakioaaGreatDoor
namespace Go.Proofs.YtnniimfinakioaaGreatDoor
open Go.RowKit
attribute [local go_sem ↓] eqTok eqEnt
attribute [local go_sem] toList_nm app_nm size_nm

def zNS (n : Nat) (v : Value) : NS := ⟨.slice none 0 0, .slice none 0 0, ⟨[], []⟩, 0, .slice none 0 0, [], v, List.replicate n 0, 0⟩
def zNd (n : Nat) : Nd := ⟨⟨[], []⟩, 0, [], List.replicate n 0, 0⟩

/-- One node more. -/
theorem RefR.addNode {wr wa w1 : World} {S : Nat → Prop} {p n : Nat} {vN vN' vA : Value} {ns : List NS} (h : RefR wr S p vN ns (.slice none 0 0) [] 0) (ha : Below wr.heap.size wr wa)
    (hA : wa.ownsRow 0 3 1 vA n (intC (List.replicate n 0))) (nA : ∀ g, vA.ownBlock = some g → wr.heap.size ≤ g)
    (hN : w1.ownsRow 0 168 6 vN' (ns.length + 1) (ns.flatMap nsC ++ nsC (zNS n vA))) (hg : wa.grownBy w1 vN.ownBlock) (hat : vN'.ownBlock = vN.ownBlock ∨ vN'.ownBlock = some wa.heap.size) :
    RefR (w1.setCell ⟨p, 0, none⟩ vN') (fun b => S b ∨ (wr.heap.size ≤ b ∧ b < w1.heap.size)) p vN' (ns ++ [zNS n vA]) (.slice none 0 0) [] 0 := by
  have ha2 := h.below ha
  have kg := Kp.ofGrown hg
  have og : OfT wa (fun b => vN.ownBlock = some b) 168 := OfT.own ha2.nodes
  have s1 : w1.heap[p]? = some (.cells #[vN, .slice none 0 0, .int .i64 0] 161 (0, 0)) := by
    refine (hg.block p (lt_of_heap ha2.self) (fun e => ?_)).trans ha2.self
    obtain ⟨c, fz, hc⟩ := og p e.symm
    rw [ha2.self] at hc
    simp at hc
  have kp : Kp w1.heap.size (fun b => b = p) w1 (w1.setCell ⟨p, 0, none⟩ vN') := Kp.set1 w1 p 0 vN'
  have op : OfT w1 (fun b => b = p) 161 := fun b hb => ⟨_, _, hb ▸ s1⟩
  have hsz : (w1.setCell ⟨p, 0, none⟩ vN').heap.size = w1.heap.size := by simp [World.setCell]
  have h1 := ha.size
  have h2 := hg.size
  have nd : ∀ x ∈ ns, NodeR (w1.setCell ⟨p, 0, none⟩ vN') S x := fun x hx => ((ha2.node x hx).kpE kg (Nat.le_refl _) og (by decide) (by decide) (by decide) (by decide)).kpE kp (Nat.le_refl _) op (by decide) (by decide) (by decide) (by decide)
  have hA5 := own_kpE (own_kpE hA kg (Nat.le_refl _) og (by decide)) kp (Nat.le_refl _) op (by decide)
  have hN5 := own_kpE hN kp (Nat.le_refl _) op (by decide)
  have hA5lt : ∀ g, vA.ownBlock = some g → g < w1.heap.size := fun g hgg => by have := (hA5.lt g hgg).2; rw [hsz] at this; exact this
  have hlen : (ns ++ [zNS n vA]).length = ns.length + 1 := by simp
  have getl : ∀ (j : Nat) (x : NS), (ns ++ [zNS n vA])[j]? = some x → (j < ns.length ∧ ns[j]? = some x) ∨ (j = ns.length ∧ x = zNS n vA) := fun j x hj => by
    rcases Nat.lt_or_ge j ns.length with hl | hl
    · rw [List.getElem?_append_left hl] at hj; exact Or.inl ⟨hl, hj⟩
    · rw [List.getElem?_append_right hl] at hj
      have : j - ns.length = 0 := by
        rcases Nat.eq_zero_or_pos (j - ns.length) with e | e
        · exact e
        · rw [List.getElem?_eq_none (by simp; omega)] at hj; cases hj
      rw [this] at hj
      simp at hj
      exact Or.inr ⟨by omega, hj.symm⟩
  refine ⟨fun b hb => ?_, ?_, Or.inl h.sp, ?_, fun b hb => ?_, fun x hx => ?_, ?_, ?_, ⟨World.ownsRow_nil _ _ _ _, by intro g hgg; simp [Value.ownBlock] at hgg, by simp⟩⟩
  · rw [hsz]
    rcases hb with hb | hb
    · have := h.lt b hb; omega
    · exact hb.2
  · have := setCell_row (j := 0) s1 vN'
    simpa using this
  · rw [hlen, List.flatMap_append]
    simpa using hN5
  · rcases hat with e | e
    · exact Or.inl (h.sN b (e ▸ hb))
    · have hb' := hb
      rw [e] at hb'
      simp only [Option.some.injEq] at hb'
      have := (hN.lt b hb).2
      exact Or.inr ⟨by omega, this⟩
  · simp only [List.mem_append, List.mem_singleton] at hx
    rcases hx with hx | rfl
    · exact (nd x hx).mono (fun b hb => Or.inl hb)
    · refine ⟨⟨World.ownsRow_nil _ _ _ _, World.ownsRow_nil _ _ _ _, by intro g hgg; simp [zNS, Value.ownBlock] at hgg, by intro g hgg; simp [zNS, Value.ownBlock] at hgg⟩, World.ownsRow_nil _ _ _ _, by intro g hgg; simp [zNS, Value.ownBlock] at hgg, by intro k hk; simp [zNS] at hk, ?_, fun g hgg => Or.inr ⟨nA g hgg, hA5lt g hgg⟩⟩
      show World.ownsRow _ 0 _ 1 vA (List.replicate n 0).length (intC (List.replicate n 0))
      rw [List.length_replicate]
      exact hA5
  · intro a b x y b' hx hy e1 e2
    rcases getl a x hx with ⟨la, hx⟩ | ⟨la, rfl⟩ <;> rcases getl b y hy with ⟨lb, hy⟩ | ⟨lb, rfl⟩
    · exact h.disK a b x y b' hx hy e1 e2
    · simp [zNS, Value.ownBlock] at e2
    · simp [zNS, Value.ownBlock] at e1
    · omega
  · intro a b x y b' hx hy e1 e2
    rcases getl a x hx with ⟨la, hx⟩ | ⟨la, rfl⟩ <;> rcases getl b y hy with ⟨lb, hy⟩ | ⟨lb, rfl⟩
    · exact h.disA a b x y b' hx hy e1 e2
    · have := h.lt b' ((h.node x (List.mem_of_getElem? hx)).sAcked b' e1)
      have := nA b' e2
      omega
    · have := h.lt b' ((h.node y (List.mem_of_getElem? hy)).sAcked b' e2)
      have := nA b' e1
      omega
    · omega

set_option maxHeartbeats 400000 in
theorem new_arg (n : Int) (w : World) (hn : n < 1 ∨ 5 < n) : Calls Tryz.prog 71 #[.int .i64 n] w fun e w' => e = .returned (.tuple #[.pointer none, err 1]) ∧ w = w' := by
  by_cases h1 : n < 1
  · go_enter Tryz.func71, Tryz.ntmps71
    go_wp2_with fail
    go_ret2
    exact ⟨rfl, rfl⟩
  · have h1' : decide (n < 1) = false := by simpa using h1
    have h2 : 5 < n := by omega
    go_enter Tryz.func71, Tryz.ntmps71
    go_wp2_with fail
    go_ret2
    exact ⟨rfl, rfl⟩

set_option maxHeartbeats 1000000 in
theorem new_ok (n : Nat) (w : World) (h1 : 1 ≤ n) (h5 : n ≤ 5) : Calls Tryz.prog 71 #[.int .i64 n] w fun e w' => e = .returned (.tuple #[ptr w.heap.size, err 0]) ∧ RefW w' (Ext NoS w w') w.heap.size ⟨List.replicate n (zNd n), [], 0⟩ ∧ Below w.heap.size w w' := by
  have i1 : ¬ (n : Int) < 1 := by omega
  have i2 : ¬ (5 : Int) < (n : Int) := by omega
  have i1' : decide ((n : Int) < 1) = false := by simpa using i1
  have i2' : decide ((5 : Int) < (n : Int)) = false := by simpa using i2
  go_enter Tryz.func71, Tryz.ntmps71
  go_wp2_with fail
  have hp0 : w.heap.size < (w.alloc (.cells #[.slice none 0 0, .slice none 0 0, .int .i64 0] 161)).heap.size := by simp
  go_loopw [5] (fun j wr => ∃ (k : Nat) (v : Value) (ns : List NS), k ≤ n ∧ j = .int .i64 k ∧ ns.map NS.m = List.replicate k (zNd n) ∧ RefR wr (Ext NoS w wr) w.heap.size v ns (.slice none 0 0) [] 0 ∧ Below w.heap.size w wr) (fun j _ => n - (intOf j).toNat)
  case atStart =>
    refine ⟨0, .slice none 0 0, [], Nat.zero_le _, rfl, rfl, ⟨fun b hb => ?_, heap_alloc_new w _, Or.inr ⟨Nat.le_refl _, hp0⟩, World.ownsRow_nil _ _ _ _, by intro g hgg; simp [Value.ownBlock] at hgg, by simp, by simp, by simp, ⟨World.ownsRow_nil _ _ _ _, by intro g hgg; simp [Value.ownBlock] at hgg, by simp⟩⟩, (Below.refl _ _).alloc (Nat.le_refl _) _⟩
    rcases hb with hb | hb
    · exact hb.elim
    · exact hb.2
  case round =>
    clear hp0
    obtain ⟨k, v, ns, hk, rfl, hm, hR, hb⟩ := hrel
    have hlen : ns.length = k := by have := congrArg List.length hm; simpa using this
    have Hm := hide hm
    have Hlen := hide hlen
    clear hm hlen
    obtain ⟨o, c, rfl, _, _⟩ := own_form hR.nodes
    obtain ⟨e1, e2⟩ := row_facts hR.self
    have hlt0 := lt_of_heap hR.self
    by_cases hlt : k < n
    · obtain ⟨Sx, hSx⟩ : ∃ Sx : Nat → Prop, Sx = fun b => (Value.slice o ns.length c).ownBlock = some b := ⟨_, rfl⟩
      have s1 : ¬ Sx w.heap.size := by rw [hSx]; exact own_ne hR.nodes hR.self (by decide)
      have HSx := hide hSx
      clear hSx
      have hG := GrS.cell wr Sx
      have hGn := GrS.some wr Sx
      obtain ⟨ii, hi0, hi1, hi2, hi3⟩ := info_parts (P := Tryz.prog) (e := 3) (z := .int .i64 0) (size := 1) (bytes := 8) (by kernel_rfl)
      have Hi0 := hide hi0
      have Hi1 := hide hi1
      have Hi2 := hide hi2
      have Hi3 := hide hi3
      clear hi0 hi1 hi2 hi3
      go_wp2_with fail
      refine wp_region_flt [0, 1, 2, 3, 4, 5] [6, 7, 8, 9, 10, 11, 12] (fun w' => ∃ x : GrS wr Sx, w' = x.w) (by kernel_rfl) (by kernel_rfl) (fun _ _ d _ _ h => by cases d <;> exact h) ⟨⟨wr.drew, (Kp.refl _ _ _).drew⟩, rfl⟩ ?_
      simp only [pickOps, List.getElem?_cons_zero, List.getElem?_cons_succ]
      repeat (go_big_quiet_step (fail))
      refine wpQuiet_nil ?_
      refine ⟨_, rfl, ?_⟩
      refine wpList_make_full wr.drew (by rfl) _ _ 44 (by rfl) 0 3 ii (.int .i64 0) 1 Tryz.underlying44 Hi0.out Hi1.out Hi2.out .i64 .i64 (n : Int) (n : Int) n (by rfl) (by rfl) rfl rfl (by rw [Hi3.out]; omega) (by simp only [maxLen]; omega) (Nat.zero_le _) ?_
      intro wm hownm hgrm
      have hbm : Below wr.heap.size wr wm := ⟨hgrm.os, hgrm.tape, hgrm.output, hgrm.size, fun b hb => hgrm.block b hb (by simp)⟩
      go_wp2_with fail
      refine ⟨fun _ => ⟨⟨wm, Kp.ofBelow hbm⟩, rfl⟩, _, rfl, ?_⟩
      go_wp2_with fail
      refine ⟨fun _ => ⟨⟨wm, Kp.ofBelow hbm⟩, rfl⟩, _, rfl, ?_⟩
      go_wp2_with fail
      have hba : Below wr.heap.size wr (wm.alloc (.cells #[.slice none 0 0, .slice none 0 0, .int .i64 0, .slice none 0 0, .slice (some ⟨wr.heap.size, 0, none⟩) n n, .int .i64 0] 168)) := hbm.alloc hbm.size _
      refine ⟨fun _ => ⟨⟨_, Kp.ofBelow hba⟩, rfl⟩, _, rfl, ?_⟩
      refine wpList_app (t := 158) _ eNode (by rfl) _ _ (by rfl) (.slice o ns.length c) ns.length (ns.flatMap nsC) (by rfl) ?own _ 1 (nsC (zNS n (.slice (some ⟨wr.heap.size, 0, none⟩) n n))) (by rfl) ?src ?h63 ?hby ?next
      case own => exact own_below hR.nodes hba
      case src => exact ⟨rfl, by intro u hu; simp [nsC, zNS] at hu; rcases hu with rfl | rfl | rfl | rfl | rfl <;> rfl, Or.inr ⟨_, _, rfl, World.news_of_block (heap_alloc_new wm _)⟩⟩
      case h63 => have := Hlen.out; simp only [maxLen]; omega
      case hby => have := Hlen.out; omega
      case next =>
        intro v1 w1 hown1 hgr1 hat1
        have hA : (wm.alloc (.cells #[.slice none 0 0, .slice none 0 0, .int .i64 0, .slice none 0 0, .slice (some ⟨wr.heap.size, 0, none⟩) n n, .int .i64 0] 168)).ownsRow 0 3 1 (.slice (some ⟨wr.heap.size, 0, none⟩) n n) n (intC (List.replicate n 0)) := by
          have := hownm.alloc (.cells #[.slice none 0 0, .slice none 0 0, .int .i64 0, .slice none 0 0, .slice (some ⟨wr.heap.size, 0, none⟩) n n, .int .i64 0] 168)
          simp only [Value.cells, Nat.mul_one, toList_madeCells_one] at this
          simpa [intC] using this
        have fin := hR.addNode hba hA (fun g hg => by simp [Value.ownBlock] at hg; omega) hown1 hgr1 hat1
        have kp1 : Kp wr.heap.size Sx wr w1 := (Kp.ofBelow hba).grown hgr1 (by have := hbm.size; simp; omega) (fun b hb => Or.inr (by rw [HSx.out]; exact hb))
        obtain ⟨d1, d2⟩ := row_facts ((kp1.block w.heap.size hlt0 s1).trans hR.self)
        obtain ⟨o1, c1', rfl, _, _⟩ := own_form hown1
        have hbel1 : Below w.heap.size w w1 := hb.trans ⟨kp1.os, kp1.tape, kp1.output, kp1.size, fun b hb' => kp1.block b (Nat.lt_of_lt_of_le hb' hb.size) (fun hs => by
          rw [HSx.out] at hs
          rcases hR.sN b hs with x | x
          · exact x
          · omega)⟩
        go_wp2_with fail
        refine ⟨fun _ => ⟨⟨w1, kp1⟩, rfl⟩, _, rfl, ?_⟩
        go_wp2_with fail
        refine ⟨fun _ => ⟨⟨w1, kp1⟩, rfl⟩, _, rfl, ?_⟩
        go_wp2_with fail
        refine ⟨fun _ => ⟨⟨w1, kp1⟩, rfl⟩, _, rfl, ?_⟩
        go_wp2_with fail
        refine ⟨fun h => absurd rfl h, ?_⟩
        unfold wpFin
        go_wp2_with fail
        refine ⟨⟨k + 1, .slice o1 (ns.length + 1) c1', ns ++ [zNS n (.slice (some ⟨wr.heap.size, 0, none⟩) n n)], by omega, by go_num, ?_, ?_, hbel1.setCell (Nat.le_refl _) _⟩, by simp [intOf]; omega⟩
        · rw [List.map_append, Hm.out, List.replicate_succ']
          rfl
        · have hsz : (w1.setCell ⟨w.heap.size, 0, none⟩ (.slice o1 (ns.length + 1) c1')).heap.size = w1.heap.size := by simp [World.setCell]
          refine fin.mono (fun b hb' => ?_) (fun b hb' => ?_)
          · rcases hb' with (x | x) | x
            · exact Or.inl x
            · exact Or.inr ⟨x.1, by rw [hsz]; have := kp1.size; omega⟩
            · exact Or.inr ⟨by have := hb.size; omega, by rw [hsz]; exact x.2⟩
          · rcases hb' with x | x
            · exact x.elim
            · exact x.2
    · have hkn : k = n := by omega
      subst hkn
      go_wp2_with fail
      go_ret2
      exact ⟨rfl, ⟨_, _, _, _, hR, Hm.out, rfl⟩, hb⟩
end Go.Proofs.YtnniimfinakioaaGreatDoor
