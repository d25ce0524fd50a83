import Derived.Test.YtnniimfinakioaaGreatDoorYf
import Derived.Test.YtnniimfinakioaaGreatDoorXi
import Derived.Test.YtnniimfinakioaaGreatDoorXh
import Derived.Test.YtnniimfinakioaaGreatDoorYe
namespace Go.Proofs.YtnniimfinakioaaGreatDoor
open Go.RowKit
attribute [local go_sem] toList_nm app_nm size_nm

section
variable (w : World) (S : Nat → Prop) (p : Nat)
set_option maxHeartbeats 1000000 in
set_option maxRecDepth 100000 in
theorem at_yes (g c : Nat) (ns : List PN) (vF : Value) (fs : List PM) (h : ProgR w S p (.slice (some ⟨g, 0, none⟩) ns.length c) ns vF fs) (i : Nat) (hi : i < ns.length) (_hl : ns.length ≤ 1000) :
    Calls Tryz.prog 47 #[ptr p, .int .i64 i] w fun e w' => e = .returned (.pointer (some ⟨g, i * 5, none⟩)) ∧ w = w' := by
  obtain ⟨e1, _⟩ := row_facts h.self
  have c0 := e1 0
  simp only [List.getElem?_toArray, List.getElem?_cons_zero] at c0
  have i1 : decide ((i : Int) < 0) = false := by simp
  have i2 : decide ((ns.length : Int) ≤ (i : Int)) = false := by simpa using hi
  clear e1
  go_enter Tryz.func47, Tryz.ntmps47
  go_wp2
  go_ret
  exact ⟨rfl, rfl⟩
set_option maxHeartbeats 1000000 in
set_option maxRecDepth 100000 in
theorem at_no (vN : Value) (ns : List PN) (vF : Value) (fs : List PM) (h : ProgR w S p vN ns vF fs) (i : Int) (hi : i < 0 ∨ (ns.length : Int) ≤ i) (_hl : ns.length ≤ 1000) :
    Calls Tryz.prog 47 #[ptr p, .int .i64 i] w fun e w' => e = .returned (.pointer none) ∧ w = w' := by
  obtain ⟨o, c, rfl, _, _⟩ := own_form h.nodes
  obtain ⟨e1, _⟩ := row_facts h.self
  have c0 := e1 0
  simp only [List.getElem?_toArray, List.getElem?_cons_zero] at c0
  clear e1
  by_cases h1 : i < 0
  · have h1' : decide (i < 0) = true := by simpa using h1
    go_enter Tryz.func47, Tryz.ntmps47
    go_wp2
    go_ret
    exact ⟨rfl, rfl⟩
  · obtain ⟨n, rfl⟩ : ∃ n : Nat, i = n := ⟨i.toNat, by omega⟩
    have h2 : ns.length ≤ n := by omega
    have h2' : decide (ns.length ≤ n) = true := by simpa using h2
    clear hi h1
    go_enter Tryz.func47, Tryz.ntmps47
    go_wp2
    go_ret
    exact ⟨rfl, rfl⟩
end

theorem knownOf_set (w : World) (vE vK : Value) (K : List Tok) (i : Int) (h : SetV tokV w vK K) (hn : K.Nodup) (hb : K.length ≤ 1000000) :
    Calls Tryz.prog 65 #[.agg #[vE, vK], .int .i64 i] w fun e w' => e = .returned (.int .i64 (ofNode K i)) ∧ Below w.heap.size w w' := by
  obtain ⟨ks, h1, h2⟩ := h.perm hn
  have := knownOf_any w vE vK ks i h1 (by rw [h2.length_eq]; exact hb)
  rw [ofNode_perm h2] at this
  exact this

/-- What the counting of tokens wants of the nodes. -/
structure CntOk (ns : List PN) : Prop where
  nd : ∀ d ∈ ns, d.p.K.Nodup
  len : ∀ d ∈ ns, d.p.K.length ≤ 1000
  made : ∀ (i : Nat) (d : PN), ns[i]? = some d → ofNode d.p.K i = d.made
  sum : (ns.map PN.made).sum ≤ 1000000
  few : ns.length ≤ 1000

set_option maxHeartbeats 1000000 in
set_option maxRecDepth 100000 in
theorem addsAt_any (w : World) (S : Nat → Prop) (p : Nat) (vN : Value) (ns : List PN) (vF : Value) (fs : List PM) (h : ProgR w S p vN ns vF fs) (ok : CntOk ns) (i : Nat) (d : PN) (hd : ns[i]? = some d) :
    Calls Tryz.prog 56 #[ptr p, .int .i64 i] w fun e w' => e = .returned (.int .i64 d.made) ∧ Below w.heap.size w w' := by
  obtain ⟨g, c, rfl, hSg, hg, hgp, hcell, hfz⟩ := h.at hd
  have hi : i < ns.length := (List.getElem?_eq_some_iff.1 hd).1
  have hnd := h.node d (List.mem_of_getElem? hd)
  have c0 := hcell 0 (by decide)
  have c1 := hcell 1 (by decide)
  simp only [pnC, List.getElem?_cons_zero, List.getElem?_cons_succ, Nat.add_zero] at c0 c1
  obtain ⟨e1, _⟩ := row_facts h.self
  have cp := e1 0
  simp only [List.getElem?_toArray, List.getElem?_cons_zero] at cp
  obtain ⟨m1, hd1⟩ : ∃ m, d.vE = .map m := ⟨_, hnd.pc.E.form⟩
  obtain ⟨m2, hd2⟩ : ∃ m, d.vK = .map m := ⟨_, hnd.pc.K.form⟩
  have hk := knownOf_set w d.vE d.vK d.p.K i hnd.pc.K (ok.nd d (List.mem_of_getElem? hd)) (by have := ok.len d (List.mem_of_getElem? hd); omega)
  rw [ok.made i d hd] at hk
  rw [hd1] at c0 hk
  rw [hd2] at c1 hk
  have hfew := ok.few
  clear hcell e1 hd1 hd2
  go_enter Tryz.func56, Tryz.ntmps56
  go_wp2_with fail
  refine hk.mono ?_
  rintro e w' ⟨rfl, hb⟩
  go_wp2_with fail
  go_ret
  exact ⟨rfl, hb⟩

theorem sum_take_succ (ns : List PN) (k : Nat) (d : PN) (hd : ns[k]? = some d) : ((ns.take (k + 1)).map PN.made).sum = ((ns.take k).map PN.made).sum + d.made := by
  rw [take_snoc' hd]
  simp
theorem sum_take_le (ns : List PN) (k : Nat) : ((ns.take k).map PN.made).sum ≤ (ns.map PN.made).sum := by
  have : (ns.map PN.made).sum = ((ns.take k).map PN.made).sum + ((ns.drop k).map PN.made).sum := by
    rw [← List.sum_append, ← List.map_append, List.take_append_drop]
  omega

set_option maxHeartbeats 1000000 in
set_option maxRecDepth 100000 in
theorem adds_any (w : World) (S : Nat → Prop) (p : Nat) (vN : Value) (ns : List PN) (vF : Value) (fs : List PM) (h : ProgR w S p vN ns vF fs) (ok : CntOk ns) :
    Calls Tryz.prog 55 #[ptr p] w fun e w' => e = .returned (.int .i64 (ns.map PN.made).sum) ∧ Below w.heap.size w w' := by
  obtain ⟨o, c, rfl, _, _⟩ := own_form h.nodes
  obtain ⟨e1, _⟩ := row_facts h.self
  have cp := e1 0
  simp only [List.getElem?_toArray, List.getElem?_cons_zero] at cp
  have hfew := ok.few
  have hsum := ok.sum
  clear e1
  go_enter Tryz.func55, Tryz.ntmps55
  go_wp2_with fail
  go_loopw [3, 10] (fun s i wr => ∃ k : Nat, k ≤ ns.length ∧ i = .int .i64 k ∧ s = .int .i64 (((ns.take k).map PN.made).sum : Nat) ∧ Below w.heap.size w wr) (fun _ i _ => ns.length - (intOf i).toNat)
  case atStart => exact ⟨0, Nat.zero_le _, rfl, rfl, Below.refl _ _⟩
  case round =>
    obtain ⟨k, hk, rfl, rfl, hbel⟩ := hrel
    by_cases hlt : k < ns.length
    · obtain ⟨d, hd⟩ := get_some hlt
      have hA := addsAt_any wr S p _ ns vF fs (h.below hbel) ok k d hd
      have hS := sum_take_succ ns k d hd
      have hle := sum_take_le ns (k + 1)
      rw [hS] at hle
      have HS := hide hS
      have HB := hide hbel
      obtain ⟨s0, hs0⟩ : ∃ s0, ((ns.take k).map PN.made).sum = s0 := ⟨_, rfl⟩
      rw [hs0] at hle
      have HS0 := hide hs0
      rw [hs0]
      clear hS hbel hd hs0
      go_wp2_with fail
      refine hA.mono ?_
      rintro e w' ⟨rfl, hb⟩
      have HB2 := hide (HB.out.trans (hb.mono HB.out.size))
      clear hb hA
      go_wp2_with fail
      exact ⟨⟨k + 1, by omega, by go_num, by rw [HS.out, HS0.out]; go_num, HB2.out⟩, by simp [intOf]; omega⟩
    · have hkl : k = ns.length := by omega
      subst hkl
      rw [List.take_of_length_le (Nat.le_refl _)]
      go_wp2_with fail
      go_ret
      exact ⟨rfl, hbel⟩
end Go.Proofs.YtnniimfinakioaaGreatDoor
namespace Go.Proofs.YtnniimfinakioaaGreatDoor
open Go.RowKit
attribute [local go_sem] toList_nm app_nm size_nm

theorem pKept_at {w : World} {o : Option Addr} {n c : Nat} {ks : List PK} (h : w.ownsRow 0 145 3 (.slice o n c) ks.length (ks.flatMap pkC)) {k : Nat} {x : PK} (hk : ks[k]? = some x) :
    ∃ g, o = some ⟨g, 0, none⟩ ∧ g < w.heap.size ∧ w.cell? ⟨g, k * 3, none⟩ = some (.int .i64 x.n) ∧ w.cell? ⟨g, k * 3 + 1, none⟩ = some x.vE ∧ w.cell? ⟨g, k * 3 + 2, none⟩ = some x.vK := by
  have hk' : k < ks.length := (List.getElem?_eq_some_iff.1 hk).1
  obtain ⟨g, cap, e, _, hlt⟩ := World.ownsRow.form h (by omega)
  simp only [Value.slice.injEq] at e
  obtain ⟨rfl, _, _⟩ := e
  have f := fun j (hj : j < 3) => flat_get pkW ks k j x hk hj
  exact ⟨g, rfl, hlt, own_cell h rfl (f 0 (by decide)), own_cell h rfl (f 1 (by decide)), own_cell h rfl (f 2 (by decide))⟩

set_option maxHeartbeats 2000000 in
set_option maxRecDepth 100000 in
theorem keptNumbers_any (w : World) (S : Nat → Prop) (g i : Nat) (d : PN) (hnd : PNodeR w S d) (c3 : w.cell? ⟨g, i * 5 + 3, none⟩ = some d.vKept) (hl : d.kept.length ≤ 1000000) :
    Calls Tryz.prog 66 #[.pointer (some ⟨g, i * 5, none⟩)] w fun e w' => ∃ r, e = .returned r ∧ w'.ownsRow w.heap.size 3 1 r d.kept.length (d.kept.map fun k => .int .i64 k.n) ∧ Below w.heap.size w w' := by
  obtain ⟨i0, z0, hi0, hz0, hs0, hb0, hc0⟩ := eInt.info
  have hK := hnd.kept
  have hP := hnd.keptP
  obtain ⟨o, c, hk, _, _⟩ := own_form hK
  rw [hk] at c3 hK
  have HK := hide hk
  clear hk hnd
  go_enter Tryz.func66, Tryz.ntmps66
  go_wp2_with fail
  go_loopw [3, 11] (fun v j wr => ∃ k : Nat, k ≤ d.kept.length ∧ j = .int .i64 k ∧ wr.ownsRow w.heap.size 3 1 v k ((d.kept.take k).map fun k => .int .i64 k.n) ∧ Below w.heap.size w wr) (fun _ j _ => d.kept.length - (intOf j).toNat)
  case atStart => exact ⟨0, Nat.zero_le _, rfl, World.ownsRow_nil .., Below.refl _ _⟩
  case round =>
    obtain ⟨k, hk, rfl, hV, hbel⟩ := hrel
    have hsr := hbel.size
    have HB := hide hbel
    by_cases hlt : k < d.kept.length
    · obtain ⟨x, hx⟩ := get_some hlt
      obtain ⟨gk, rfl, hgk, d1, d2, d3⟩ := pKept_at hK hx
      have hxP := hP x (List.mem_of_getElem? hx)
      have d1' := (hbel.cell (p := ⟨gk, k * 3, none⟩) hgk).trans d1
      have d2' := (hbel.cell (p := ⟨gk, k * 3 + 1, none⟩) hgk).trans d2
      have d3' := (hbel.cell (p := ⟨gk, k * 3 + 2, none⟩) hgk).trans d3
      obtain ⟨m1, hm1⟩ : ∃ m, x.vE = .map m := ⟨_, hxP.E.form⟩
      obtain ⟨m2, hm2⟩ : ∃ m, x.vK = .map m := ⟨_, hxP.K.form⟩
      rw [hm1] at d2'
      rw [hm2] at d3'
      have hT : (d.kept.take (k + 1)).map (fun k => Value.int .i64 k.n) = (d.kept.take k).map (fun k => Value.int .i64 k.n) ++ [.int .i64 x.n] := by rw [take_snoc' hx]; simp
      have HT := hide hT
      have HV := hide hV
      have hgr : gk < wr.heap.size := by omega
      clear hT hx d1 d2 d3 hbel hV hxP hm1 hm2
      have hnew : ∀ j u, [Value.int .i64 (x.n : Int)][j]? = some u → ((wr.alloc (.cells #[.int .i64 x.n, .map m1, .map m2] 145)).alloc (.cells #[.int .i64 x.n] 3)).cell? ((⟨wr.heap.size + 1, 0, none⟩ : Addr).add j) = some u := fun j u hu => by
        rw [World.addr_add, Nat.zero_add, (row_facts (new_at (wr.alloc (.cells #[.int .i64 x.n, .map m1, .map m2] 145)) _ (by simp))).1 j]
        simpa using hu
      have HN := hide hnew
      clear hnew
      go_wp2_with (first
        | (at_builtin; refine wpList_append_own _ rfl _ _ 44 rfl w.heap.size 3 i0 z0 1 8 eInt.und hi0 hz0 hs0 hb0 hc0 (by decide) _ _ _ rfl ((HV.out.alloc _).alloc _) ⟨wr.heap.size + 1, 0, none⟩ 1 1 [.int .i64 (x.n : Int)] rfl rfl HN.out (by simp [Value.oneCell']) (by unfold maxLen; omega) (by omega) (by simp; omega) ?_
           intro v' w3 hown' hg3 _
           have HO := hide hown'
           have HG := hide hg3
           obtain ⟨o', c', rfl, _, _⟩ := own_form (own_mono hown' (Nat.zero_le _))
           clear hown' hg3)
        | go_in)
      have hg' : ((wr.alloc (.cells #[.int .i64 x.n, .map m1, .map m2] 145)).alloc (.cells #[.int .i64 x.n] 3)).grownBy w3 u3.ownBlock := HG.out
      exact ⟨⟨k + 1, by omega, by go_num, by rw [HT.out]; exact HO.out, ((HB.out.alloc hsr _).alloc (by simp; omega) _).grown hg' (by simp; omega) (fun j hj => (HV.out.lt j hj).1)⟩, by simp [intOf]; omega⟩
    · have hkl : k = d.kept.length := by omega
      subst hkl
      rw [List.take_of_length_le (Nat.le_refl _)] at hV
      have HV := hide hV
      clear hV
      go_wp2
      go_ret
      exact ⟨_, rfl, HV.out, HB.out⟩

theorem insAll_ofK (es : List Ent) (x : Tok) : x ∈ insAll [] (es.map (·.2)) ↔ x ∈ ofK es := by
  rw [insAll_mem, mem_ofK]
  simp [List.mem_map]

set_option maxHeartbeats 1000000 in
set_option maxRecDepth 100000 in
/-- takeOut, where there is something. -/
theorem takeOut_ok (w w4 : World) (S : Nat → Prop) (p g c : Nat) (ns : List PN) (vF : Value) (fs : List PM) (h : ProgR w S p (.slice (some ⟨g, 0, none⟩) ns.length c) ns vF fs) (hb : Below w.heap.size w w4) (i : Nat) (d : PN) (hd : ns[i]? = some d)
    (v : Value) (es : List Ent) (hv : PEntR w4 v es) (hne : es ≠ []) (hl : es.length ≤ 1000000) (hc : d.count ≤ 1000000000) (hk : d.kept.length ≤ 1000000000) :
    Calls Tryz.prog 61 #[.pointer (some ⟨g, i * 5, none⟩), v] w4 fun e w' => e = .returned (err 0) ∧
      (∃ ns', ProgR w' (Ext S w w') p (.slice (some ⟨g, 0, none⟩) ns.length c) ns' vF fs ∧ ns'.map PN.m = (ns.map PN.m).set i (newsM d.m ⟨[], ofK es⟩)) ∧ Kp w.heap.size S w w' := by
  obtain ⟨o, c', rfl, _, _⟩ := hv.form
  have hlen : ((es.length : Int) == 0) = false := by
    have : es.length ≠ 0 := fun e => hne (List.eq_nil_of_length_eq_zero e)
    simpa using this
  have hT := taking_any w4 _ es hv hl
  clear hv
  go_enter Tryz.func61, Tryz.ntmps61
  go_wp2_with fail
  refine hT.mono ?_
  rintro e w5 ⟨b, rfl, hbb, hM, hb5⟩
  have hbw : Below w.heap.size w w5 := hb.trans (hb5.mono hb.size)
  have hsw := hbw.size
  have hR5 := (h.below hbw).ext (w' := w) h.lt hbw.size
  have hq : PPieceR w5 (Ext S w w5) (.map none) (.map (some b)) ⟨[], ofK es⟩ :=
    ⟨⟨[], ⟨by simp, Or.inl ⟨rfl, rfl⟩⟩, by simp⟩, ⟨_, ⟨insAll_nodup (by simp), Or.inr ⟨b, rfl, hM⟩⟩, insAll_ofK es⟩, fun x hx => by simp [mapB] at hx, fun x hx => by simp [mapB] at hx; subst hx; exact Or.inr ⟨by have := hb.size; omega, hM.lt⟩⟩
  have hI := takeIn_any w5 (Ext S w w5) p g c ns vF fs hR5 i d hd _ _ _ hq hc hk d.made
  clear hT
  go_wp2_with fail
  refine hI.mono ?_
  rintro e w6 ⟨rfl, ⟨vE', vK', vKept', hR⟩, hK⟩
  clear hI
  go_wp2_with fail
  go_ret
  refine ⟨rfl, ⟨_, hR.mono (fun b hx => Ext.trans hx hsw hK.size) (fun b hx => ?_), ?_⟩, hK.under (Kp.ofBelow hbw)⟩
  · rcases hx with x | x
    · exact Nat.lt_of_lt_of_le (h.lt b x) (Nat.le_trans hsw hK.size)
    · exact x.2
  · rw [List.map_set]
    simp [PN.m, newsM, PK.m]
set_option maxHeartbeats 1000000 in
theorem takeOut_none (w : World) (n v : Value) (hv : PEntR w v []) :
    Calls Tryz.prog 61 #[n, v] w fun e w' => e = .returned (err 3) ∧ w = w' := by
  obtain ⟨o, c', rfl, _, _⟩ := hv.form
  go_enter Tryz.func61, Tryz.ntmps61
  go_wp2_with fail
  go_ret
  exact ⟨rfl, rfl⟩
end Go.Proofs.YtnniimfinakioaaGreatDoor
namespace Go.Proofs.YtnniimfinakioaaGreatDoor
open Go.RowKit
attribute [local go_sem] toList_nm app_nm size_nm

def zPN (v : Value) (l : List Nat) : PN := ⟨.map none, .map none, ⟨[], []⟩, 0, .slice none 0 0, [], v, l, 0⟩
theorem made_nodes (n : Nat) (h1 : 1 ≤ n) (h5 : n ≤ 5) : (madeCells (Value.cells (.agg #[.map none, .map none, .int .i64 0, .slice none 0 0, .slice none 0 0])) (n * 5)).toList = (List.replicate n (zPN (.slice none 0 0) [])).flatMap pnC := by
  obtain rfl | rfl | rfl | rfl | rfl : n = 1 ∨ n = 2 ∨ n = 3 ∨ n = 4 ∨ n = 5 := by omega
  all_goals kernel_rfl
theorem zPN_node (w : World) (S : Nat → Prop) : PNodeR w S (zPN (.slice none 0 0) []) :=
  ⟨⟨⟨[], ⟨by simp, Or.inl ⟨rfl, rfl⟩⟩, by simp [zPN]⟩, ⟨[], ⟨by simp, Or.inl ⟨rfl, rfl⟩⟩, by simp [zPN]⟩, fun x hx => by simp [zPN, mapB] at hx, fun x hx => by simp [zPN, mapB] at hx⟩,
    World.ownsRow_nil _ _ _ _, by intro g hg; simp [zPN, Value.ownBlock] at hg, by simp [zPN], World.ownsRow_nil _ _ _ _, by intro g hg; simp [zPN, Value.ownBlock] at hg⟩

/-- A node gets its list of what was acked. -/
theorem ProgR.setAcked {wr w1 : World} {S : Nat → Prop} {p g c k : Nat} {ns : List PN} {vF : Value} {fs : List PM} {vA : Value} {l : List Nat} (h : ProgR wr S p (.slice (some ⟨g, 0, none⟩) ns.length c) ns vF fs) (hb : Below wr.heap.size wr w1) (hk : ns[k]? = some (zPN (.slice none 0 0) []))
    (hA : w1.ownsRow 0 3 1 vA l.length (intC l)) (nA : ∀ b, vA.ownBlock = some b → wr.heap.size ≤ b) :
    ProgR (w1.setCell ⟨g, k * 5 + 4, none⟩ vA) (fun b => S b ∨ (wr.heap.size ≤ b ∧ b < w1.heap.size)) p (.slice (some ⟨g, 0, none⟩) ns.length c) (ns.set k (zPN vA l)) vF fs := by
  have h1 := h.below hb
  have hgp : g ≠ p := by
    obtain ⟨g', c', e, _, _, hgp, _⟩ := h.at hk
    simp only [Value.slice.injEq, Option.some.injEq, Addr.mk.injEq, and_true] at e
    obtain ⟨rfl, _⟩ := e
    exact hgp
  have kp := Kp.set1 w1 g (k * 5 + 4) vA
  have ot : OfT w1 (fun b => b = g) 99 := OfT.row h1.nodes rfl
  have hs : (w1.setCell ⟨g, k * 5 + 4, none⟩ vA).heap.size = w1.heap.size := by simp [World.setCell]
  have nd := fun n hn => (h1.node n hn).kpE kp (Nat.le_refl _) ot (by decide) (by decide)
  have hA2 := own_kpE hA kp (Nat.le_refl _) ot (by decide)
  have hsz := hb.size
  refine ⟨fun b hb' => ?_, (kp.block p (lt_of_heap h1.self) (Ne.symm hgp)).trans h1.self, Or.inl h.sp, PdR.set (j := 4) h1.nodes hk (by decide) rfl, fun b hb' => Or.inl (h.sN b hb'), ?_, ?_, ?_, (h1.fly.kpE kp (Nat.le_refl _) ot (by decide)).mono fun b hb' => Or.inl hb'⟩
  · rw [hs]
    rcases hb' with x | x
    · have := h.lt b x; omega
    · exact x.2
  · intro n hn
    obtain ⟨j, hj⟩ := List.mem_iff_getElem?.1 hn
    rcases set_at hj with ⟨rfl, rfl⟩ | ⟨_, hj⟩
    · have z := zPN_node (w1.setCell ⟨g, k * 5 + 4, none⟩ vA) (fun b => S b ∨ (wr.heap.size ≤ b ∧ b < w1.heap.size))
      exact ⟨z.pc, z.kept, z.sKept, z.keptP, hA2, fun b hb' => Or.inr ⟨nA b hb', by have := (hA2.lt b hb').2; rw [hs] at this; exact this⟩⟩
    · exact (nd n (List.mem_of_getElem? hj)).mono fun b hb' => Or.inl hb'
  · intro a b x y b' ha hb h1 h2
    rcases set_at ha with ⟨rfl, rfl⟩ | ⟨_, ha⟩ <;> rcases set_at hb with ⟨rfl, rfl⟩ | ⟨_, hb⟩
    · rfl
    · simp [zPN, Value.ownBlock] at h1
    · simp [zPN, Value.ownBlock] at h2
    · exact h.disK _ _ _ _ b' ha hb h1 h2
  · intro a b x y b' ha hb h1 h2
    have old : ∀ (j : Nat) (n : PN), ns[j]? = some n → n.vAcked.ownBlock = some b' → b' < wr.heap.size := fun j n hj e => h.lt b' ((h.node n (List.mem_of_getElem? hj)).sAcked b' e)
    rcases set_at ha with ⟨rfl, rfl⟩ | ⟨_, ha⟩ <;> rcases set_at hb with ⟨rfl, rfl⟩ | ⟨_, hb⟩
    · rfl
    · have := nA b' h1
      have := old _ _ hb h2
      omega
    · have := nA b' h2
      have := old _ _ ha h1
      omega
    · exact h.disA _ _ _ _ b' ha hb h1 h2

set_option maxHeartbeats 400000 in
theorem pNew_arg (n : Int) (w : World) (hn : n < 1 ∨ 5 < n) : Calls Tryz.prog 42 #[.int .i64 n] w fun e w' => e = .returned (.tuple #[.pointer none, err 1]) ∧ w = w' := by
  by_cases h1 : n < 1
  · go_enter Tryz.func42, Tryz.ntmps42
    go_wp2_with fail
    go_ret2
    exact ⟨rfl, rfl⟩
  · have h1' : decide (n < 1) = false := by simpa using h1
    have h2 : 5 < n := by omega
    go_enter Tryz.func42, Tryz.ntmps42
    go_wp2_with fail
    go_ret2
    exact ⟨rfl, rfl⟩

set_option maxHeartbeats 2000000 in
set_option maxRecDepth 100000 in
theorem pNew_ok (n : Nat) (w : World) (h1 : 1 ≤ n) (h5 : n ≤ 5) : Calls Tryz.prog 42 #[.int .i64 n] w fun e w' => ∃ q, e = .returned (.tuple #[ptr q, err 0]) ∧ ProgW w' (Ext NoS w w') q (zW n) ∧ Below w.heap.size w w' := by
  have i1 : ¬ (n : Int) < 1 := by omega
  have i2 : ¬ (5 : Int) < (n : Int) := by omega
  have i1' : decide ((n : Int) < 1) = false := by simpa using i1
  have i2' : decide ((5 : Int) < (n : Int)) = false := by simpa using i2
  obtain ⟨nn, hn0, hn1, hn2, hn3⟩ := info_parts (P := Tryz.prog) (e := 99) (z := .agg #[.map none, .map none, .int .i64 0, .slice none 0 0, .slice none 0 0]) (size := 5) (bytes := 72) (by kernel_rfl)
  have Hn0 := hide hn0
  have Hn1 := hide hn1
  have Hn2 := hide hn2
  have Hn3 := hide hn3
  clear hn0 hn1 hn2 hn3
  go_enter Tryz.func42, Tryz.ntmps42
  go_wp2_with (refine wpList_make_full _ (by rfl) _ _ 81 (by rfl) w.heap.size 99 nn _ 5 Tryz.underlying81 Hn0.out Hn1.out Hn2.out .i64 .i64 (n : Int) (n : Int) n (by rfl) (by rfl) rfl rfl (by rw [Hn3.out]; omega) (by simp only [maxLen]; omega) (Nat.le_refl _) ?_; intro wm hownm hgrm)
  rw [made_nodes n h1 h5] at hownm
  obtain ⟨ii, hi0, hi1, hi2, hi3⟩ := info_parts (P := Tryz.prog) (e := 3) (z := .int .i64 0) (size := 1) (bytes := 8) (by kernel_rfl)
  have Hi0 := hide hi0
  have Hi1 := hide hi1
  have Hi2 := hide hi2
  have Hi3 := hide hi3
  clear hi0 hi1 hi2 hi3
  have hbm : Below w.heap.size w wm := ⟨hgrm.os, hgrm.tape, hgrm.output, hgrm.size, fun b hb => hgrm.block b hb (by simp)⟩
  have hNm : w.heap.size < wm.heap.size := (hownm.lt w.heap.size rfl).2
  have hR0 : ProgR (wm.alloc (.cells #[.slice (some ⟨w.heap.size, 0, none⟩) n n, .slice none 0 0] 84)) (Ext NoS w (wm.alloc (.cells #[.slice (some ⟨w.heap.size, 0, none⟩) n n, .slice none 0 0] 84))) wm.heap.size (.slice (some ⟨w.heap.size, 0, none⟩) n n) (List.replicate n (zPN (.slice none 0 0) [])) (.slice none 0 0) [] := by
    refine ⟨fun b hb => ?_, heap_alloc_new wm _, Or.inr ⟨by omega, by simp⟩, ?_, fun b hb => ?_, fun x hx => ?_, ?_, ?_, ⟨World.ownsRow_nil _ _ _ _, by intro g hg; simp [Value.ownBlock] at hg, by simp⟩⟩
    · rcases hb with x | x
      · exact x.elim
      · exact x.2
    · rw [List.length_replicate]
      exact own_mono (hownm.alloc _) (Nat.zero_le _)
    · simp only [Value.ownBlock, Option.some.injEq] at hb
      subst hb
      exact Or.inr ⟨Nat.le_refl _, by simp; omega⟩
    · rw [List.eq_of_mem_replicate hx]
      exact zPN_node _ _
    · intro a b x y b' ha _ e1 _
      rw [List.eq_of_mem_replicate (List.mem_of_getElem? ha)] at e1
      simp [zPN, Value.ownBlock] at e1
    · intro a b x y b' ha _ e1 _
      rw [List.eq_of_mem_replicate (List.mem_of_getElem? ha)] at e1
      simp [zPN, Value.ownBlock] at e1
  have HR0 := hide hR0
  have HB0 := hide (hbm.alloc hbm.size (.cells #[.slice (some ⟨w.heap.size, 0, none⟩) n n, .slice none 0 0] 84))
  clear hR0 hownm hgrm
  go_loopw [21] (fun j wr => ∃ (k : Nat) (ns : List PN), k ≤ n ∧ j = .int .i64 k ∧ ns.length = n ∧ (∀ i d, ns[i]? = some d → (i < k → ∃ v, d = zPN v (List.replicate n 0)) ∧ (k ≤ i → d = zPN (.slice none 0 0) [])) ∧
      ProgR wr (Ext NoS w wr) wm.heap.size (.slice (some ⟨w.heap.size, 0, none⟩) n n) ns (.slice none 0 0) [] ∧ Below w.heap.size w wr) (fun j _ => n - (intOf j).toNat)
  case atStart => exact ⟨0, _, Nat.zero_le _, rfl, List.length_replicate, fun i d hd => ⟨fun h => absurd h (by omega), fun _ => List.eq_of_mem_replicate (List.mem_of_getElem? hd)⟩, HR0.out, HB0.out⟩
  case round =>
    obtain ⟨k, ns, hk, rfl, hlen, hall, hR, hb⟩ := hrel
    obtain ⟨e1, _⟩ := row_facts hR.self
    have cp := e1 0
    simp only [List.getElem?_toArray, List.getElem?_cons_zero] at cp
    have hplt := lt_of_heap hR.self
    clear e1
    by_cases hlt : k < n
    · obtain ⟨d, hd⟩ := get_some (l := ns) (k := k) (by omega)
      obtain rfl := (hall k d hd).2 (Nat.le_refl _)
      have hgl : w.heap.size < wr.heap.size := by
        obtain ⟨g', c', e, _, hg, _⟩ := hR.at hd
        simp only [Value.slice.injEq, Option.some.injEq, Addr.mk.injEq, and_true] at e
        obtain ⟨rfl, _⟩ := e
        exact hg
      have HR := hide hR
      have Hd := hide hd
      have Hlen := hide hlen
      have Hall := hide hall
      have HB := hide hb
      clear hR hd hlen hall hb HR0 HB0
      have hG := Grw.cell wr
      have hGn := Grw.some wr
      go_wp2_with fail
      refine wp_region_flt [0, 1, 2, 3, 4, 5] [6, 7, 8, 9] (fun w' => ∃ x : Grw wr, w' = x.w) (by kernel_rfl) (by kernel_rfl) (fun _ _ d _ _ h => by cases d <;> exact h) ⟨⟨wr.drew, (Below.refl _ _).drew⟩, rfl⟩ ?_
      simp only [pickOps, List.getElem?_cons_zero, List.getElem?_cons_succ]
      repeat (go_big_quiet_step (fail))
      refine wpQuiet_nil ?_
      refine ⟨_, rfl, ?_⟩
      refine wpList_make_full wr.drew (by rfl) _ _ 44 (by rfl) 0 3 ii (.int .i64 0) 1 Tryz.underlying44 Hi0.out Hi1.out Hi2.out .i64 .i64 (n : Int) (n : Int) n (by rfl) (by rfl) rfl rfl (by rw [Hi3.out]; omega) (by simp only [maxLen]; omega) (Nat.zero_le _) ?_
      intro w1 hown1 hgr1
      have hb1 : Below wr.heap.size wr w1 := ⟨hgr1.os, hgr1.tape, hgr1.output, hgr1.size, fun b hb => hgr1.block b hb (by simp)⟩
      have hA : w1.ownsRow 0 3 1 (.slice (some ⟨wr.heap.size, 0, none⟩) n n) (List.replicate n 0).length (intC (List.replicate n 0)) := by
        have := hown1
        simp only [Value.cells, Nat.mul_one, toList_madeCells_one] at this
        simpa [intC] using this
      have hlen := Hlen.out
      have hR' : ProgR wr (Ext NoS w wr) wm.heap.size (.slice (some ⟨w.heap.size, 0, none⟩) ns.length n) ns (.slice none 0 0) [] := by rw [hlen]; exact HR.out
      have fin := hR'.setAcked (k := k) hb1 Hd.out hA (fun b hb => by simp [Value.ownBlock] at hb; omega)
      obtain ⟨_, _, _, _, hg0, _, hcell, hfz⟩ := (hR'.below hb1).at Hd.out
      have HF := hide fin
      have n1 : PdR w1 (.slice (some ⟨w.heap.size, 0, none⟩) ns.length n) ns := (hR'.below hb1).nodes
      obtain ⟨q1, q2⟩ := n1.cells Hd.out
      have r4 := q1 4 (by decide)
      have z4 := q2 (k * 5 + 4)
      simp only [pnC, zPN, List.getElem?_cons_zero, List.getElem?_cons_succ] at r4
      have HB1 := hide hb1
      have hsb := hb1.size
      clear hG hGn fin hcell hfz q1 q2 n1 hR' hA hown1 hgr1 hb1
      go_wp2_with fail
      refine ⟨fun _ => ⟨⟨w1, HB1.out⟩, rfl⟩, _, rfl, ?_⟩
      go_wp2_with fail
      refine ⟨fun _ => ⟨⟨w1, HB1.out⟩, rfl⟩, _, rfl, ?_⟩
      go_wp2_with fail
      refine ⟨fun _ => ⟨⟨w1, HB1.out⟩, rfl⟩, _, rfl, ?_⟩
      go_wp2_with fail
      refine ⟨fun h => absurd rfl h, ?_⟩
      unfold wpFin
      go_wp2_with fail
      have hsz : (w1.setCell ⟨w.heap.size, k * 5 + 4, none⟩ (.slice (some ⟨wr.heap.size, 0, none⟩) n n)).heap.size = w1.heap.size := by simp [World.setCell]
      have hsw := HB.out.size
      have hf := HF.out
      rw [hlen] at hf
      refine ⟨⟨k + 1, ns.set k (zPN (.slice (some ⟨wr.heap.size, 0, none⟩) n n) (List.replicate n 0)), by omega, by go_num, by rw [List.length_set]; exact hlen, fun i d hd => ?_, hf.mono (fun b hx => ?_) (fun b hx => ?_), (HB.out.trans (HB1.out.mono hsw)).setCell (Nat.le_refl _) _⟩, by simp [intOf]; omega⟩
      · rcases set_at hd with ⟨rfl, rfl⟩ | ⟨hik, hd⟩
        · exact ⟨fun _ => ⟨_, rfl⟩, fun h => absurd h (by omega)⟩
        · have := Hall.out i d hd
          exact ⟨fun h => this.1 (by omega), fun h => this.2 (by omega)⟩
      · rcases hx with (x | x) | x
        · exact Or.inl x
        · exact Or.inr ⟨x.1, by rw [hsz]; omega⟩
        · exact Or.inr ⟨by omega, by rw [hsz]; exact x.2⟩
      · rcases hx with x | x
        · exact x.elim
        · exact x.2
    · have hkn : k = n := by omega
      subst hkn
      have hmap : ns.map PN.m = List.replicate k (zNd k) := by
        rw [List.eq_replicate_iff]
        refine ⟨by rw [List.length_map]; exact hlen, fun x hx => ?_⟩
        obtain ⟨d, hd, rfl⟩ := List.mem_map.1 hx
        obtain ⟨i, hi⟩ := List.getElem?_of_mem hd
        have hil : i < k := by have := (List.getElem?_eq_some_iff.1 hi).1; omega
        obtain ⟨v, rfl⟩ := (hall i d hi).1 hil
        rfl
      have HM := hide hmap
      have HR := hide hR
      have HB := hide hb
      clear hmap hall hR hb HR0 HB0
      go_wp2_with fail
      go_ret2
      exact ⟨_, rfl, ⟨_, _, _, _, HR.out, HM.out, rfl⟩, HB.out⟩
end Go.Proofs.YtnniimfinakioaaGreatDoor
namespace Go.Proofs.YtnniimfinakioaaGreatDoor
open Go.RowKit
attribute [local go_sem] toList_nm app_nm size_nm

theorem pn_of {ns : List PN} {W : Wd} (hm : ns.map PN.m = W.nodes) {k : Nat} {d : Nd} (hd : W.nodes[k]? = some d) : ∃ x, ns[k]? = some x ∧ x.m = d := by
  rw [← hm, List.getElem?_map] at hd
  cases hx : ns[k]? with
  | none => rw [hx] at hd; cases hd
  | some x => rw [hx] at hd; exact ⟨x, rfl, by simpa using hd⟩
theorem pn_to {ns : List PN} {W : Wd} (hm : ns.map PN.m = W.nodes) {k : Nat} {x : PN} (hx : ns[k]? = some x) : W.nodes[k]? = some x.m := by
  rw [← hm, List.getElem?_map, hx]; rfl
theorem cntOk {ns : List PN} {W : Wd} {H : List Ent} (hm : ns.map PN.m = W.nodes) (ok : WGH H W) : CntOk ns := by
  have hlen : ns.length = W.nodes.length := by rw [← hm, List.length_map]
  have hsum : (ns.map PN.made).sum = W.adds := by
    rw [← ok.sum, ← hm, List.map_map]; rfl
  refine ⟨fun d hd => ?_, fun d hd => ?_, fun i d hd => ?_, by have := ok.adds; omega, by have := ok.five; omega⟩
  · obtain ⟨i, hi⟩ := List.getElem?_of_mem hd
    exact sorted_nodup ord_before (ok.node i d.m (pn_to hm hi)).pc.sK
  · obtain ⟨i, hi⟩ := List.getElem?_of_mem hd
    have := ok.klen (ok.node i d.m (pn_to hm hi)).pc
    show d.m.p.K.length ≤ 1000
    omega
  · exact (ok.node i d.m (pn_to hm hd)).ownCount
theorem sum_made {ns : List PN} {W : Wd} {H : List Ent} (hm : ns.map PN.m = W.nodes) (ok : WGH H W) : (ns.map PN.made).sum = W.adds := by
  rw [← ok.sum, ← hm, List.map_map]; rfl

theorem ProgW.lt {w : World} {S : Nat → Prop} {p : Nat} {W : Wd} (h : ProgW w S p W) : ∀ b, S b → b < w.heap.size := by
  obtain ⟨vN, ns, vF, fs, hr, _⟩ := h
  exact hr.lt
theorem ProgW.kp {w w' : World} {S S' : Nat → Prop} {B p : Nat} {W : Wd} (h : ProgW w S p W) (k : Kp B S' w w') (o : Off S B S') : ProgW w' S p W := by
  obtain ⟨vN, ns, vF, fs, hr, h1⟩ := h
  exact ⟨vN, ns, vF, fs, hr.kp k o, h1⟩
theorem ProgW.grew {w w' : World} {S : Nat → Prop} {p : Nat} {W : Wd} (h : ProgW w S p W) (k : Below w.heap.size w w') : ProgW w' (Ext S w w') p W ∧ Kp w.heap.size S w w' := by
  obtain ⟨vN, ns, vF, fs, hr, h1⟩ := h
  exact ⟨⟨vN, ns, vF, fs, (hr.below k).ext hr.lt k.size, h1⟩, Kp.ofBelow k⟩
theorem ProgW.same {w : World} {S : Nat → Prop} {p : Nat} {W : Wd} (h : ProgW w S p W) : ProgW w (Ext S w w) p W ∧ Kp w.heap.size S w w := h.grew (Below.refl _ _)
end Go.Proofs.YtnniimfinakioaaGreatDoor
namespace Go.Proofs.YtnniimfinakioaaGreatDoor
open Go.RowKit
attribute [local go_sem] toList_nm app_nm size_nm

theorem WGH.tokS {H : List Ent} {W : Wd} (h : WGH H W) {t : Tok} (ht : t ∈ H.map Prod.snd) : TokS t := by
  obtain ⟨e, he, rfl⟩ := List.mem_map.1 ht
  obtain ⟨i, d, hd, h1, h2, h3⟩ := h.tok e he
  have hm := h.made hd
  have hi := (List.getElem?_eq_some_iff.1 hd).1
  have h5 := h.five
  exact ⟨by rw [h1]; omega, by rw [h1]; omega, by omega, by omega⟩
/-- The entries of a node that bear a name, all entries. -/
theorem named_set (w : World) (vE vK : Value) (L : List Ent) (s : Nm) (h : SetV entV w vE L) (hL : L.Pairwise fun a b => aheadB a b = true) (hN : L.length ≤ 1000000) :
    Calls Tryz.prog 59 #[.agg #[vE, vK], strV s] w fun e w' => ∃ r, e = .returned r ∧ w'.ownsRow w.heap.size 110 3 r (named s L).length (entC (named s L)) ∧ Below w.heap.size w w' := by
  obtain ⟨ks, h1, h2⟩ := h.perm (sorted_nodup ord_ahead hL)
  exact named_any w vE vK ks L s h1 h2 hL (by rw [h2.length_eq]; exact hN)
theorem entries_set (w : World) (vE vK : Value) (L : List Ent) (h : SetV entV w vE L) (hL : L.Pairwise fun a b => aheadB a b = true) (hN : L.length ≤ 1000000) :
    Calls Tryz.prog 69 #[.agg #[vE, vK]] w fun e w' => ∃ r, e = .returned r ∧ w'.ownsRow w.heap.size 110 3 r L.length (entC L) ∧ Below w.heap.size w w' := by
  obtain ⟨ks, h1, h2⟩ := h.perm (sorted_nodup ord_ahead hL)
  exact entries_any w vE vK ks L h1 h2 hL (by rw [h2.length_eq]; exact hN)
theorem names_set (w : World) (vE vK : Value) (L : List Ent) (h : SetV entV w vE L) (hL : L.Pairwise fun a b => aheadB a b = true) (hN : L.length ≤ 1000000) :
    Calls Tryz.prog 60 #[.agg #[vE, vK]] w fun e w' => ∃ r, e = .returned r ∧ w'.ownsRow w.heap.size 9 1 r (itemsL L).length (strC (itemsL L)) ∧ Below w.heap.size w w' := by
  obtain ⟨ks, h1, h2⟩ := h.perm (sorted_nodup ord_ahead hL)
  exact names_any w vE vK ks L h1 h2 hL (by rw [h2.length_eq]; exact hN)
theorem text_set (w : World) (vE vK : Value) (L : List Ent) (K : List Tok) (h : SetV entV w vE L) (hk : SetV tokV w vK K) (hL : L.Pairwise fun a b => aheadB a b = true) (hK : K.Pairwise fun a b => beforeB a b = true)
    (hN : L.length ≤ 1000) (hM : K.length ≤ 1000) (hE : ∀ e ∈ L, e.1.length ≤ 8 ∧ TokS e.2) (hT : ∀ t ∈ K, TokS t) :
    Calls Tryz.prog 48 #[.agg #[vE, vK]] w fun e w' => e = .returned (strV (pieceT L K)) ∧ Below w.heap.size w w' := by
  obtain ⟨ks, h1, h2⟩ := h.perm (sorted_nodup ord_ahead hL)
  obtain ⟨kt, h3, h4⟩ := hk.perm (sorted_nodup ord_before hK)
  exact pieceText_any w vE vK ks L kt K h1 h2 hL h3 h4 hK hN hM hE hT
end Go.Proofs.YtnniimfinakioaaGreatDoor
namespace Go.Proofs.YtnniimfinakioaaGreatDoor
open Go.RowKit
attribute [local go_sem] toList_nm app_nm size_nm


set_option maxHeartbeats 1000000 in
set_option maxRecDepth 100000 in
theorem pClear (w : World) (S : Nat → Prop) (p : Nat) (W : Wd) (i : Int) (h : ProgW w S p W) (ok : WG W) :
    Calls Tryz.prog 35 #[ptr p, .int .i64 i] w fun e w' => e = .returned (err (clearM W i).1) ∧ ProgW w' (Ext S w w') p (clearM W i).2 ∧ Kp w.heap.size S w w' := by
  obtain ⟨HH, ok⟩ := ok
  obtain ⟨vN, ns, vF, fs, hr, hm, hf⟩ := h
  have hlen : ns.length = W.nodes.length := by rw [← hm, List.length_map]
  have hl : ns.length ≤ 1000 := by have := ok.five; omega
  have H : ProgW w S p W := ⟨vN, ns, vF, fs, hr, hm, hf⟩
  cases hn : nodeAt W i with
  | none =>
    have e0 : clearM W i = (1, W) := by unfold clearM; rw [hn]
    rw [e0]
    go_enter Tryz.func35, Tryz.ntmps35
    go_wp2_with fail
    refine (at_no w S p _ ns vF fs hr _ (by rw [hlen]; exact nodeAt_none hn) hl).mono ?_
    rintro e w' ⟨rfl, rfl⟩
    go_wp2_with fail
    go_ret
    exact ⟨rfl, H.same⟩
  | some d =>
    obtain ⟨k, rfl, hk⟩ := nodeAt_some hn
    obtain ⟨x, hx, rfl⟩ := pn_of hm hk
    have hkl : k < ns.length := (List.getElem?_eq_some_iff.1 hx).1
    have nk := ok.node k x.m hk
    have hx5 : k < 100 := by have := ok.five; omega
    obtain ⟨g, c, rfl, hSg, hg, hgp, hcell, hfz⟩ := hr.at hx
    have hnd := hr.node x (List.mem_of_getElem? hx)
    have c0 := hcell 0 (by decide)
    have c1 := hcell 1 (by decide)
    simp only [pnC, List.getElem?_cons_zero, List.getElem?_cons_succ, Nat.add_zero] at c0 c1
    obtain ⟨m1, hm1⟩ : ∃ m, x.vE = .map m := ⟨_, hnd.pc.E.form⟩
    obtain ⟨m2, hm2⟩ : ∃ m, x.vK = .map m := ⟨_, hnd.pc.K.form⟩
    have sE := hnd.pc.E
    have sK := hnd.pc.K
    have lenL : x.p.L.length ≤ 60 := Nat.le_trans (ok.llen nk.pc) (by decide)
    have lenK : x.p.K.length ≤ 30 := ok.klen nk.pc
    have hcnt : x.count ≤ 60 := ok.count hk
    have hkpt : x.kept.length ≤ 60 := by have := nk.kept; have : x.m.kept.length = x.kept.length := List.length_map _; have : x.m.count = x.count := rfl; omega
    have soL : x.p.L.Pairwise fun a b => aheadB a b = true := nk.pc.sL
    have soK : x.p.K.Pairwise fun a b => beforeB a b = true := nk.pc.sK
    rw [hm1] at c0 sE
    rw [hm2] at c1 sK
    clear hcell
    have hE := entries_set w (.map m1) (.map m2) x.p.L sE soL (by omega)
    have e0 : clearM W k = takeM W k x.m x.p.L := by unfold clearM; rw [hn]; rfl
    by_cases hes : x.p.L = []
    · rw [e0, takeM, if_pos hes]
      go_enter Tryz.func35, Tryz.ntmps35
      go_wp2_with fail
      refine (at_yes w S p g c ns vF fs hr k hkl hl).mono ?_
      rintro e w' ⟨rfl, rfl⟩
      go_wp2_with fail
      refine hE.mono ?_
      rintro e w1 ⟨r, rfl, hr1, hb1⟩
      have hrr : PEntR w1 r [] := by rw [hes] at hr1; exact own_mono hr1 (Nat.zero_le _)
      clear hE hr1
      go_wp2_with fail
      refine (takeOut_none w1 _ r hrr).mono ?_
      rintro e w' ⟨rfl, rfl⟩
      go_wp2_with fail
      go_ret
      exact ⟨rfl, H.grew hb1⟩
    · rw [e0, takeM, if_neg hes]
      go_enter Tryz.func35, Tryz.ntmps35
      go_wp2_with fail
      refine (at_yes w S p g c ns vF fs hr k hkl hl).mono ?_
      rintro e w' ⟨rfl, rfl⟩
      go_wp2_with fail
      refine hE.mono ?_
      rintro e w1 ⟨r, rfl, hr1, hb1⟩
      have hrr : PEntR w1 r x.p.L := own_mono hr1 (Nat.zero_le _)
      clear hE hr1
      go_wp2_with fail
      refine (takeOut_ok w w1 S p g c ns vF fs hr hb1 k x hx r x.p.L hrr hes (by omega) (by omega) (by omega)).mono ?_
      rintro e w' ⟨rfl, ⟨ns', hR, hmm⟩, hK⟩
      go_wp2_with fail
      go_ret
      exact ⟨rfl, ⟨_, ns', _, _, hR, by rw [hmm, hm]; simp, hf⟩, hK⟩

set_option maxHeartbeats 1000000 in
set_option maxRecDepth 100000 in
theorem pRemove (w : World) (S : Nat → Prop) (p : Nat) (W : Wd) (i : Int) (s : Nm) (h : ProgW w S p W) (ok : WG W) (hs : s.length ≤ 2000000) :
    Calls Tryz.prog 31 #[ptr p, .int .i64 i, strV s] w fun e w' => e = .returned (err (removeM W i s).1) ∧ ProgW w' (Ext S w w') p (removeM W i s).2 ∧ Kp w.heap.size S w w' := by
  obtain ⟨HH, ok⟩ := ok
  obtain ⟨vN, ns, vF, fs, hr, hm, hf⟩ := h
  have hlen : ns.length = W.nodes.length := by rw [← hm, List.length_map]
  have hl : ns.length ≤ 1000 := by have := ok.five; omega
  have H : ProgW w S p W := ⟨vN, ns, vF, fs, hr, hm, hf⟩
  cases hn : nodeAt W i with
  | none =>
    have e0 : removeM W i s = (1, W) := by unfold removeM; rw [hn]
    rw [e0]
    go_enter Tryz.func31, Tryz.ntmps31
    go_wp2_with fail
    refine (at_no w S p _ ns vF fs hr _ (by rw [hlen]; exact nodeAt_none hn) hl).mono ?_
    rintro e w' ⟨rfl, rfl⟩
    go_wp2_with fail
    go_ret
    exact ⟨rfl, H.same⟩
  | some d =>
    obtain ⟨k, rfl, hk⟩ := nodeAt_some hn
    obtain ⟨x, hx, rfl⟩ := pn_of hm hk
    have hkl : k < ns.length := (List.getElem?_eq_some_iff.1 hx).1
    have nk := ok.node k x.m hk
    have hx5 : k < 100 := by have := ok.five; omega
    obtain ⟨g, c, rfl, hSg, hg, hgp, hcell, hfz⟩ := hr.at hx
    have hnd := hr.node x (List.mem_of_getElem? hx)
    have c0 := hcell 0 (by decide)
    have c1 := hcell 1 (by decide)
    simp only [pnC, List.getElem?_cons_zero, List.getElem?_cons_succ, Nat.add_zero] at c0 c1
    obtain ⟨m1, hm1⟩ : ∃ m, x.vE = .map m := ⟨_, hnd.pc.E.form⟩
    obtain ⟨m2, hm2⟩ : ∃ m, x.vK = .map m := ⟨_, hnd.pc.K.form⟩
    have sE := hnd.pc.E
    have sK := hnd.pc.K
    have lenL : x.p.L.length ≤ 60 := Nat.le_trans (ok.llen nk.pc) (by decide)
    have lenK : x.p.K.length ≤ 30 := ok.klen nk.pc
    have hcnt : x.count ≤ 60 := ok.count hk
    have hkpt : x.kept.length ≤ 60 := by have := nk.kept; have : x.m.kept.length = x.kept.length := List.length_map _; have : x.m.count = x.count := rfl; omega
    have soL : x.p.L.Pairwise fun a b => aheadB a b = true := nk.pc.sL
    have soK : x.p.K.Pairwise fun a b => beforeB a b = true := nk.pc.sK
    rw [hm1] at c0 sE
    rw [hm2] at c1 sK
    clear hcell
    have hE := named_set w (.map m1) (.map m2) x.p.L s sE soL (by omega)
    have hNm := pIsName_any s w hs
    cases hb : nameB s with
    | false =>
      have e0 : removeM W k s = (2, W) := by unfold removeM; rw [hn]; simp [hb]
      rw [e0]
      rw [hb] at hNm
      go_enter Tryz.func31, Tryz.ntmps31
      go_wp2_with fail
      refine (at_yes w S p g c ns vF fs hr k hkl hl).mono ?_
      rintro e w' ⟨rfl, rfl⟩
      go_wp2_with fail
      refine hNm.mono ?_
      rintro e w' ⟨rfl, rfl⟩
      go_wp2_with fail
      go_ret
      exact ⟨rfl, H.same⟩
    | true =>
      have e0 : removeM W k s = takeM W k x.m (named s x.p.L) := by unfold removeM; rw [hn]; simp [hb]; rfl
      rw [hb] at hNm
      have hnl := named_len s x.p.L
      by_cases hes : named s x.p.L = []
      · rw [e0, takeM, if_pos hes]
        go_enter Tryz.func31, Tryz.ntmps31
        go_wp2_with fail
        refine (at_yes w S p g c ns vF fs hr k hkl hl).mono ?_
        rintro e w' ⟨rfl, rfl⟩
        go_wp2_with fail
        refine hNm.mono ?_
        rintro e w' ⟨rfl, rfl⟩
        go_wp2_with fail
        refine hE.mono ?_
        rintro e w1 ⟨r, rfl, hr1, hb1⟩
        have hrr : PEntR w1 r [] := by rw [hes] at hr1; exact own_mono hr1 (Nat.zero_le _)
        clear hE hr1
        go_wp2_with fail
        refine (takeOut_none w1 _ r hrr).mono ?_
        rintro e w' ⟨rfl, rfl⟩
        go_wp2_with fail
        go_ret
        exact ⟨rfl, H.grew hb1⟩
      · rw [e0, takeM, if_neg hes]
        go_enter Tryz.func31, Tryz.ntmps31
        go_wp2_with fail
        refine (at_yes w S p g c ns vF fs hr k hkl hl).mono ?_
        rintro e w' ⟨rfl, rfl⟩
        go_wp2_with fail
        refine hNm.mono ?_
        rintro e w' ⟨rfl, rfl⟩
        go_wp2_with fail
        refine hE.mono ?_
        rintro e w1 ⟨r, rfl, hr1, hb1⟩
        have hrr : PEntR w1 r (named s x.p.L) := own_mono hr1 (Nat.zero_le _)
        clear hE hr1
        go_wp2_with fail
        refine (takeOut_ok w w1 S p g c ns vF fs hr hb1 k x hx r (named s x.p.L) hrr hes (by omega) (by omega) (by omega)).mono ?_
        rintro e w' ⟨rfl, ⟨ns', hR, hmm⟩, hK⟩
        go_wp2_with fail
        go_ret
        exact ⟨rfl, ⟨_, ns', _, _, hR, by rw [hmm, hm]; simp, hf⟩, hK⟩

set_option maxHeartbeats 1000000 in
set_option maxRecDepth 100000 in
theorem pItems (w : World) (S : Nat → Prop) (p : Nat) (W : Wd) (i : Int) (h : ProgW w S p W) (ok : WG W) :
    Calls Tryz.prog 30 #[ptr p, .int .i64 i] w fun e w' => ∃ v, e = .returned (.tuple #[v, err (itemsM W i).1]) ∧ StrR w' v (itemsM W i).2 ∧ (∀ g, v.ownBlock = some g → w.heap.size ≤ g) ∧ Below w.heap.size w w' := by
  obtain ⟨HH, ok⟩ := ok
  obtain ⟨vN, ns, vF, fs, hr, hm, hf⟩ := h
  have hlen : ns.length = W.nodes.length := by rw [← hm, List.length_map]
  have hl : ns.length ≤ 1000 := by have := ok.five; omega
  have H : ProgW w S p W := ⟨vN, ns, vF, fs, hr, hm, hf⟩
  cases hn : nodeAt W i with
  | none =>
    have e0 : itemsM W i = (1, []) := by unfold itemsM; rw [hn]
    rw [e0]
    go_enter Tryz.func30, Tryz.ntmps30
    go_wp2_with fail
    refine (at_no w S p _ ns vF fs hr _ (by rw [hlen]; exact nodeAt_none hn) hl).mono ?_
    rintro e w' ⟨rfl, rfl⟩
    go_wp2_with fail
    go_ret2
    exact ⟨_, rfl, World.ownsRow_nil .., by intro g hg; simp [Value.ownBlock] at hg, Below.refl _ _⟩
  | some d =>
    obtain ⟨k, rfl, hk⟩ := nodeAt_some hn
    obtain ⟨x, hx, rfl⟩ := pn_of hm hk
    have hkl : k < ns.length := (List.getElem?_eq_some_iff.1 hx).1
    have nk := ok.node k x.m hk
    have hx5 : k < 100 := by have := ok.five; omega
    obtain ⟨g, c, rfl, hSg, hg, hgp, hcell, hfz⟩ := hr.at hx
    have hnd := hr.node x (List.mem_of_getElem? hx)
    have c0 := hcell 0 (by decide)
    have c1 := hcell 1 (by decide)
    simp only [pnC, List.getElem?_cons_zero, List.getElem?_cons_succ, Nat.add_zero] at c0 c1
    obtain ⟨m1, hm1⟩ : ∃ m, x.vE = .map m := ⟨_, hnd.pc.E.form⟩
    obtain ⟨m2, hm2⟩ : ∃ m, x.vK = .map m := ⟨_, hnd.pc.K.form⟩
    have sE := hnd.pc.E
    have sK := hnd.pc.K
    have lenL : x.p.L.length ≤ 60 := Nat.le_trans (ok.llen nk.pc) (by decide)
    have lenK : x.p.K.length ≤ 30 := ok.klen nk.pc
    have hcnt : x.count ≤ 60 := ok.count hk
    have hkpt : x.kept.length ≤ 60 := by have := nk.kept; have : x.m.kept.length = x.kept.length := List.length_map _; have : x.m.count = x.count := rfl; omega
    have soL : x.p.L.Pairwise fun a b => aheadB a b = true := nk.pc.sL
    have soK : x.p.K.Pairwise fun a b => beforeB a b = true := nk.pc.sK
    rw [hm1] at c0 sE
    rw [hm2] at c1 sK
    clear hcell
    have e0 : itemsM W k = (0, itemsL x.p.L) := by unfold itemsM; rw [hn]; rfl
    rw [e0]
    have hE := names_set w (.map m1) (.map m2) x.p.L sE soL (by omega)
    go_enter Tryz.func30, Tryz.ntmps30
    go_wp2_with fail
    refine (at_yes w S p g c ns vF fs hr k hkl hl).mono ?_
    rintro e w' ⟨rfl, rfl⟩
    go_wp2_with fail
    refine hE.mono ?_
    rintro e w1 ⟨r, rfl, hr1, hb1⟩
    have HR := hide hr1
    clear hE hr1
    go_wp2_with fail
    go_ret2
    exact ⟨_, rfl, own_mono HR.out (Nat.zero_le _), fun g hg => (HR.out.lt g hg).1, hb1⟩

set_option maxHeartbeats 1000000 in
set_option maxRecDepth 100000 in
theorem pText (w : World) (S : Nat → Prop) (p : Nat) (W : Wd) (i : Int) (h : ProgW w S p W) (ok : WG W) :
    Calls Tryz.prog 17 #[ptr p, .int .i64 i] w fun e w' => e = .returned (.tuple #[strV (textM W i).2, err (textM W i).1]) ∧ Below w.heap.size w w' := by
  obtain ⟨HH, ok⟩ := ok
  obtain ⟨vN, ns, vF, fs, hr, hm, hf⟩ := h
  have hlen : ns.length = W.nodes.length := by rw [← hm, List.length_map]
  have hl : ns.length ≤ 1000 := by have := ok.five; omega
  have H : ProgW w S p W := ⟨vN, ns, vF, fs, hr, hm, hf⟩
  cases hn : nodeAt W i with
  | none =>
    have e0 : textM W i = (1, []) := by unfold textM; rw [hn]
    rw [e0]
    go_enter Tryz.func17, Tryz.ntmps17
    go_wp2_with fail
    refine (at_no w S p _ ns vF fs hr _ (by rw [hlen]; exact nodeAt_none hn) hl).mono ?_
    rintro e w' ⟨rfl, rfl⟩
    go_wp2_with fail
    go_ret2
    exact ⟨rfl, Below.refl _ _⟩
  | some d =>
    obtain ⟨k, rfl, hk⟩ := nodeAt_some hn
    obtain ⟨x, hx, rfl⟩ := pn_of hm hk
    have hkl : k < ns.length := (List.getElem?_eq_some_iff.1 hx).1
    have nk := ok.node k x.m hk
    have hx5 : k < 100 := by have := ok.five; omega
    obtain ⟨g, c, rfl, hSg, hg, hgp, hcell, hfz⟩ := hr.at hx
    have hnd := hr.node x (List.mem_of_getElem? hx)
    have c0 := hcell 0 (by decide)
    have c1 := hcell 1 (by decide)
    simp only [pnC, List.getElem?_cons_zero, List.getElem?_cons_succ, Nat.add_zero] at c0 c1
    obtain ⟨m1, hm1⟩ : ∃ m, x.vE = .map m := ⟨_, hnd.pc.E.form⟩
    obtain ⟨m2, hm2⟩ : ∃ m, x.vK = .map m := ⟨_, hnd.pc.K.form⟩
    have sE := hnd.pc.E
    have sK := hnd.pc.K
    have lenL : x.p.L.length ≤ 60 := Nat.le_trans (ok.llen nk.pc) (by decide)
    have lenK : x.p.K.length ≤ 30 := ok.klen nk.pc
    have hcnt : x.count ≤ 60 := ok.count hk
    have hkpt : x.kept.length ≤ 60 := by have := nk.kept; have : x.m.kept.length = x.kept.length := List.length_map _; have : x.m.count = x.count := rfl; omega
    have soL : x.p.L.Pairwise fun a b => aheadB a b = true := nk.pc.sL
    have soK : x.p.K.Pairwise fun a b => beforeB a b = true := nk.pc.sK
    rw [hm1] at c0 sE
    rw [hm2] at c1 sK
    clear hcell
    have e0 : textM W k = (0, pieceT x.p.L x.p.K) := by unfold textM; rw [hn]; rfl
    rw [e0]
    have hE := text_set w (.map m1) (.map m2) x.p.L x.p.K sE sK soL soK (by omega) (by omega) (fun e he => ⟨nameB_len (ok.nm e (nk.pc.hL e he)), ok.tokS (nk.pc.hK _ (nk.pc.sub e he))⟩) (fun t ht => ok.tokS (nk.pc.hK t ht))
    go_enter Tryz.func17, Tryz.ntmps17
    go_wp2_with fail
    refine (at_yes w S p g c ns vF fs hr k hkl hl).mono ?_
    rintro e w' ⟨rfl, rfl⟩
    go_wp2_with fail
    refine hE.mono ?_
    rintro e w1 ⟨rfl, hb1⟩
    clear hE
    go_wp2_with fail
    go_ret2
    exact ⟨rfl, hb1⟩
end Go.Proofs.YtnniimfinakioaaGreatDoor
