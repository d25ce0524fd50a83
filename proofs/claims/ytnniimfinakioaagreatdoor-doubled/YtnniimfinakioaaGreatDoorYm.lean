import Derived.Test.YtnniimfinakioaaGreatDoorYk
namespace Go.Proofs.YtnniimfinakioaaGreatDoor
open Go.RowKit
attribute [local go_sem] toList_nm app_nm size_nm

theorem zeroInt (w : World) : (zeroValue 3).run Tryz.prog w = .ok (.int .i64 0) w := by kernel_rfl
/-- A row of numbers is cleared. -/
theorem run_clearInts (w : World) {ty : TypeId} {g n cap : Nat} {xs : List Value} (hown : w.ownsRow 0 3 1 (.slice (some ⟨g, 0, none⟩) n cap) n xs) (hn : 0 < n) :
    ∃ w', (Builtin.clear_ #[44] ty #[.slice (some ⟨g, 0, none⟩) n cap]).run Tryz.prog w = .ok (.tuple #[]) w' ∧ w'.ownsRow 0 3 1 (.slice (some ⟨g, 0, none⟩) n cap) n (List.replicate n (.int .i64 0)) ∧ w.grownBy w' (some g) := by
  rcases hown.2 with ⟨hx, _⟩ | ⟨g', cap', cur, hx, hbg, hg, hnc, hcm, hcs, htake⟩
  · cases hx
  · simp only [Value.slice.injEq, Option.some.injEq, Addr.mk.injEq, and_true, true_and] at hx
    obtain ⟨rfl, rfl⟩ := hx
    have hz : (Builtin.zeroCells (Value.int .i64 0).cells n).toList = List.replicate n (.int .i64 0) := by
      apply List.ext_getElem
      · simp [Builtin.zeroCells, Value.cells]
      · intro i h1 h2
        simp [Builtin.zeroCells, Value.cells, Nat.mod_one]
    have hst := run_storeCells_at Tryz.prog g 0 3 (List.replicate n (.int .i64 0)) 0 cur w hg (by simp; omega) (by intro u hu; rw [List.eq_of_mem_replicate hu]; rfl)
    simp only [Nat.add_zero, List.take_zero, List.nil_append, List.length_replicate, Nat.zero_add] at hst
    refine ⟨w.setRow g (List.replicate n (Value.int .i64 0) ++ cur.toList.drop n).toArray, ?_, ?_, ?_⟩
    · cases n with
      | zero => omega
      | succ n => simp [Builtin.clear_, run_underlying Tryz.underlying44, hz, hst]
    · have hset := setRow_heap w g cur (List.replicate n (Value.int .i64 0) ++ cur.toList.drop n).toArray 3 (0, 0) hg
      refine ⟨by simp, .inr ⟨g, cap, _, rfl, hbg, hset, hnc, hcm, ?_, ?_⟩⟩
      · simp; omega
      · simp only [Nat.mul_one]
        rw [List.take_append_of_le_length (by simp), List.take_of_length_le (by simp)]
    · exact ⟨rfl, rfl, rfl, by simp [World.setRow], fun b hb hne => setRow_other w g b _ (fun e => hne (by rw [e]))⟩

/-- A node's acks are others. -/
theorem ProgR.ackRow {w w' : World} {S : Nat → Prop} {p : Nat} {vN vF : Value} {ns : List PN} {fs : List PM} (h : ProgR w S p vN ns vF fs) {i : Nat} {d : PN} (hd : ns[i]? = some d) {gA : Nat} (hA : d.vAcked.ownBlock = some gA) (l : List Nat)
    (kp : Kp w.heap.size (fun b => b = gA) w w') (hown : w'.ownsRow 0 3 1 d.vAcked l.length (intC l)) : ProgR w' S p vN (ns.set i { d with acked := l }) vF fs := by
  have hnd := h.node d (List.mem_of_getElem? hd)
  have ot : OfT w (fun b => b = gA) 3 := OfT.row hnd.acked hA
  have hgp : p ≠ gA := fun e => by
    obtain ⟨c', fz, hc⟩ := ot gA rfl
    rw [← e, h.self] at hc
    simp at hc
  refine ⟨fun b hb => Nat.lt_of_lt_of_le (h.lt b hb) kp.size, (kp.block p (lt_of_heap h.self) hgp).trans h.self, h.sp, ?_, h.sN, ?_, ?_, ?_, h.fly.kpE kp (Nat.le_refl _) ot (by decide)⟩
  · rw [List.length_set, flat_same (a := d) (f := pnC) (a' := { d with acked := l }) rfl hd]
    exact own_kpE h.nodes kp (Nat.le_refl _) ot (by decide)
  · intro x hx
    obtain ⟨j, hj⟩ := List.mem_iff_getElem?.1 hx
    rcases set_at hj with ⟨rfl, rfl⟩ | ⟨hne, hj⟩
    · exact ⟨hnd.pc.kpE kp (Nat.le_refl _) ot, own_kpE hnd.kept kp (Nat.le_refl _) ot (by decide), hnd.sKept, fun q hq => (hnd.keptP q hq).kpE kp (Nat.le_refl _) ot, hown, hnd.sAcked⟩
    · have hx := h.node x (List.mem_of_getElem? hj)
      refine ⟨hx.pc.kpE kp (Nat.le_refl _) ot, own_kpE hx.kept kp (Nat.le_refl _) ot (by decide), hx.sKept, fun q hq => (hx.keptP q hq).kpE kp (Nat.le_refl _) ot, ?_, hx.sAcked⟩
      exact own_kp hx.acked kp fun g hg => ⟨(hx.acked.lt g hg).2, fun e => by subst e; exact hne (h.disA _ _ _ _ _ hd hj hA hg)⟩
  · intro a b x y b' ha hb h1 h2
    rcases set_at ha with ⟨rfl, rfl⟩ | ⟨_, ha⟩ <;> rcases set_at hb with ⟨rfl, rfl⟩ | ⟨_, hb⟩
    · rfl
    · exact h.disK _ _ _ _ b' hd hb h1 h2
    · exact h.disK _ _ _ _ b' ha hd h1 h2
    · exact h.disK _ _ _ _ b' ha hb h1 h2
  · intro a b x y b' ha hb h1 h2
    rcases set_at ha with ⟨rfl, rfl⟩ | ⟨_, ha⟩ <;> rcases set_at hb with ⟨rfl, rfl⟩ | ⟨_, hb⟩
    · rfl
    · exact h.disA _ _ _ _ b' hd hb h1 h2
    · exact h.disA _ _ _ _ b' ha hd h1 h2
    · exact h.disA _ _ _ _ b' ha hb h1 h2

/-- What a node keeps is another row. -/
theorem ProgR.keptRow {w w3 : World} {S Sx : Nat → Prop} {p g c : Nat} {vF v3 : Value} {ns : List PN} {fs : List PM} (h : ProgR w S p (.slice (some ⟨g, 0, none⟩) ns.length c) ns vF fs) {i : Nat} {d : PN} (hd : ns[i]? = some d) (ks : List PK)
    (hSx : Sx = fun b => d.vKept.ownBlock = some b) (kp : Kp w.heap.size Sx w w3) (hown : w3.ownsRow 0 145 3 v3 ks.length (ks.flatMap pkC)) (hat : ∀ b, v3.ownBlock = some b → d.vKept.ownBlock = some b) (hks : ∀ k ∈ ks, PPieceR w S k.vE k.vK k.p) :
    ProgR (w3.setCell ⟨g, i * 5 + 3, none⟩ v3) S p (.slice (some ⟨g, 0, none⟩) ns.length c) (ns.set i { d with vKept := v3, kept := ks }) vF fs ∧ Kp w.heap.size S w (w3.setCell ⟨g, i * 5 + 3, none⟩ v3) := by
  have hnd := h.node d (List.mem_of_getElem? hd)
  obtain ⟨g', c', hgc, hSg, hg, hgp, hcell, hfz⟩ := h.at hd
  simp only [Value.slice.injEq, Option.some.injEq, Addr.mk.injEq, and_true] at hgc
  obtain ⟨rfl, _, rfl⟩ := hgc
  have otx : OfT w Sx 145 := by rw [hSx]; exact OfT.own hnd.kept
  have hSxS : ∀ b, Sx b → S b := fun b hb => by rw [hSx] at hb; exact hnd.sKept b hb
  have hplt : p < w.heap.size := h.lt p h.sp
  have hpx : ¬ Sx p := fun hx => by
    obtain ⟨c', fz, hc⟩ := otx p hx
    rw [h.self] at hc
    simp at hc
  have n3 : PdR w3 (.slice (some ⟨g, 0, none⟩) ns.length c) ns := own_kpE h.nodes kp (Nat.le_refl _) otx (by decide)
  have ot3 : OfT w3 (fun b => b = g) 99 := OfT.row n3 rfl
  have kp5 : Kp w3.heap.size (fun b => b = g) w3 (w3.setCell ⟨g, i * 5 + 3, none⟩ v3) := Kp.set1 w3 g _ _
  have n5 : PdR (w3.setCell ⟨g, i * 5 + 3, none⟩ v3) (.slice (some ⟨g, 0, none⟩) ns.length c) (ns.set i { d with vKept := v3, kept := ks }) := PdR.set (j := 3) n3 hd (by decide) rfl
  have hs3 := kp.size
  have kpAll : Kp w.heap.size S w (w3.setCell ⟨g, i * 5 + 3, none⟩ v3) := (kp.mono (Nat.le_refl _) (fun b _ hb => hSxS b hb)).trans (kp5.mono hs3 (fun b _ hb => hb ▸ hSg))
  have pce : ∀ {S : Nat → Prop} {a b : Value} {r : Pc}, PPieceR w S a b r → PPieceR (w3.setCell ⟨g, i * 5 + 3, none⟩ v3) S a b r := fun hp => (hp.kpE kp (Nat.le_refl _) otx).kpE kp5 (Nat.le_refl _) ot3
  have ak : ∀ {n : PN}, PNodeR w S n → (w3.setCell ⟨g, i * 5 + 3, none⟩ v3).ownsRow 0 3 1 n.vAcked n.acked.length (intC n.acked) := fun hp => own_kpE (own_kpE hp.acked kp (Nat.le_refl _) otx (by decide)) kp5 (Nat.le_refl _) ot3 (by decide)
  refine ⟨⟨fun b hb => Nat.lt_of_lt_of_le (h.lt b hb) kpAll.size, (kp5.block p (by omega) (Ne.symm hgp)).trans ((kp.block p hplt hpx).trans h.self), h.sp, n5, h.sN, ?_, ?_, ?_, (h.fly.kpE kp (Nat.le_refl _) otx (by decide)).kpE kp5 (Nat.le_refl _) ot3 (by decide)⟩, kpAll⟩
  · intro n hn
    obtain ⟨j, hj⟩ := List.mem_iff_getElem?.1 hn
    rcases set_at hj with ⟨rfl, rfl⟩ | ⟨hij, hj⟩
    · exact ⟨pce hnd.pc, own_kpE hown kp5 (Nat.le_refl _) ot3 (by decide), fun b hb => hnd.sKept b (hat b hb), fun k hk => pce (hks k hk), ak (n := d) hnd, hnd.sAcked⟩
    · have hn2 := h.node n (List.mem_of_getElem? hj)
      refine ⟨pce hn2.pc, ?_, hn2.sKept, fun k hk => pce (hn2.keptP k hk), ak hn2, hn2.sAcked⟩
      refine own_kpE (own_kp hn2.kept kp (fun b hb => ⟨(hn2.kept.lt b hb).2, fun hx => ?_⟩)) kp5 (Nat.le_refl _) ot3 (by decide)
      rw [hSx] at hx
      exact hij (h.disK i j d n b hd hj hx hb)
  · intro a b x y b' ha hb h1 h2
    rcases set_at ha with ⟨rfl, rfl⟩ | ⟨hia, ha⟩ <;> rcases set_at hb with ⟨rfl, rfl⟩ | ⟨hib, hb⟩
    · rfl
    · exact h.disK _ _ _ _ b' hd hb (hat _ h1) h2
    · exact h.disK _ _ _ _ b' ha hd h1 (hat _ h2)
    · exact h.disK a b x y b' ha hb h1 h2
  · intro a b x y b' ha hb h1 h2
    rcases set_at ha with ⟨rfl, rfl⟩ | ⟨hia, ha⟩ <;> rcases set_at hb with ⟨rfl, rfl⟩ | ⟨hib, hb⟩
    · rfl
    · exact h.disA _ _ _ _ b' hd hb h1 h2
    · exact h.disA _ _ _ _ b' ha hd h1 h2
    · exact h.disA _ _ _ _ b' ha hb h1 h2

set_option maxHeartbeats 1000000 in
set_option maxRecDepth 100000 in
theorem crash_any (w : World) (S : Nat → Prop) (p g c : Nat) (ns : List PN) (vF : Value) (fs : List PM) (h : ProgR w S p (.slice (some ⟨g, 0, none⟩) ns.length c) ns vF fs) (i : Nat) (d : PN) (hd : ns[i]? = some d) (h1 : 0 < d.acked.length) :
    Calls Tryz.prog 77 #[.pointer (some ⟨g, i * 5, none⟩)] w fun e w' => e = .returned (.tuple #[]) ∧
      ProgR w' S p (.slice (some ⟨g, 0, none⟩) ns.length c) (ns.set i { d with vKept := .slice none 0 0, kept := [], acked := List.replicate d.acked.length 0 }) vF fs ∧ Kp w.heap.size S w w' := by
  obtain ⟨g', c', hgc, hSg, hg, hgp, hcell, hfz⟩ := h.at hd
  simp only [Value.slice.injEq, Option.some.injEq, Addr.mk.injEq, and_true] at hgc
  obtain ⟨rfl, _, rfl⟩ := hgc
  have hnd := h.node d (List.mem_of_getElem? hd)
  have c3 := hcell 3 (by decide)
  have z3 := hfz (i * 5 + 3)
  simp only [pnC, List.getElem?_cons_zero, List.getElem?_cons_succ] at c3
  obtain ⟨oK, cK, hkK, _, _⟩ := own_form hnd.kept
  rw [hkK] at c3
  obtain ⟨hR1, hK1⟩ := h.keptRow (v3 := .slice none 0 0) hd [] (Sx := fun b => d.vKept.ownBlock = some b) rfl (Kp.refl _ _ _) (World.ownsRow_nil ..) (by simp [Value.ownBlock]) (by simp)
  have hd1 : (ns.set i { d with vKept := .slice none 0 0, kept := [] })[i]? = some { d with vKept := .slice none 0 0, kept := [] } := set_get hd
  have hnd1 := hR1.node _ (List.mem_of_getElem? hd1)
  have hl1 : (ns.set i { d with vKept := .slice none 0 0, kept := [] }).length = ns.length := List.length_set
  have hR1' := hR1
  rw [← hl1] at hR1'
  obtain ⟨g', c', hgc, _, _, _, hcell1, _⟩ := hR1'.at hd1
  simp only [Value.slice.injEq, Option.some.injEq, Addr.mk.injEq, and_true] at hgc
  obtain ⟨rfl, _, rfl⟩ := hgc
  have c4 := hcell1 4 (by decide)
  simp only [pnC, List.getElem?_cons_zero, List.getElem?_cons_succ] at c4
  have hA := hnd1.acked
  obtain ⟨oA, cA, hkA, _, _⟩ := own_form hA
  rw [show (({ d with vKept := .slice none 0 0, kept := [] } : PN).vAcked) = d.vAcked from rfl] at hkA
  have hA' : (w.setCell ⟨g, i * 5 + 3, none⟩ (.slice none 0 0)).ownsRow 0 3 1 (.slice oA d.acked.length cA) d.acked.length (intC d.acked) := hkA ▸ hA
  obtain ⟨gA, cap, e, _, hlt⟩ := World.ownsRow.form hA' h1
  simp only [Value.slice.injEq, true_and] at e
  obtain ⟨rfl, rfl⟩ := e
  rw [hkA] at c4
  obtain ⟨w2, hrun, hown2, hgr2⟩ := run_clearInts (ty := 0) _ hA' h1
  have kp2 : Kp (w.setCell ⟨g, i * 5 + 3, none⟩ (.slice none 0 0)).heap.size (fun b => b = gA) (w.setCell ⟨g, i * 5 + 3, none⟩ (.slice none 0 0)) w2 := (Kp.refl _ _ _).grown hgr2 (Nat.le_refl _) (fun k hk => Or.inr (by cases hk; rfl))
  have fin := hR1.ackRow hd1 (gA := gA) (by show d.vAcked.ownBlock = _; rw [hkA]; rfl) (List.replicate d.acked.length 0) kp2 (by
    show w2.ownsRow 0 _ 1 d.vAcked _ _
    rw [hkA, List.length_replicate]
    simpa [intC] using hown2)
  rw [List.set_set] at fin
  have hs1 : (w.setCell ⟨g, i * 5 + 3, none⟩ (.slice none 0 0)).heap.size = w.heap.size := by simp [World.setCell]
  have kpf : Kp w.heap.size S w w2 := hK1.trans (kp2.mono (by omega) fun b _ hb => by
    have := hnd.sAcked gA (by rw [hkA]; rfl)
    exact hb ▸ this)
  have FIN := hide fin
  have KPF := hide kpf
  clear hcell hcell1 hR1 hR1' hK1 hd1 hnd1 fin kpf kp2 hown2 hgr2 hA hA' hkA hkK hnd hl1
  go_enter Tryz.func77, Tryz.ntmps77
  go_wp2_with fail
  go_end0
  exact ⟨rfl, FIN.out, KPF.out⟩

set_option maxHeartbeats 1000000 in
set_option maxRecDepth 100000 in
theorem pCrash (w : World) (S : Nat → Prop) (p : Nat) (W : Wd) (i : Int) (h : ProgW w S p W) (ok : WG W) :
    Calls Tryz.prog 43 #[ptr p, .int .i64 i] w fun e w' => e = .returned (err (crashM W i).1) ∧ ProgW w' (Ext S w w') p (crashM W i).2 ∧ Kp w.heap.size S w w' := by
  obtain ⟨HH, ok⟩ := ok
  obtain ⟨vN, ns, vF, fs, hr, hm, hf⟩ := h
  have hlen : ns.length = W.nodes.length := by rw [← hm, List.length_map]
  have hl : ns.length ≤ 1000 := by have := ok.five; omega
  have H : ProgW w S p W := ⟨vN, ns, vF, fs, hr, hm, hf⟩
  cases hn : nodeAt W i with
  | none =>
    have e0 : crashM W i = (1, W) := by unfold crashM; rw [hn]
    rw [e0]
    go_enter Tryz.func43, Tryz.ntmps43
    go_wp2_with fail
    refine (at_no w S p _ ns vF fs hr _ (by rw [hlen]; exact nodeAt_none hn) hl).mono ?_
    rintro e w' ⟨rfl, rfl⟩
    go_wp2_with fail
    go_ret
    exact ⟨rfl, H.same⟩
  | some d =>
    obtain ⟨k, rfl, hk⟩ := nodeAt_some hn
    obtain ⟨x, hx, rfl⟩ := pn_of hm hk
    have hkl : k < ns.length := (List.getElem?_eq_some_iff.1 hx).1
    have nk := ok.node k x.m hk
    obtain ⟨g, c, rfl, _, _, _, _, _⟩ := hr.at hx
    have hal : x.acked.length = W.nodes.length := nk.acked
    have e0 : crashM W k = (0, { W with nodes := W.nodes.set k { x.m with kept := [], acked := List.replicate W.nodes.length 0 } }) := by unfold crashM; rw [hn]; simp
    rw [e0]
    have hC := crash_any w S p g c ns vF fs hr k x hx (by have := ok.one; omega)
    go_enter Tryz.func43, Tryz.ntmps43
    go_wp2_with fail
    refine (at_yes w S p g c ns vF fs hr k hkl hl).mono ?_
    rintro e w' ⟨rfl, rfl⟩
    go_wp2_with fail
    refine hC.mono ?_
    rintro e w1 ⟨rfl, hR, hK⟩
    clear hC
    go_wp2_with fail
    go_ret
    refine ⟨rfl, ⟨_, _, _, _, hR.ext (w' := w) hr.lt hK.size, ?_, hf⟩, hK⟩
    rw [List.map_set, hm, ← hal]
    rfl
end Go.Proofs.YtnniimfinakioaaGreatDoor
namespace Go.Proofs.YtnniimfinakioaaGreatDoor
open Go.RowKit
attribute [local go_sem] toList_nm app_nm size_nm

theorem own_prefix {α : Type} {f : α → List Value} {z : Nat} (hf : FW f z) {w : World} {e g c : Nat} {l : List α} (h : w.ownsRow 0 e z (.slice (some ⟨g, 0, none⟩) l.length c) l.length (l.flatMap f)) (k : Nat) (hk : k ≤ l.length) :
    w.ownsRow 0 e z (.slice (some ⟨g, 0, none⟩) k c) k ((l.take k).flatMap f) := by
  rcases h.2 with ⟨hx, _⟩ | ⟨g', cap', cur, hx, hbg, hg, hnc, hcm, hcs, htake⟩
  · cases hx
  · simp only [Value.slice.injEq, Option.some.injEq, Addr.mk.injEq, and_true, true_and] at hx
    obtain ⟨rfl, rfl⟩ := hx
    have hl : (l.take k).length = k := by rw [List.length_take]; omega
    have h2 : ((l.take k).flatMap f).length = k * z := by rw [flat_len hf, hl]
    refine ⟨h2, .inr ⟨g, c, cur, rfl, hbg, hg, by omega, hcm, hcs, ?_⟩⟩
    have h1 : l.flatMap f = (l.take k).flatMap f ++ (l.drop k).flatMap f := by rw [← List.flatMap_append, List.take_append_drop]
    have h3 : cur.toList.take (k * z) = (cur.toList.take (l.length * z)).take (k * z) := by rw [List.take_take, Nat.min_eq_left (Nat.mul_le_mul_right _ hk)]
    rw [h3, htake, h1, List.take_append_of_le_length (by omega), List.take_of_length_le (by omega)]
theorem zeroKept (w : World) : (zeroValue 145).run Tryz.prog w = .ok (.agg #[.int .i64 0, .map none, .map none]) w := by kernel_rfl
def KeptV (ks : List PK) : Prop := ∀ k ∈ ks, (∃ x, k.vE = .map x) ∧ ∃ x, k.vK = .map x
abbrev closB (bx : Nat) : Value := .func (.func 91) #[] #[.pointer (some ⟨bx, 0, none⟩)]
abbrev pkV (k : PK) : Value := .agg #[.int .i64 k.n, k.vE, k.vK]

set_option maxHeartbeats 1000000 in
set_option maxRecDepth 100000 in
theorem closB_any (w : World) (n m bx : Nat) (x1 x2 : Option Nat) (hc : w.cell? ⟨bx, 0, none⟩ = some (.int .i64 m)) (hbx : bx < w.heap.size) (v : Bool) (hv : decide (n < m) = v) :
    Calls Tryz.prog 91 #[.agg #[.int .i64 n, .map x1, .map x2], .pointer (some ⟨bx, 0, none⟩)] w fun e w' => e = .returned (.bool v) ∧ Below w.heap.size w w' := by
  have hb : Below w.heap.size w (w.alloc (.cells #[.int .i64 n, .map x1, .map x2] 145)) := (Below.refl _ _).alloc (Nat.le_refl _) _
  have HB := hide hb
  clear hb
  go_enter Tryz.func91, Tryz.ntmps91
  go_wp2_with fail
  go_ret
  exact ⟨rfl, HB.out⟩

set_option maxHeartbeats 2000000 in
set_option maxRecDepth 100000 in
theorem index_any (w : World) (o : Option Addr) (cap : Nat) (ks : List PK) (m bx : Nat) (hrow : w.ownsRow 0 145 3 (.slice o ks.length cap) ks.length (ks.flatMap pkC)) (hks : KeptV ks) (hc : w.cell? ⟨bx, 0, none⟩ = some (.int .i64 m)) (hbx : bx < w.heap.size) (hl : ks.length ≤ 1000000) :
    Calls Tryz.prog 126 #[.slice o ks.length cap, closB bx] w fun e w' => ∃ r : Int, e = .returned (.int .i64 r) ∧ Below w.heap.size w w' ∧
      ((r = -1 ∧ ∀ k ∈ ks, ¬ k.n < m) ∨ ∃ j : Nat, r = j ∧ (∀ k ∈ ks.take j, ¬ k.n < m) ∧ ∃ x, ks[j]? = some x ∧ x.n < m) := by
  have HROW := hide hrow
  have HKS := hide hks
  clear hrow hks
  go_enter Tryz.func126, Tryz.ntmps126
  go_wp2_with fail
  go_loopw [8] (fun j wr => ∃ k : Nat, k ≤ ks.length ∧ j = .int .i64 k ∧ (∀ x ∈ ks.take k, ¬ x.n < m) ∧ Below w.heap.size w wr) (fun j _ => ks.length - (intOf j).toNat)
  case atStart => exact ⟨0, Nat.zero_le _, rfl, by simp, Below.refl _ _⟩
  case round =>
    obtain ⟨k, hk, rfl, hno, hbel⟩ := hrel
    by_cases hlt : k < ks.length
    · obtain ⟨x, hx⟩ := get_some hlt
      obtain ⟨gk, rfl, hgk, d1, d2, d3⟩ := pKept_at HROW.out hx
      obtain ⟨⟨x1, hx1⟩, ⟨x2, hx2⟩⟩ := HKS.out x (List.mem_of_getElem? hx)
      have q1 := (hbel.cell (p := ⟨gk, k * 3, none⟩) hgk).trans d1
      have q2 := (hbel.cell (p := ⟨gk, k * 3 + 1, none⟩) hgk).trans d2
      have q3 := (hbel.cell (p := ⟨gk, k * 3 + 2, none⟩) hgk).trans d3
      have q4 := (hbel.cell (p := ⟨bx, 0, none⟩) hbx).trans hc
      rw [hx1] at q2
      rw [hx2] at q3
      have hT : ks.take (k + 1) = ks.take k ++ [x] := take_snoc' hx
      have HX := hide hx
      have HNO := hide hno
      have HBL := hide hbel
      have HT := hide hT
      have hs := hbel.size
      clear d1 d2 d3 hx1 hx2 hx hno hbel hT
      by_cases hxm : x.n < m
      · have hC := closB_any wr x.n m bx x1 x2 q4 (by omega) true (by simpa using hxm)
        have HXM := hide hxm
        clear hxm q4
        go_wp2_with fail
        refine hC.mono ?_
        rintro e w1 ⟨rfl, hb1⟩
        have HB1 := hide (HBL.out.trans (hb1.mono HBL.out.size))
        clear hC hb1
        go_wp2_with fail
        go_ret
        exact ⟨_, rfl, HB1.out, Or.inr ⟨k, rfl, HNO.out, x, HX.out, HXM.out⟩⟩
      · have hC := closB_any wr x.n m bx x1 x2 q4 (by omega) false (by simpa using hxm)
        have HXM := hide hxm
        clear hxm q4
        go_wp2_with fail
        refine hC.mono ?_
        rintro e w1 ⟨rfl, hb1⟩
        have HB1 := hide (HBL.out.trans (hb1.mono HBL.out.size))
        clear hC hb1
        go_wp2_with fail
        exact ⟨⟨k + 1, by omega, by go_num, by
          rw [HT.out]
          intro y hy
          rcases List.mem_append.1 hy with h | h
          · exact HNO.out y h
          · rw [List.mem_singleton] at h
            exact h ▸ HXM.out, HB1.out⟩, by simp [intOf]; omega⟩
    · have hke : k = ks.length := by omega
      subst hke
      rw [List.take_of_length_le (Nat.le_refl _)] at hno
      have HNO := hide hno
      have HBL := hide hbel
      clear hno hbel
      go_wp2_with fail
      go_ret
      exact ⟨_, rfl, HBL.out, Or.inl ⟨rfl, HNO.out⟩⟩

set_option maxHeartbeats 1000000 in
set_option maxRecDepth 100000 in
theorem min_any (w : World) (g cap n : Nat) (xs : List Int) (hn : xs.length = n) (hrow : w.ownsRow 0 3 1 (.slice (some ⟨g, 0, none⟩) n cap) n (xs.map fun x => .int .i64 x)) (h1 : 1 ≤ n) (hl : n ≤ 1000000) :
    Calls Tryz.prog 63 #[.slice (some ⟨g, 0, none⟩) n cap] w fun e w' => ∃ r, e = .returned (.int .i64 r) ∧ r ∈ xs ∧ (∀ x ∈ xs, r ≤ x) ∧ w' = w := by
  obtain ⟨x0, hx0⟩ := get_some (l := xs) (k := 0) (by omega)
  obtain ⟨g', hg', _, d0, _⟩ := own1_at (k := 0) (u := .int .i64 x0) hrow (by simp [hx0])
  simp only [Option.some.injEq, Addr.mk.injEq, and_true] at hg'
  subst hg'
  have hlt1 : decide ((n : Int) < 1) = false := by simp; omega
  have HROW := hide hrow
  have HX0 := hide hx0
  have HN := hide hn
  clear hrow hx0 hn
  go_enter Tryz.func63, Tryz.ntmps63
  go_wp2_with fail
  go_loopw [3, 4] (fun r j wr => ∃ (k : Nat) (y : Int), 1 ≤ k ∧ k ≤ n ∧ j = .int .i64 k ∧ r = .int .i64 y ∧ y ∈ xs.take k ∧ (∀ x ∈ xs.take k, y ≤ x) ∧ wr = w) (fun _ j _ => n - (intOf j).toNat)
  case atStart =>
    have hT : xs.take 1 = [x0] := by
      have := take_snoc' HX0.out
      simpa using this
    exact ⟨1, x0, Nat.le_refl _, h1, rfl, rfl, by rw [hT]; simp, by rw [hT]; simp, rfl⟩
  case round =>
    obtain ⟨k, y, hk1, hk, rfl, rfl, hy, hall, rfl⟩ := hrel
    by_cases hlt : k < n
    · obtain ⟨x, hx⟩ := get_some (l := xs) (k := k) (by have := HN.out; omega)
      obtain ⟨g', hg', _, dk, _⟩ := own1_at (k := k) (u := .int .i64 x) HROW.out (by simp [hx])
      simp only [Option.some.injEq, Addr.mk.injEq, and_true] at hg'
      subst hg'
      have hT : xs.take (k + 1) = xs.take k ++ [x] := take_snoc' hx
      have HT := hide hT
      have HY := hide hy
      have HA := hide hall
      clear hT hx hy hall
      go_wp2_with fail
      refine ⟨⟨k + 1, min y x, by omega, by omega, by go_num, rfl, ?_, ?_, trivial⟩, by simp [intOf]; omega⟩
      · rw [HT.out]
        by_cases h : y ≤ x
        · rw [Int.min_eq_left h]; exact List.mem_append_left _ HY.out
        · rw [Int.min_eq_right (by omega)]; simp
      · rw [HT.out]
        intro z hz
        rcases List.mem_append.1 hz with h | h
        · exact Int.le_trans (Int.min_le_left _ _) (HA.out z h)
        · rw [List.mem_singleton] at h
          exact h ▸ Int.min_le_right _ _
    · have hke : k = n := by omega
      subst hke
      rw [List.take_of_length_le (by have := HN.out; omega)] at hy hall
      have HY := hide hy
      have HA := hide hall
      clear hy hall
      go_wp2_with fail
      go_ret
      exact ⟨_, rfl, HY.out, HA.out, rfl⟩

theorem kept_cells {w : World} {g c : Nat} {ks : List PK} {l : Nat} (h : w.ownsRow 0 145 3 (.slice (some ⟨g, 0, none⟩) l c) l (ks.flatMap pkC)) {i : Nat} {d : PK} (hd : ks[i]? = some d) :
    (∀ j, j < 3 → w.cell? ⟨g, i * 3 + j, none⟩ = (pkC d)[j]?) ∧ (∀ j, w.frozen? ⟨g, j, none⟩ = false) := by
  have hi : i < ks.length := (List.getElem?_eq_some_iff.1 hd).1
  have hl := h.1
  rw [flat_len pkW] at hl
  rcases h.2 with ⟨hx, h0⟩ | ⟨g', cap, cur, hx, hb, hgg, h1, h2, h3, h4⟩
  · omega
  · simp only [Value.slice.injEq, Option.some.injEq, Addr.mk.injEq, and_true] at hx
    obtain ⟨rfl, _⟩ := hx
    refine ⟨fun j hj => ?_, (row_facts hgg).2⟩
    rw [← flat_get pkW ks i j d hd hj]
    have hx : i * 3 + j < (ks.flatMap pkC).length := by rw [flat_len pkW]; omega
    obtain ⟨u, hu⟩ := get_some hx
    rw [hu]
    exact own_cell h rfl hu
/-- One of a row of kept pieces is written. -/
theorem kept_put {w : World} {g c : Nat} {ks : List PK} {l : Nat} (h : w.ownsRow 0 145 3 (.slice (some ⟨g, 0, none⟩) l c) l (ks.flatMap pkC)) {i : Nat} (hi : i < ks.length) (x : PK) :
    (((w.setCell ⟨g, i * 3, none⟩ (.int .i64 x.n)).setCell ⟨g, i * 3 + 1, none⟩ x.vE).setCell ⟨g, i * 3 + 2, none⟩ x.vK).ownsRow 0 145 3 (.slice (some ⟨g, 0, none⟩) l c) l ((ks.set i x).flatMap pkC) := by
  obtain ⟨y, hy⟩ := get_some hi
  have fl : ∀ z : PK, ((ks.set i z).flatMap pkC).length = ks.length * 3 := fun z => by rw [flat_len pkW, List.length_set]
  have h1 := own_set (g := g) (j := i * 3 + 0) (u := .int .i64 x.n) h rfl (by rw [flat_len pkW]; omega)
  rw [flat_set pkW ks i 0 y ⟨x.n, y.vE, y.vK, y.p⟩ _ hy (by decide) rfl] at h1
  have h2 := own_set (g := g) (j := i * 3 + 1) (u := x.vE) h1 rfl (by rw [fl]; omega)
  rw [flat_set pkW (ks.set i ⟨x.n, y.vE, y.vK, y.p⟩) i 1 ⟨x.n, y.vE, y.vK, y.p⟩ ⟨x.n, x.vE, y.vK, y.p⟩ _ (set_get hy) (by decide) rfl, List.set_set] at h2
  have h3 := own_set (g := g) (j := i * 3 + 2) (u := x.vK) h2 rfl (by rw [fl]; omega)
  rw [flat_set pkW (ks.set i ⟨x.n, x.vE, y.vK, y.p⟩) i 2 ⟨x.n, x.vE, y.vK, y.p⟩ x _ (set_get hy) (by decide) rfl, List.set_set] at h3
  exact h3

def keepK (m : Nat) (k : PK) : Bool := decide (m ≤ k.n)
theorem flt_snoc {ks : List PK} {m j : Nat} {x : PK} (hx : ks[j]? = some x) : (ks.take (j + 1)).filter (keepK m) = (ks.take j).filter (keepK m) ++ (if m ≤ x.n then [x] else []) := by
  rw [take_snoc' hx, List.filter_append]
  by_cases h : m ≤ x.n <;> simp [keepK, h]

/-- While what goes is deleted: L lies in the row; the first i are kept ones, from j on all is as it was. -/
structure DelR (w wr : World) (g cap m : Nat) (ks : List PK) (i j : Nat) (L : List PK) : Prop where
  row : wr.ownsRow 0 145 3 (.slice (some ⟨g, 0, none⟩) ks.length cap) ks.length (L.flatMap pkC)
  len : L.length = ks.length
  head : L.take i = (ks.take j).filter (keepK m)
  tail : L.drop j = ks.drop j
  ij : i < j
  jl : j ≤ ks.length
  kp : Kp w.heap.size (fun b => b = g) w wr

set_option maxHeartbeats 4000000 in
set_option maxRecDepth 100000 in
theorem delF_any (w : World) (o : Option Addr) (cap : Nat) (ks : List PK) (m bx : Nat) (hrow : w.ownsRow 0 145 3 (.slice o ks.length cap) ks.length (ks.flatMap pkC)) (hks : KeptV ks) (hc : w.cell? ⟨bx, 0, none⟩ = some (.int .i64 m)) (hbx : bx < w.heap.size)
    (hbo : ∀ g, o = some ⟨g, 0, none⟩ → bx ≠ g) (hl : ks.length ≤ 1000000) :
    Calls Tryz.prog 90 #[.slice o ks.length cap, closB bx] w fun e w' => ∃ n, n = (ks.filter (keepK m)).length ∧ e = .returned (.slice o n cap) ∧
      w'.ownsRow 0 145 3 (.slice o n cap) n ((ks.filter (keepK m)).flatMap pkC) ∧ Kp w.heap.size (fun b => (Value.slice o ks.length cap).ownBlock = some b) w w' := by
  have hI := index_any w o cap ks m bx hrow hks hc hbx hl
  go_enter Tryz.func90, Tryz.ntmps90
  go_wp2_with fail
  refine hI.mono ?_
  rintro e w1 ⟨r, rfl, hb1, hr⟩
  clear hI
  rcases hr with ⟨rfl, hno⟩ | ⟨i0, rfl, hno, x0, hx0, hlt0⟩
  · have hf : ks.filter (keepK m) = ks := List.filter_eq_self.2 fun k hk => by have := hno k hk; simp [keepK]; omega
    have HF := hide hf
    have HROW := hide (own_below hrow hb1)
    have HB := hide hb1
    clear hf hrow hb1 hno hks
    go_wp2_with fail
    go_ret
    exact ⟨_, by rw [HF.out], rfl, by rw [HF.out]; exact HROW.out, Kp.ofBelow HB.out⟩
  · have hil : i0 < ks.length := (List.getElem?_eq_some_iff.1 hx0).1
    obtain ⟨g, rfl, hgl, _⟩ := pKept_at hrow hx0
    have hbg := hbo g rfl
    have hne1 : ((i0 : Int) == -1) = false := by rw [beq_eq_false_iff_ne]; omega
    have hcap : ks.length ≤ cap := by
      obtain ⟨_, _, hf, hcc, _⟩ := own_form hrow
      simp only [Value.slice.injEq, true_and] at hf
      obtain ⟨_, rfl⟩ := hf
      exact hcc
    have d0 : DelR w w1 g cap m ks i0 (i0 + 1) ks := by
      refine ⟨own_below hrow hb1, rfl, ?_, rfl, by omega, by omega, Kp.ofBelow hb1⟩
      rw [flt_snoc hx0, if_neg (by omega), List.append_nil]
      exact (List.filter_eq_self.2 fun k hk => by have := hno k hk; simp [keepK]; omega).symm
    have D0 := hide d0
    have HKS := hide hks
    clear hrow hb1 d0 hno hks hx0 hlt0
    go_wp2_with fail
    go_loopw [5, 6] (fun a b wr => ∃ (i j : Nat) (L : List PK), a = .int .i64 i ∧ b = .int .i64 j ∧ DelR w wr g cap m ks i j L) (fun _ b _ => ks.length - (intOf b).toNat)
    case atStart => exact ⟨i0, i0 + 1, ks, rfl, by go_num, D0.out⟩
    case round =>
      obtain ⟨i, j, L, rfl, rfl, hD⟩ := hrel
      have hij := hD.ij
      have hjl := hD.jl
      by_cases hlt : j < ks.length
      · obtain ⟨x, hx⟩ := get_some hlt
        have hLx : L[j]? = some x := by
          have e1 : L[j]? = (L.drop j)[0]? := by simp
          rw [e1, hD.tail]
          simpa using hx
        obtain ⟨q, fz⟩ := kept_cells hD.row hLx
        have q1 := q 0 (by decide)
        have q2 := q 1 (by decide)
        have q3 := q 2 (by decide)
        simp only [pkC, List.getElem?_cons_zero, List.getElem?_cons_succ, Nat.add_zero] at q1 q2 q3
        obtain ⟨⟨x1, hx1⟩, ⟨x2, hx2⟩⟩ := HKS.out x (List.mem_of_getElem? hx)
        rw [hx1] at q2
        rw [hx2] at q3
        have q4 := (hD.kp.cell (p := ⟨bx, 0, none⟩) hbx hbg).trans hc
        have hs := hD.kp.size
        have hgr : g < wr.heap.size := by omega
        have hb2 : Below wr.heap.size wr (wr.alloc (.cells #[.int .i64 x.n, .map x1, .map x2] 145)) := (Below.refl _ _).alloc (Nat.le_refl _) _
        have q0 := heap_alloc_new wr (.cells #[.int .i64 x.n, .map x1, .map x2] 145)
        have q4' := (hb2.cell (p := ⟨bx, 0, none⟩) (show bx < wr.heap.size by omega)).trans q4
        by_cases hkeep : m ≤ x.n
        · have hC := closB_any (wr.alloc (.cells #[.int .i64 x.n, .map x1, .map x2] 145)) x.n m bx x1 x2 q4' (by simp; omega) false (by simp; omega)
          have hfs := flt_snoc (m := m) hx
          rw [if_pos hkeep] at hfs
          have HFS := hide hfs
          have HD := hide hD
          have HX := hide hx
          have HB2 := hide hb2
          have Q0 := hide q0
          have HLX := hide hLx
          have HX1 := hide hx1
          have HX2 := hide hx2
          clear hD hx hLx q fz q4 q4' hb2 q0 hx1 hx2 hfs hkeep
          go_wp2_with fail
          refine hC.mono ?_
          rintro e w2 ⟨rfl, hb3⟩
          have hbw := HB2.out.trans (hb3.mono HB2.out.size)
          have hrow2 := own_below HD.out.row hbw
          obtain ⟨y, hy⟩ := get_some (l := L) (k := i) (by have := HD.out.len; omega)
          obtain ⟨p, pz⟩ := kept_cells hrow2 hy
          have p1 := p 0 (by decide)
          have p2 := p 1 (by decide)
          have p3 := p 2 (by decide)
          have z1 := pz (i * 3)
          have z2 := pz (i * 3 + 1)
          have z3 := pz (i * 3 + 2)
          simp only [pkC, List.getElem?_cons_zero, List.getElem?_cons_succ, Nat.add_zero] at p1 p2 p3
          have hq0 := (hb3.block wr.heap.size (by simp)).trans Q0.out
          obtain ⟨t, _⟩ := row_facts hq0
          have t1 := t 0
          have t2 := t 1
          have t3 := t 2
          simp only [List.getElem?_toArray, List.getElem?_cons_zero, List.getElem?_cons_succ] at t1 t2 t3
          have hput := kept_put hrow2 (i := i) (by have := HD.out.len; omega) x
          rw [HX1.out, HX2.out] at hput
          have hkp : Kp w.heap.size (fun b => b = g) w (((w2.setCell ⟨g, i * 3, none⟩ (.int .i64 x.n)).setCell ⟨g, i * 3 + 1, none⟩ (.map x1)).setCell ⟨g, i * 3 + 2, none⟩ (.map x2)) :=
            (((HD.out.kp.trans ((Kp.ofBelow hbw).mono hs fun _ _ h => h)).setCell (p := ⟨g, i * 3, none⟩) (Or.inr rfl) _).setCell (p := ⟨g, i * 3 + 1, none⟩) (Or.inr rfl) _).setCell (p := ⟨g, i * 3 + 2, none⟩) (Or.inr rfl) _
          have hnew : DelR w (((w2.setCell ⟨g, i * 3, none⟩ (.int .i64 x.n)).setCell ⟨g, i * 3 + 1, none⟩ (.map x1)).setCell ⟨g, i * 3 + 2, none⟩ (.map x2)) g cap m ks (i + 1) (j + 1) (L.set i x) := by
            refine ⟨hput, by rw [List.length_set]; exact HD.out.len, ?_, ?_, by omega, by omega, hkp⟩
            · have hil : i < L.length := by have := HD.out.len; omega
              have e1 : (L.set i x).take (i + 1) = (L.set i x).take i ++ [x] := take_snoc' (by rw [List.getElem?_set_self hil])
              rw [HFS.out, ← HD.out.head, e1, List.take_set_of_le (Nat.le_refl i)]
            · have e1 : (L.set i x).drop (j + 1) = L.drop (j + 1) := List.drop_set_of_lt (by omega)
              have e2 : L.drop (j + 1) = (L.drop j).drop 1 := by rw [List.drop_drop]
              have e3 : ks.drop (j + 1) = (ks.drop j).drop 1 := by rw [List.drop_drop]
              rw [e1, e2, HD.out.tail, ← e3]
          have HNEW := hide hnew
          clear hC hb3 hbw hrow2 hy p pz hq0 t hput hkp hnew
          go_wp2_with fail
          exact ⟨⟨i + 1, j + 1, _, by go_num, by go_num, HNEW.out⟩, by simp [intOf]; omega⟩
        · have hC := closB_any (wr.alloc (.cells #[.int .i64 x.n, .map x1, .map x2] 145)) x.n m bx x1 x2 q4' (by simp; omega) true (by simp; omega)
          have hfs := flt_snoc (m := m) hx
          rw [if_neg hkeep, List.append_nil] at hfs
          have hnew : ∀ w2, Below wr.heap.size wr w2 → DelR w w2 g cap m ks i (j + 1) L := fun w2 hb => by
            have e2 : L.drop (j + 1) = (L.drop j).drop 1 := by rw [List.drop_drop]
            have e3 : ks.drop (j + 1) = (ks.drop j).drop 1 := by rw [List.drop_drop]
            exact ⟨own_below hD.row hb, hD.len, by rw [hfs]; exact hD.head, by rw [e2, hD.tail, ← e3], by omega, by omega, hD.kp.trans ((Kp.ofBelow hb).mono hs fun _ _ h => h)⟩
          have HNEW := hide hnew
          have HB2 := hide hb2
          clear hD hx hLx q fz q4 q4' hb2 q0 hx1 hx2 hfs hkeep hnew
          go_wp2_with fail
          refine hC.mono ?_
          rintro e w2 ⟨rfl, hb3⟩
          have HN2 := hide (HNEW.out w2 (HB2.out.trans (hb3.mono HB2.out.size)))
          clear hC hb3
          go_wp2_with fail
          exact ⟨⟨i, j + 1, _, rfl, by go_num, HN2.out⟩, by simp [intOf]; omega⟩
      · have hje : j = ks.length := by omega
        subst hje
        have hpre := own_prefix pkW (by rw [hD.len]; exact hD.row) i (by have := hD.len; omega)
        rw [hD.head, List.take_of_length_le (Nat.le_refl _)] at hpre
        have hlen : (ks.filter (keepK m)).length = i := by
          have := congrArg List.length hD.head
          rw [List.take_of_length_le (Nat.le_refl _), List.length_take, hD.len] at this
          omega
        have hick : ¬ cap = i := by omega
        have hic : i ≤ cap := by omega
        obtain ⟨w2, hrun2, hown2, hgr2⟩ := run_clearR (P := Tryz.prog) wr (ty := 0) Tryz.underlying97 zeroKept (by intro u hu; simp [Value.cells] at hu; rcases hu with rfl | rfl <;> rfl) (size := 3) (off := i) (k := ks.length - i) (c := cap - i) (by rfl) hpre (Nat.le_refl _) (by omega) (by omega)
        have hk2 : Kp w.heap.size (fun b => b = g) w w2 := hD.kp.grown hgr2 hD.kp.size (fun k hk => Or.inr (by cases hk; rfl))
        have HK2 := hide hk2
        have HO2 := hide hown2
        have HL := hide hlen
        clear hD hpre hgr2 hk2 hown2 hlen
        go_wp2_with fail
        go_ret
        refine ⟨i, by rw [HL.out], rfl, HO2.out, ?_⟩
        have e : (fun b => (Value.slice (some ⟨g, 0, none⟩) ks.length cap).ownBlock = some b) = fun b => b = g := by funext b; simp [Value.ownBlock, eq_comm]
        rw [e]
        exact HK2.out
end Go.Proofs.YtnniimfinakioaaGreatDoor
namespace Go.Proofs.YtnniimfinakioaaGreatDoor
open Go.RowKit
attribute [local go_sem] toList_nm app_nm size_nm

set_option maxHeartbeats 1000000 in
set_option maxRecDepth 100000 in
theorem forget_any (w : World) (S : Nat → Prop) (p g c : Nat) (ns : List PN) (vF : Value) (fs : List PM) (h : ProgR w S p (.slice (some ⟨g, 0, none⟩) ns.length c) ns vF fs) (i : Nat) (d : PN) (hd : ns[i]? = some d) (m : Nat) (hl : d.kept.length ≤ 1000000) :
    Calls Tryz.prog 62 #[.pointer (some ⟨g, i * 5, none⟩), .int .i64 m] w fun e w' => e = .returned (.tuple #[]) ∧
      (∃ v, ProgR w' S p (.slice (some ⟨g, 0, none⟩) ns.length c) (ns.set i { d with vKept := v, kept := d.kept.filter (keepK m) }) vF fs) ∧ Kp w.heap.size S w w' := by
  have hb : Below w.heap.size w (w.alloc (.cells #[.int .i64 m] 3)) := (Below.refl _ _).alloc (Nat.le_refl _) _
  have q0 := heap_alloc_new w (.cells #[.int .i64 m] 3)
  have h0 := h.below hb
  obtain ⟨g', c', hgc, hSg, hg, hgp, hcell, hfz⟩ := h.at hd
  simp only [Value.slice.injEq, Option.some.injEq, Addr.mk.injEq, and_true] at hgc
  obtain ⟨rfl, _, rfl⟩ := hgc
  have hnd0 := h0.node d (List.mem_of_getElem? hd)
  have hnd := h.node d (List.mem_of_getElem? hd)
  have c3 := hcell 3 (by decide)
  simp only [pnC, List.getElem?_cons_zero, List.getElem?_cons_succ] at c3
  obtain ⟨oK, cK, hkK, _, _⟩ := own_form hnd.kept
  rw [hkK] at c3
  have hwl := lt_of_heap q0
  have cb := (row_facts q0).1 0
  simp only [List.getElem?_toArray, List.getElem?_cons_zero] at cb
  have hD := delF_any (w.alloc (.cells #[.int .i64 m] 3)) oK cK d.kept m w.heap.size (hkK ▸ hnd0.kept) (fun k hk => ⟨⟨_, (hnd.keptP k hk).E.form⟩, ⟨_, (hnd.keptP k hk).K.form⟩⟩) cb hwl (fun g1 e1 e2 => by
    have := h.lt g1 (hnd.sKept g1 (by rw [hkK, e1]; rfl))
    omega) hl
  have HB := hide hb
  have H0 := hide h0
  have HKK := hide hkK
  clear hb q0 h0 hcell hfz hnd0 hkK hnd cb
  go_enter Tryz.func62, Tryz.ntmps62
  go_wp2_with fail
  refine hD.mono ?_
  rintro e w2 ⟨n, hn, rfl, hown, hK⟩
  generalize w.alloc (.cells #[.int .i64 m] 3) = W0 at *
  have fin := H0.out.keptRow (v3 := .slice oK n cK) hd (d.kept.filter (keepK m)) (Sx := fun b => d.vKept.ownBlock = some b) rfl (by rw [HKK.out]; exact hK) (by rw [← hn]; exact hown) (fun b hb => by rw [HKK.out]; cases oK <;> exact hb) (fun k hk => (H0.out.node d (List.mem_of_getElem? hd)).keptP k (List.mem_filter.1 hk).1)
  have ok0 : W0.ownsRow 0 145 3 (.slice oK d.kept.length cK) d.kept.length (d.kept.flatMap pkC) := HKK.out ▸ (H0.out.node d (List.mem_of_getElem? hd)).kept
  have n2 : PdR w2 (.slice (some ⟨g, 0, none⟩) ns.length c) ns := own_kpE H0.out.nodes hK (Nat.le_refl _) (OfT.own ok0) (by decide)
  obtain ⟨q, fz⟩ := n2.cells hd
  have q3 := q 3 (by decide)
  have z3 := fz (i * 5 + 3)
  simp only [pnC, List.getElem?_cons_zero, List.getElem?_cons_succ] at q3
  rw [HKK.out] at q3
  have FIN := hide fin
  clear hD fin q fz hown hK hn ok0
  go_wp2_with fail
  go_end0
  exact ⟨rfl, ⟨_, FIN.out.1⟩, (Kp.ofBelow HB.out).trans (FIN.out.2.mono HB.out.size fun _ _ h => h)⟩

theorem needed_is {n i a : Nat} {x : PN} (ha : (a : Int) ∈ ackL x.count x.acked i n) (hmin : ∀ y ∈ ackL x.count x.acked i n, (a : Int) ≤ y) {k : PK} (hk : k.n < x.count) : keepK a k = needed n i x.m k.m := by
  have hm : ∀ y, y ∈ ackL x.count x.acked i n ↔ ∃ j, j < n ∧ (if j = i then (x.count : Int) else ((x.acked[j]?.getD 0 : Nat) : Int)) = y := by
    intro y
    simp only [ackL, List.mem_map, List.mem_range]
  have e1 : keepK a k = true ↔ needed n i x.m k.m = true := by
    simp only [keepK, needed, decide_eq_true_eq, List.any_eq_true, Bool.and_eq_true, List.mem_range]
    constructor
    · intro h
      obtain ⟨j, hj, e⟩ := (hm a).1 ha
      by_cases hji : j = i
      · rw [if_pos hji] at e; omega
      · rw [if_neg hji] at e
        refine ⟨j, hj, hji, ?_⟩
        show x.acked.getD j 0 ≤ k.n
        rw [List.getD_eq_getElem?_getD]
        omega
    · rintro ⟨j, hj, hji, hle⟩
      have hle' : x.acked.getD j 0 ≤ k.n := hle
      rw [List.getD_eq_getElem?_getD] at hle'
      have := hmin _ ((hm _).2 ⟨j, hj, rfl⟩)
      rw [if_neg hji] at this
      omega
  cases h1 : keepK a k with
  | true => rw [e1.1 h1]
  | false =>
    cases h2 : needed n i x.m k.m with
    | false => rfl
    | true => rw [e1.2 h2] at h1; cases h1

set_option maxHeartbeats 1000000 in
set_option maxRecDepth 100000 in
theorem pCollect (w : World) (S : Nat → Prop) (p : Nat) (W : Wd) (i : Int) (h : ProgW w S p W) (ok : WG W) :
    Calls Tryz.prog 32 #[ptr p, .int .i64 i] w fun e w' => e = .returned (err (collectM W i).1) ∧ ProgW w' (Ext S w w') p (collectM W i).2 ∧ Kp w.heap.size S w w' := by
  obtain ⟨HH, ok⟩ := ok
  obtain ⟨vN, ns, vF, fs, hr, hm, hf⟩ := h
  have hlen : ns.length = W.nodes.length := by rw [← hm, List.length_map]
  have hl : ns.length ≤ 1000 := by have := ok.five; omega
  have H : ProgW w S p W := ⟨vN, ns, vF, fs, hr, hm, hf⟩
  cases hn : nodeAt W i with
  | none =>
    have e0 : collectM W i = (1, W) := by unfold collectM; rw [hn]
    rw [e0]
    go_enter Tryz.func32, Tryz.ntmps32
    go_wp2_with fail
    refine (at_no w S p _ ns vF fs hr _ (by rw [hlen]; exact nodeAt_none hn) hl).mono ?_
    rintro e w' ⟨rfl, rfl⟩
    go_wp2_with fail
    go_ret
    exact ⟨rfl, H.same⟩
  | some d =>
    obtain ⟨k, rfl, hk⟩ := nodeAt_some hn
    obtain ⟨x, hx, rfl⟩ := pn_of hm hk
    have hkl : k < ns.length := (List.getElem?_eq_some_iff.1 hx).1
    have nk := ok.node k x.m hk
    obtain ⟨g, c, rfl, _, _, _, _, _⟩ := hr.at hx
    have hal : x.acked.length = W.nodes.length := nk.acked
    have hcnt : x.count ≤ 60 := ok.count hk
    have hkpt : x.kept.length ≤ 60 := by have := nk.kept; have : x.m.kept.length = x.kept.length := List.length_map _; have : x.m.count = x.count := rfl; omega
    have hkn : ∀ y ∈ x.kept, y.n < x.count := fun y hy => (nk.keptP y.m (List.mem_map.2 ⟨y, hy, rfl⟩)).2
    have e0 : collectM W k = (0, { W with nodes := W.nodes.set k { x.m with kept := x.m.kept.filter (needed W.nodes.length k x.m) } }) := by unfold collectM; rw [hn]; simp
    rw [e0]
    have h1 := ok.one
    have h5 := ok.five
    have hA := ackedOf_any w S p g c ns vF fs hr k x hx W.nodes.length hal (by omega) (by omega)
    clear e0
    go_enter Tryz.func32, Tryz.ntmps32
    go_wp2_with fail
    refine (at_yes w S p g c ns vF fs hr k hkl hl).mono ?_
    rintro e w' ⟨rfl, rfl⟩
    go_wp2_with fail
    refine hA.mono ?_
    rintro e w1 ⟨gA, cA, rfl, hgA, hrow, hb1⟩
    have hM := min_any w1 gA cA W.nodes.length (ackL x.count x.acked k W.nodes.length) (by simp [ackL]) hrow h1 (by omega)
    clear hA
    go_wp2_with fail
    refine hM.mono ?_
    rintro e w2 ⟨r, rfl, hr1, hr2, rfl⟩
    obtain ⟨a, rfl⟩ : ∃ a : Nat, r = a := by
      have h1 := hr1
      simp only [ackL, List.mem_map, List.mem_range] at h1
      obtain ⟨j, _, e⟩ := h1
      split at e
      · exact ⟨_, e.symm⟩
      · exact ⟨_, e.symm⟩
    have hF := forget_any w2 S p g c ns vF fs (hr.below hb1) k x hx a (by omega)
    clear hM
    go_wp2_with fail
    refine hF.mono ?_
    rintro e w3 ⟨rfl, ⟨v, hR⟩, hK⟩
    clear hF
    go_wp2_with fail
    go_ret
    have hs1 := hb1.size
    have hs3 := hK.size
    refine ⟨rfl, ⟨_, _, _, _, hR.ext (w' := w) hr.lt (by omega), ?_, hf⟩, (Kp.ofBelow hb1).trans (hK.mono hs1 fun _ _ h => h)⟩
    rw [List.map_set, hm]
    have e2 : (x.kept.filter (keepK a)).map PK.m = x.m.kept.filter (needed W.nodes.length k x.m) := by
      show _ = (x.kept.map PK.m).filter _
      rw [List.filter_map]
      congr 1
      exact List.filter_congr fun y hy => needed_is hr1 hr2 (hkn y hy)
    show W.nodes.set k ⟨x.p, x.count, (x.kept.filter (keepK a)).map PK.m, x.acked, x.made⟩ = _
    rw [e2]
    rfl
end Go.Proofs.YtnniimfinakioaaGreatDoor
