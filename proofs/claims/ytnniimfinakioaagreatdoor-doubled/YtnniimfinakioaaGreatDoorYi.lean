import Derived.Test.YtnniimfinakioaaGreatDoorYg
namespace Go.Proofs.YtnniimfinakioaaGreatDoor
open Go.RowKit
attribute [local go_sem] toList_nm app_nm size_nm

theorem eMsgP : ElemT Tryz.prog 82 92 6 48 := ElemT.mk' (z := .agg #[.int .i64 0, .int .i64 0, .int .i64 0, .int .i64 0, .map none, .map none]) (by kernel_rfl) (by kernel_rfl) rfl (by decide)
abbrev pmV (m : PM) : Value := .agg #[.int .i64 m.kind, .int .i64 m.frm, .int .i64 m.to, .int .i64 m.number, m.vE, m.vK]
theorem pmC_one (m : PM) (hE : m.vE.oneCell' = true) (hK : m.vK.oneCell' = true) : ∀ u ∈ pmC m, u.oneCell' = true := by
  intro u hu
  simp only [pmC, List.mem_cons, List.not_mem_nil, or_false] at hu
  rcases hu with rfl | rfl | rfl | rfl | rfl | rfl <;> first | rfl | assumption
theorem pFly_at {w : World} {o : Option Addr} {n c : Nat} {fs : List PM} (h : w.ownsRow 0 92 6 (.slice o n c) fs.length (fs.flatMap pmC)) {k : Nat} {x : PM} (hk : fs[k]? = some x) :
    ∃ g, o = some ⟨g, 0, none⟩ ∧ g < w.heap.size ∧ w.cell? ⟨g, k * 6, none⟩ = some (.int .i64 x.kind) ∧ w.cell? ⟨g, k * 6 + 1, none⟩ = some (.int .i64 x.frm) ∧ w.cell? ⟨g, k * 6 + 2, none⟩ = some (.int .i64 x.to) ∧
      w.cell? ⟨g, k * 6 + 3, none⟩ = some (.int .i64 x.number) ∧ w.cell? ⟨g, k * 6 + 4, none⟩ = some x.vE ∧ w.cell? ⟨g, k * 6 + 5, none⟩ = some x.vK := by
  have hk' : k < fs.length := (List.getElem?_eq_some_iff.1 hk).1
  obtain ⟨g, cap, e, _, hlt⟩ := World.ownsRow.form h (by omega)
  simp only [Value.slice.injEq] at e
  obtain ⟨rfl, _, _⟩ := e
  have f := fun j (hj : j < 6) => flat_get pmW fs k j x hk hj
  exact ⟨g, rfl, hlt, own_cell h rfl (f 0 (by decide)), own_cell h rfl (f 1 (by decide)), own_cell h rfl (f 2 (by decide)), own_cell h rfl (f 3 (by decide)), own_cell h rfl (f 4 (by decide)), own_cell h rfl (f 5 (by decide))⟩

/-- What flies is another row. -/
theorem ProgR.flown {w w3 : World} {S Sx : Nat → Prop} {p : Nat} {vN vF v3 : Value} {ns : List PN} {fs fs' : List PM} (h : ProgR w S p vN ns vF fs) (hp : ∀ m ∈ fs', PPieceR w S m.vE m.vK m.p)
    (hSx : Sx = fun b => vF.ownBlock = some b) (kp : Kp w.heap.size Sx w w3) (hown : w3.ownsRow 0 92 6 v3 fs'.length (fs'.flatMap pmC)) (hat : v3.ownBlock = vF.ownBlock ∨ ∃ b, v3.ownBlock = some b ∧ w.heap.size ≤ b) :
    ProgR (w3.setCell ⟨p, 1, none⟩ v3) (Ext S w (w3.setCell ⟨p, 1, none⟩ v3)) p vN ns v3 fs' ∧ Kp w.heap.size S w (w3.setCell ⟨p, 1, none⟩ v3) ∧ ∀ a b r, PPieceR w S a b r → PPieceR (w3.setCell ⟨p, 1, none⟩ v3) (Ext S w (w3.setCell ⟨p, 1, none⟩ v3)) a b r := by
  have otx : OfT w Sx 92 := by rw [hSx]; exact OfT.own h.fly.row
  have hSxS : ∀ b, Sx b → S b := fun b hb => by rw [hSx] at hb; exact h.fly.s b hb
  have hpx : ¬ Sx p := fun hx => by
    obtain ⟨c', fz, hc⟩ := otx p hx
    rw [h.self] at hc
    simp at hc
  have hplt : p < w.heap.size := h.lt p h.sp
  have self3 := (kp.block p hplt hpx).trans h.self
  have kp5 : Kp w3.heap.size (fun b => b = p) w3 (w3.setCell ⟨p, 1, none⟩ v3) := Kp.set1 w3 p 1 v3
  have ot3 : OfT w3 (fun b => b = p) 84 := fun b hb => ⟨_, _, hb ▸ self3⟩
  have hs3 := kp.size
  have hs : (w3.setCell ⟨p, 1, none⟩ v3).heap.size = w3.heap.size := by simp [World.setCell]
  have kpAll : Kp w.heap.size S w (w3.setCell ⟨p, 1, none⟩ v3) := (kp.mono (Nat.le_refl _) (fun b _ hb => hSxS b hb)).trans (kp5.mono hs3 (fun b _ hb => hb ▸ h.sp))
  have hmono : ∀ b, S b → Ext S w (w3.setCell ⟨p, 1, none⟩ v3) b := fun b hb => Or.inl hb
  have pce : ∀ {a b : Value} {r : Pc}, PPieceR w S a b r → PPieceR (w3.setCell ⟨p, 1, none⟩ v3) S a b r := fun hp => (hp.kpE kp (Nat.le_refl _) otx).kpE kp5 (Nat.le_refl _) ot3
  have hown5 := own_kpE hown kp5 (Nat.le_refl _) ot3 (by decide)
  refine ⟨⟨?_, ?_, hmono p h.sp, own_kpE (own_kpE h.nodes kp (Nat.le_refl _) otx (by decide)) kp5 (Nat.le_refl _) ot3 (by decide), h.sN.mono hmono, fun n hn => (((h.node n hn).kpE kp (Nat.le_refl _) otx (by decide) (by decide)).kpE kp5 (Nat.le_refl _) ot3 (by decide) (by decide)).mono hmono, h.disK, h.disA, ⟨hown5, ?_, ?_⟩⟩, kpAll, fun a b r hp => (pce hp).mono hmono⟩
  · rintro b (hb | hb)
    · exact Nat.lt_of_lt_of_le (h.lt b hb) kpAll.size
    · exact hb.2
  · have := setCell_row (j := 1) self3 v3
    simpa using this
  · intro b hb
    rcases hat with e | ⟨b', e, hb'⟩
    · exact Or.inl (h.fly.s b (e ▸ hb))
    · rw [e] at hb
      simp only [Option.some.injEq] at hb
      subst hb
      exact Or.inr ⟨hb', (hown5.lt b' e).2⟩
  · intro x hx
    exact (pce (hp x hx)).mono hmono

set_option maxHeartbeats 1000000 in
set_option maxRecDepth 100000 in
theorem launch_no (w : World) (S : Nat → Prop) (p : Nat) (vN : Value) (ns : List PN) (vF : Value) (fs : List PM) (h : ProgR w S p vN ns vF fs) (m : PM) (hq : PPieceR w S m.vE m.vK m.p) (hlt : 40 ≤ fs.length) (hl : fs.length ≤ 1000) :
    Calls Tryz.prog 52 #[ptr p, pmV m] w fun e w' => e = .returned (.tuple #[]) ∧ Below w.heap.size w w' := by
  obtain ⟨mk, mf, mt, mn, vE, vK, mp⟩ := m
  dsimp only [pmV] at hq ⊢
  obtain ⟨m1, rfl⟩ : ∃ m1, vE = .map m1 := ⟨_, hq.E.form⟩
  obtain ⟨m2, rfl⟩ : ∃ m2, vK = .map m2 := ⟨_, hq.K.form⟩
  obtain ⟨o, c, rfl, _, _⟩ := own_form h.fly.row
  obtain ⟨e1, f1⟩ := row_facts h.self
  have hp : p < w.heap.size := lt_of_heap h.self
  have c1 := e1 1
  simp only [List.getElem?_toArray, List.getElem?_cons_zero, List.getElem?_cons_succ] at c1
  have hl' : decide ((fs.length : Int) < 40) = false := by simp; omega
  have hb : Below w.heap.size w (w.alloc (.cells #[.int .i64 mk, .int .i64 mf, .int .i64 mt, .int .i64 mn, .map m1, .map m2] 92)) := (Below.refl _ _).alloc (Nat.le_refl _) _
  have HB := hide hb
  clear e1 f1 hb hq
  go_enter Tryz.func52, Tryz.ntmps52
  go_wp2_with fail
  go_end0
  exact ⟨rfl, HB.out⟩

set_option maxHeartbeats 1000000 in
set_option maxRecDepth 100000 in
theorem launch_yes (w : World) (S : Nat → Prop) (p : Nat) (vN : Value) (ns : List PN) (vF : Value) (fs : List PM) (h : ProgR w S p vN ns vF fs) (m : PM) (hq : PPieceR w S m.vE m.vK m.p) (hlt : fs.length < 40) :
    Calls Tryz.prog 52 #[ptr p, pmV m] w fun e w' => e = .returned (.tuple #[]) ∧ (∃ vF', ProgR w' (Ext S w w') p vN ns vF' (fs ++ [m])) ∧ Kp w.heap.size S w w' := by
  obtain ⟨mk, mf, mt, mn, vE, vK, mp⟩ := m
  dsimp only [pmV] at hq ⊢
  obtain ⟨m1, rfl⟩ : ∃ m1, vE = .map m1 := ⟨_, hq.E.form⟩
  obtain ⟨m2, rfl⟩ : ∃ m2, vK = .map m2 := ⟨_, hq.K.form⟩
  obtain ⟨o, c, rfl, _, _⟩ := own_form h.fly.row
  obtain ⟨e1, f1⟩ := row_facts h.self
  have hplt : p < w.heap.size := lt_of_heap h.self
  have c1 := e1 1
  have z1 := f1 1
  simp only [List.getElem?_toArray, List.getElem?_cons_zero, List.getElem?_cons_succ] at c1
  have hl' : decide ((fs.length : Int) < 40) = true := by simp; omega
  have hb : Below w.heap.size w (w.alloc (.cells #[.int .i64 mk, .int .i64 mf, .int .i64 mt, .int .i64 mn, .map m1, .map m2] 92)) := (Below.refl _ _).alloc (Nat.le_refl _) _
  have q0 := heap_alloc_new w (.cells #[.int .i64 mk, .int .i64 mf, .int .i64 mt, .int .i64 mn, .map m1, .map m2] 92)
  have HB := hide hb
  have Q0 := hide q0
  clear e1 f1 hb q0
  go_enter Tryz.func52, Tryz.ntmps52
  go_wp2_with fail
  generalize w.alloc (.cells #[.int .i64 mk, .int .i64 mf, .int .i64 mt, .int .i64 mn, .map m1, .map m2] 92) = W0 at *
  have hr0 := h.below HB.out
  obtain ⟨e0, _⟩ := row_facts Q0.out
  have d0 := e0 0
  have d1 := e0 1
  have d2 := e0 2
  have d3 := e0 3
  have d4 := e0 4
  have d5 := e0 5
  simp only [List.getElem?_toArray, List.getElem?_cons_zero, List.getElem?_cons_succ] at d0 d1 d2 d3 d4 d5
  have hwl : w.heap.size < W0.heap.size := lt_of_heap Q0.out
  have hpl : p < W0.heap.size := by omega
  have c1' := (HB.out.cell (p := ⟨p, 1, none⟩) hplt).trans c1
  obtain ⟨Sx, hSx⟩ : ∃ Sx : Nat → Prop, Sx = fun b => (Value.slice o fs.length c).ownBlock = some b := ⟨_, rfl⟩
  have sp : ¬ Sx p := by rw [hSx]; exact own_ne hr0.fly.row hr0.self (by decide)
  have sb : ¬ Sx w.heap.size := by
    rw [hSx]
    intro hx
    have := h.lt _ (h.fly.s w.heap.size hx)
    omega
  have HSx := hide hSx
  clear e0 c1 z1 hSx
  have hG := GrS.cell W0 Sx
  have hGn := GrS.some W0 Sx
  refine wp_region_flt [0, 1, 2, 3, 4, 5] [6, 7, 8, 9, 10] (fun w' => ∃ x : GrS W0 Sx, w' = x.w) (by kernel_rfl) (by kernel_rfl) (fun _ _ d _ _ h => by cases d <;> exact h) ⟨⟨W0.drew, (Kp.refl _ _ _).drew⟩, rfl⟩ ?_
  simp only [pickOps, List.getElem?_cons_zero, List.getElem?_cons_succ]
  repeat (go_big_quiet_step (fail))
  refine wpQuiet_nil ?_
  refine ⟨_, rfl, ?_⟩
  go_wp2_with fail
  refine ⟨fun _ => ⟨⟨_, ((Kp.refl _ _ _).alloc (Nat.le_refl _) _).drew⟩, rfl⟩, _, rfl, ?_⟩
  refine wpList_app (t := 82) _ eMsgP (by rfl) _ _ (by rfl) (.slice o fs.length c) fs.length (fs.flatMap pmC) (by rfl) ?own _ 1 (pmC ⟨mk, mf, mt, mn, .map m1, .map m2, mp⟩) (by rfl) ?src ?h63 ?hby ?next
  case own => exact hr0.fly.row.alloc _
  case src => exact ⟨rfl, pmC_one _ rfl rfl, Or.inr ⟨_, _, rfl, World.news_of_block (cs := #[.int .i64 mk, .int .i64 mf, .int .i64 mt, .int .i64 mn, .map m1, .map m2]) (heap_alloc_new W0 _)⟩⟩
  case h63 => simp only [maxLen]; omega
  case hby => omega
  case next =>
    intro v3 w3 hown3 hgr3 hat3
    have kp3 : Kp W0.heap.size Sx W0 w3 := by
      have k1 := ((Kp.refl W0.heap.size Sx W0).alloc (Nat.le_refl _) (.cells #[.int .i64 mk, .int .i64 mf, .int .i64 mt, .int .i64 mn, .map m1, .map m2] 92)).drew
      exact k1.grown hgr3 (by simp) (fun k hk => Or.inr (by rw [HSx.out]; exact hk))
    obtain ⟨o3, c3, rfl, _, _⟩ := own_form hown3
    obtain ⟨e3, f3⟩ := row_facts ((kp3.block p hpl sp).trans hr0.self)
    have c3' := e3 1
    have z3' := f3 1
    simp only [List.getElem?_toArray, List.getElem?_cons_zero, List.getElem?_cons_succ] at c3'
    clear e3 f3
    go_wp2_with fail
    refine ⟨fun _ => ⟨⟨w3, kp3⟩, rfl⟩, _, rfl, ?_⟩
    go_wp2_with fail
    refine ⟨fun _ => ⟨⟨w3, kp3⟩, rfl⟩, _, rfl, ?_⟩
    go_wp2_with fail
    refine ⟨fun _ => ⟨⟨w3, kp3⟩, rfl⟩, _, rfl, ?_⟩
    go_wp2_with fail
    refine ⟨fun h => absurd rfl h, ?_⟩
    unfold wpFin
    go_wp2_with fail
    have fin := hr0.flown (fs' := fs ++ [⟨mk, mf, mt, mn, .map m1, .map m2, mp⟩]) (fun x hx => (by
      simp only [List.mem_append, List.mem_singleton] at hx
      rcases hx with hx | rfl
      · exact hr0.fly.piece x hx
      · exact hq.below HB.out)) (Sx := Sx) HSx.out kp3 (v3 := .slice o3 (fs.length + 1) c3) (by
        have e1 : (fs ++ [(⟨mk, mf, mt, mn, .map m1, .map m2, mp⟩ : PM)]).length = fs.length + 1 := by simp
        have e2 : (fs ++ [(⟨mk, mf, mt, mn, .map m1, .map m2, mp⟩ : PM)]).flatMap pmC = fs.flatMap pmC ++ pmC ⟨mk, mf, mt, mn, .map m1, .map m2, mp⟩ := by simp
        rw [e1, e2]
        exact hown3) (by
      rcases hat3 with e | e
      · exact Or.inl e
      · exact Or.inr ⟨_, e, by simp⟩)
    have hs1 := HB.out.size
    go_end0
    refine ⟨rfl, ⟨_, fin.1.mono (fun b hb => ?_) (fun b hb => ?_)⟩, (Kp.ofBelow HB.out).trans (fin.2.1.mono hs1 fun _ _ x => x)⟩
    · rcases hb with x | x
      · exact Or.inl x
      · exact Or.inr ⟨by omega, x.2⟩
    · rcases hb with x | x
      · have := fin.2.1.size
        exact Nat.lt_of_lt_of_le (h.lt b x) (Nat.le_trans hs1 this)
      · exact x.2

theorem launch_any (w : World) (S : Nat → Prop) (p : Nat) (vN : Value) (ns : List PN) (vF : Value) (fs : List PM) (h : ProgR w S p vN ns vF fs) (m : PM) (hq : PPieceR w S m.vE m.vK m.p) (hl : fs.length ≤ 1000) :
    Calls Tryz.prog 52 #[ptr p, pmV m] w fun e w' => e = .returned (.tuple #[]) ∧ (∃ vF', ProgR w' (Ext S w w') p vN ns vF' (flyL fs m)) ∧ Kp w.heap.size S w w' := by
  by_cases hlt : fs.length < 40
  · simp only [flyL, if_pos hlt]
    exact launch_yes w S p vN ns vF fs h m hq hlt
  · simp only [flyL, if_neg hlt]
    refine (launch_no w S p vN ns vF fs h m hq (by omega) hl).mono ?_
    rintro e w' ⟨rfl, hb⟩
    exact ⟨rfl, ⟨_, (h.below hb).ext h.lt hb.size⟩, Kp.ofBelow hb⟩

set_option maxHeartbeats 1000000 in
set_option maxRecDepth 100000 in
theorem isFlying_any (w : World) (S : Nat → Prop) (p : Nat) (vN : Value) (ns : List PN) (vF : Value) (fs : List PM) (h : ProgR w S p vN ns vF fs) (i : Int) (_hl : fs.length ≤ 1000) :
    Calls Tryz.prog 50 #[ptr p, .int .i64 i] w fun e w' => e = .returned (.bool (decide (0 ≤ i ∧ i < fs.length))) ∧ w = w' := by
  obtain ⟨o, c, rfl, _, _⟩ := own_form h.fly.row
  obtain ⟨e1, _⟩ := row_facts h.self
  have c1 := e1 1
  simp only [List.getElem?_toArray, List.getElem?_cons_zero, List.getElem?_cons_succ] at c1
  clear e1
  by_cases h1 : 0 ≤ i
  · obtain ⟨n, rfl⟩ : ∃ n : Nat, i = n := ⟨i.toNat, by omega⟩
    clear h1
    have h1' : decide (0 ≤ (n : Int)) = true := by simp
    by_cases h2 : n < fs.length
    · have e0 : decide (0 ≤ (n : Int) ∧ (n : Int) < fs.length) = true := by simpa using h2
      rw [e0]
      have h2' : decide (n < fs.length) = true := by simpa using h2
      go_enter Tryz.func50, Tryz.ntmps50
      go_wp2
      go_ret
      exact ⟨rfl, rfl⟩
    · have e0 : decide (0 ≤ (n : Int) ∧ (n : Int) < fs.length) = false := by simpa using h2
      rw [e0]
      have h2' : decide (n < fs.length) = false := by simpa using h2
      go_enter Tryz.func50, Tryz.ntmps50
      go_wp2
      go_ret
      exact ⟨rfl, rfl⟩
  · have e0 : decide (0 ≤ i ∧ i < (fs.length : Int)) = false := by simp; omega
    rw [e0]
    have h1' : decide (0 ≤ i) = false := by simpa using h1
    go_enter Tryz.func50, Tryz.ntmps50
    go_wp2
    go_ret
    exact ⟨rfl, rfl⟩
end Go.Proofs.YtnniimfinakioaaGreatDoor
namespace Go.Proofs.YtnniimfinakioaaGreatDoor
open Go.RowKit
attribute [local go_sem] toList_nm app_nm size_nm

set_option maxHeartbeats 1000000 in
set_option maxRecDepth 100000 in
theorem hasNews_any (w : World) (S : Nat → Prop) (g i : Nat) (d : PN) (hnd : PNodeR w S d) (c2 : w.cell? ⟨g, i * 5 + 2, none⟩ = some (.int .i64 d.count)) (c4 : w.cell? ⟨g, i * 5 + 4, none⟩ = some d.vAcked) (j a : Nat) (ha : d.acked[j]? = some a) (v : Bool) (hv : decide (a < d.count) = v) :
    Calls Tryz.prog 67 #[.pointer (some ⟨g, i * 5, none⟩), .int .i64 j] w fun e w' => e = .returned (.bool v) ∧ Below w.heap.size w w' := by
  have hj : j < d.acked.length := (List.getElem?_eq_some_iff.1 ha).1
  have hA := hnd.acked
  obtain ⟨o, c, hk, _, _⟩ := own_form hA
  rw [hk] at c4 hA
  obtain ⟨gA, rfl, hgA, dA, _⟩ := own1_at (k := j) (u := .int .i64 a) hA (by simp [intC, ha])
  clear hnd hA hk
  go_enter Tryz.func67, Tryz.ntmps67
  go_wp2_with fail
  go_quiet (fail)
  go_wp2_with fail
  go_ret
  exact ⟨rfl, below_drewN (Below.refl _ _) _⟩

def stepK (a : Nat) (p : Pc) (k : PK) : Pc := if a ≤ k.n then joinP p k.p else p
theorem foldK_map (a : Nat) (l : List PK) : foldP a (l.map PK.m) = l.foldl (stepK a) ⟨[], []⟩ := by
  unfold foldP
  rw [List.foldl_map]
  rfl
theorem SetV.nil {α : Type} (enc : α → Value) (w : World) : SetV enc w (.map none) [] := ⟨[], ⟨by simp, Or.inl ⟨rfl, rfl⟩⟩, by simp⟩

/-- What newsFor has, while it joins. -/
structure NewsR (w wr : World) (vE vK : Value) (q : Pc) : Prop where
  out : wr.heap[w.heap.size]? = some (.cells #[.map none, .map none] 90 (0, 0))
  bx : wr.heap[w.heap.size + 1]? = some (.cells #[vE, vK] 90 (0, 0))
  E : SetV entV wr vE q.L
  K : SetV tokV wr vK q.K
  nE : ∀ b, mapB vE = some b → w.heap.size + 2 ≤ b
  nK : ∀ b, mapB vK = some b → w.heap.size + 2 ≤ b
  bel : Below w.heap.size w wr

theorem NewsR.below {w wr w' : World} {vE vK : Value} {q : Pc} (h : NewsR w wr vE vK q) (k : Below wr.heap.size wr w') : NewsR w w' vE vK q :=
  ⟨(k.block _ (lt_of_heap h.out)).trans h.out, (k.block _ (lt_of_heap h.bx)).trans h.bx, h.E.below k, h.K.below k, h.nE, h.nK, h.bel.trans (k.mono h.bel.size)⟩
theorem NewsR.put {w wr w' : World} {vE vK : Value} {q : Pc} {c k : Nat} {q' : Pc} (h : NewsR w wr vE vK q) (hb : Below wr.heap.size wr w') (hc : wr.heap.size ≤ c) (hk : wr.heap.size ≤ k) (hE : SetV entV w' (.map (some c)) q'.L) (hK : SetV tokV w' (.map (some k)) q'.K) :
    NewsR w ((w'.setCell ⟨w.heap.size + 1, 0, none⟩ (.map (some c))).setCell ⟨w.heap.size + 1, 1, none⟩ (.map (some k))) (.map (some c)) (.map (some k)) q' := by
  have h1 := h.below hb
  have l1 := lt_of_heap h.bx
  have kp : Kp w'.heap.size (fun b => b = w.heap.size + 1) w' ((w'.setCell ⟨w.heap.size + 1, 0, none⟩ (.map (some c))).setCell ⟨w.heap.size + 1, 1, none⟩ (.map (some k))) := (Kp.set1 w' (w.heap.size + 1) 0 _).setCell (p := ⟨w.heap.size + 1, 1, none⟩) (Or.inr rfl) _
  have ot : OfT w' (fun b => b = w.heap.size + 1) 90 := fun b hb => ⟨_, _, hb ▸ h1.bx⟩
  refine ⟨(kp.block _ (lt_of_heap h1.out) (by show ¬ w.heap.size = w.heap.size + 1; omega)).trans h1.out, ?_, hE.kpE kp (Nat.le_refl _) ot, hK.kpE kp (Nat.le_refl _) ot, fun b e => ?_, fun b e => ?_, ?_⟩
  · have e1 := setCell_row (j := 0) h1.bx (.map (some c))
    have e2 := setCell_row (j := 1) e1 (.map (some k))
    simpa using e2
  · simp only [mapB, Option.some.injEq] at e; omega
  · simp only [mapB, Option.some.injEq] at e; omega
  · exact (h1.bel.setCell (p := ⟨w.heap.size + 1, 0, none⟩) (by simp) _).setCell (p := ⟨w.heap.size + 1, 1, none⟩) (by simp) _

set_option maxHeartbeats 4000000 in
set_option maxRecDepth 100000 in
theorem newsFor_any (w : World) (S : Nat → Prop) (g i : Nat) (d : PN) (hnd : PNodeR w S d) (hg : g < w.heap.size) (c0 : w.cell? ⟨g, i * 5, none⟩ = some d.vE) (c1 : w.cell? ⟨g, i * 5 + 1, none⟩ = some d.vK) (c3 : w.cell? ⟨g, i * 5 + 3, none⟩ = some d.vKept) (c4 : w.cell? ⟨g, i * 5 + 4, none⟩ = some d.vAcked)
    (j a : Nat) (ha : d.acked[j]? = some a) (hk : d.kept.length ≤ 1000000) :
    Calls Tryz.prog 93 #[.pointer (some ⟨g, i * 5, none⟩), .int .i64 j] w fun e w' => ∃ vE vK, e = .returned (.agg #[vE, vK]) ∧ PPieceR w' (Ext S w w') vE vK (sendP d.m a) ∧ Below w.heap.size w w' := by
  have hj : j < d.acked.length := (List.getElem?_eq_some_iff.1 ha).1
  have hA := hnd.acked
  obtain ⟨o, c, hkA, _, _⟩ := own_form hA
  rw [hkA] at c4 hA
  obtain ⟨gA, rfl, hgA, dA, _⟩ := own1_at (k := j) (u := .int .i64 a) hA (by simp [intC, ha])
  obtain ⟨m1, hm1⟩ : ∃ m, d.vE = .map m := ⟨_, hnd.pc.E.form⟩
  obtain ⟨m2, hm2⟩ : ∃ m, d.vK = .map m := ⟨_, hnd.pc.K.form⟩
  rw [hm1] at c0
  rw [hm2] at c1
  have hK := hnd.kept
  obtain ⟨oK, cK, hkK, _, _⟩ := own_form hK
  rw [hkK] at c3 hK
  have hE0 := hnd.pc
  rw [hm1, hm2] at hE0
  have HE0 := hide hE0
  have HND := hide hnd
  clear hA hkA hkK hm1 hm2 hnd hE0 ha
  have whole : ∀ w', Below w.heap.size w w' → PPieceR w' (Ext S w w') (.map m1) (.map m2) d.p := fun w' hb => (HE0.out.below hb).mono fun b hb => Or.inl hb
  have HW := hide whole
  have hb2 : Below w.heap.size w (w.alloc (.cells #[.map m1, .map m2] 90)) := (Below.refl _ _).alloc (Nat.le_refl _) _
  have HB2 := hide hb2
  clear whole hb2
  cases hkept : d.kept with
  | nil =>
    have hs : sendP d.m a = d.p := by simp [sendP, PN.m, hkept]
    rw [hs]
    rw [hkept] at c3
    clear hK hkept
    go_enter Tryz.func93, Tryz.ntmps93
    go_wp2_with fail
    refine bodyPost_ret (v := .agg #[.map m1, .map m2]) (by simp [results, Tryz.results93, go_sem]) rfl ⟨_, _, rfl, HW.out _ HB2.out, HB2.out⟩
  | cons k0 ks =>
    obtain ⟨gk, rfl, hgk, d1, d2, d3⟩ := pKept_at hK (k := 0) (x := k0) (by rw [hkept]; rfl)
    have hlen : d.kept.length = ks.length + 1 := by rw [hkept]; rfl
    have hne : ((d.kept.length : Int) == 0) = false := by rw [hlen]; simp; omega
    have hlen0 : 0 < d.kept.length := by omega
    rw [Nat.zero_mul] at d1
    by_cases hgt : a < k0.n
    · have hs : sendP d.m a = d.p := by
        simp only [sendP, PN.m, hkept, List.map_cons, PK.m]
        rw [if_neg (by omega)]
      rw [hs]
      have hgt' : decide (a < k0.n) = true := by simpa using hgt
      clear d2 d3 hK hkept hs
      go_enter Tryz.func93, Tryz.ntmps93
      go_wp2_with fail
      refine bodyPost_ret (v := .agg #[.map m1, .map m2]) (by simp [results, Tryz.results93, go_sem]) rfl ⟨_, _, rfl, HW.out _ HB2.out, HB2.out⟩
    · have hs : sendP d.m a = d.kept.foldl (stepK a) ⟨[], []⟩ := by
        rw [← foldK_map]
        simp only [sendP, PN.m, hkept, List.map_cons, PK.m]
        rw [if_pos (by omega)]
      rw [hs]
      have hgt' : decide (a < k0.n) = false := by simpa using hgt
      clear d2 d3 hkept hs hlen
      have n0 : NewsR w ((w.alloc (.cells #[.map none, .map none] 90)).alloc (.cells #[.map none, .map none] 90)) (.map none) (.map none) ⟨[], []⟩ :=
        ⟨alloc_at (heap_alloc_new w _) _, new_at _ _ (by simp), SetV.nil _ _, SetV.nil _ _, fun b e => by simp [mapB] at e, fun b e => by simp [mapB] at e, below2 w _ _⟩
      have N0 := hide n0
      have HK := hide hK
      clear n0 hK
      go_enter Tryz.func93, Tryz.ntmps93
      go_wp2_with fail
      go_loopw [42] (fun x wr => ∃ (k : Nat) (e1 e2 : Option Nat), k ≤ d.kept.length ∧ x = .int .i64 k ∧ NewsR w wr (.map e1) (.map e2) ((d.kept.take k).foldl (stepK a) ⟨[], []⟩)) (fun x _ => d.kept.length - (intOf x).toNat)
      case atStart => exact ⟨0, none, none, Nat.zero_le _, rfl, N0.out⟩
      case round =>
        obtain ⟨k, e1, e2, hkl, rfl, hN⟩ := hrel
        obtain ⟨o1, f1⟩ := row_facts hN.out
        obtain ⟨x1, y1⟩ := row_facts hN.bx
        have o10 := o1 0
        have o11 := o1 1
        have x10 := x1 0
        have x11 := x1 1
        have f10 := f1 0
        have f11 := f1 1
        have y10 := y1 0
        have y11 := y1 1
        simp only [List.getElem?_toArray, List.getElem?_cons_zero, List.getElem?_cons_succ] at o10 o11 x10 x11
        have l0 := lt_of_heap hN.out
        have l1 := lt_of_heap hN.bx
        by_cases hlt : k < d.kept.length
        · obtain ⟨x, hx⟩ := get_some hlt
          obtain ⟨gk', hgk', _, d1', d2', d3'⟩ := pKept_at HK.out hx
          simp only [Option.some.injEq, Addr.mk.injEq, and_true] at hgk'
          subst hgk'
          have hxP := HND.out.keptP x (List.mem_of_getElem? hx)
          have q1 := (hN.bel.cell (p := ⟨gk, k * 3, none⟩) hgk).trans d1'
          have q2 := (hN.bel.cell (p := ⟨gk, k * 3 + 1, none⟩) hgk).trans d2'
          have q3 := (hN.bel.cell (p := ⟨gk, k * 3 + 2, none⟩) hgk).trans d3'
          obtain ⟨n1, hn1⟩ : ∃ m, x.vE = .map m := ⟨_, hxP.E.form⟩
          obtain ⟨n2, hn2⟩ : ∃ m, x.vK = .map m := ⟨_, hxP.K.form⟩
          have hxE := hxP.E
          have hxK := hxP.K
          rw [hn1] at q2 hxE
          rw [hn2] at q3 hxK
          have hT : (d.kept.take (k + 1)).foldl (stepK a) ⟨[], []⟩ = stepK a ((d.kept.take k).foldl (stepK a) ⟨[], []⟩) x := by rw [take_snoc' hx]; simp
          have hgr : gk < wr.heap.size := Nat.lt_of_lt_of_le hgk hN.bel.size
          have hb3 : Below wr.heap.size wr (wr.alloc (.cells #[.int .i64 x.n, .map n1, .map n2] 145)) := (Below.refl _ _).alloc (Nat.le_refl _) _
          have hN3 := hN.below hb3
          have hbw3 := hN3.bel
          obtain ⟨w3, hw3⟩ : ∃ w3, wr.alloc (.cells #[.int .i64 x.n, .map n1, .map n2] 145) = w3 := ⟨_, rfl⟩
          by_cases hge : a ≤ x.n
          · have hge' : decide (a ≤ x.n) = true := by simpa using hge
            have hS : stepK a ((d.kept.take k).foldl (stepK a) ⟨[], []⟩) x = joinP ((d.kept.take k).foldl (stepK a) ⟨[], []⟩) x.p := if_pos hge
            rw [hS] at hT
            have hJ := join_set (wr.alloc (.cells #[.int .i64 x.n, .map n1, .map n2] 145)) (.map e1) (.map e2) (.map n1) (.map n2) _ x.p hN3.E hN3.K (hxE.below hbw3) (hxK.below hbw3)
            have HN3 := hide hN3
            have HT := hide hT
            have z10 := (hb3.cell (p := ⟨w.heap.size + 1, 0, none⟩) l1).trans x10
            have z11 := (hb3.cell (p := ⟨w.heap.size + 1, 1, none⟩) l1).trans x11
            clear hN hN3 hS hT hx d1' d2' d3' o1 f1 x1 y1 hxP hn1 hn2 hxE hxK hge hbw3 hb3 hw3 w3
            go_wp2_with fail
            refine hJ.mono ?_
            rintro e w4 ⟨jc, jk, rfl, nc, nk, hJL, hJK, hb4⟩
            have hP := HN3.out.put hb4 nc nk hJL hJK
            obtain ⟨t1, u1⟩ := row_facts (HN3.out.below hb4).bx
            have t10 := t1 0
            have t11 := t1 1
            have u10 := u1 0
            have u11 := u1 1
            simp only [List.getElem?_toArray, List.getElem?_cons_zero, List.getElem?_cons_succ] at t10 t11
            have HP := hide hP
            clear hP hJ hJL hJK hb4 t1 u1
            go_wp2_with fail
            exact ⟨⟨k + 1, some jc, some jk, by omega, by go_num, by rw [HT.out]; exact HP.out⟩, by simp [intOf]; omega⟩
          · have hge' : decide (a ≤ x.n) = false := by simpa using hge
            have hS : stepK a ((d.kept.take k).foldl (stepK a) ⟨[], []⟩) x = (d.kept.take k).foldl (stepK a) ⟨[], []⟩ := if_neg hge
            rw [hS] at hT
            have HN3 := hide hN3
            have HT := hide hT
            clear hN hN3 hS hT hx d1' d2' d3' o1 f1 x1 y1 hxP hn1 hn2 hxE hxK hge hbw3 hb3 hw3 w3
            go_wp2_with fail
            exact ⟨⟨k + 1, e1, e2, by omega, by go_num, by rw [HT.out]; exact HN3.out⟩, by simp [intOf]; omega⟩
        · have hke : k = d.kept.length := by omega
          subst hke
          rw [List.take_of_length_le (Nat.le_refl _)] at hN
          have kp : Kp wr.heap.size (fun b => b = w.heap.size) wr ((wr.setCell ⟨w.heap.size, 0, none⟩ (.map e1)).setCell ⟨w.heap.size, 1, none⟩ (.map e2)) := (Kp.set1 wr w.heap.size 0 _).setCell (p := ⟨w.heap.size, 1, none⟩) (Or.inr rfl) _
          have ot : OfT wr (fun b => b = w.heap.size) 90 := fun b hb => ⟨_, _, hb ▸ hN.out⟩
          have fE := hN.E.kpE kp (Nat.le_refl _) ot
          have fK := hN.K.kpE kp (Nat.le_refl _) ot
          have fB : Below w.heap.size w ((wr.setCell ⟨w.heap.size, 0, none⟩ (.map e1)).setCell ⟨w.heap.size, 1, none⟩ (.map e2)) := (hN.bel.setCell (p := ⟨w.heap.size, 0, none⟩) (Nat.le_refl _) _).setCell (p := ⟨w.heap.size, 1, none⟩) (Nat.le_refl _) _
          have HN := hide hN
          have FE := hide fE
          have FK := hide fK
          have FB := hide fB
          clear hN fE fK fB kp ot o1 f1 x1 y1
          go_wp2_with fail
          refine bodyPost_ret (v := .agg #[.map e1, .map e2]) (by simp [results, Tryz.results93, go_sem, o10, o11]) rfl ⟨_, _, rfl, ⟨FE.out, FK.out, fun b hb => Or.inr ⟨by have := HN.out.nE b hb; omega, FE.out.lt hb⟩, fun b hb => Or.inr ⟨by have := HN.out.nK b hb; omega, FK.out.lt hb⟩⟩, FB.out⟩
end Go.Proofs.YtnniimfinakioaaGreatDoor
namespace Go.Proofs.YtnniimfinakioaaGreatDoor
open Go.RowKit
attribute [local go_sem] toList_nm app_nm size_nm

set_option maxHeartbeats 2000000 in
set_option maxRecDepth 100000 in
theorem pNews_any (w : World) (S : Nat → Prop) (p g c : Nat) (ns : List PN) (vF : Value) (fs : List PM) (h : ProgR w S p (.slice (some ⟨g, 0, none⟩) ns.length c) ns vF fs) (i j : Nat) (d : PN) (hd : ns[i]? = some d) (a : Nat) (ha : d.acked[j]? = some a) (hk : d.kept.length ≤ 1000000) :
    Calls Tryz.prog 68 #[ptr p, .int .i64 i, .int .i64 j] w fun e w' => ∃ vE vK, e = .returned (pmV ⟨1, i, j, d.count, vE, vK, sendP d.m a⟩) ∧ PPieceR w' (Ext S w w') vE vK (sendP d.m a) ∧ Below w.heap.size w w' := by
  obtain ⟨g', c', hgc, hSg, hg, hgp, hcell, hfz⟩ := h.at hd
  simp only [Value.slice.injEq, Option.some.injEq, Addr.mk.injEq, and_true] at hgc
  obtain ⟨rfl, _, rfl⟩ := hgc
  have hnd := h.node d (List.mem_of_getElem? hd)
  have hilt : i < ns.length := (List.getElem?_eq_some_iff.1 hd).1
  have hplt : p < w.heap.size := lt_of_heap h.self
  obtain ⟨e1, _⟩ := row_facts h.self
  have cp := e1 0
  have c0 := hcell 0 (by decide)
  have c1 := hcell 1 (by decide)
  have c2 := hcell 2 (by decide)
  have c3 := hcell 3 (by decide)
  have c4 := hcell 4 (by decide)
  simp only [pnC, List.getElem?_cons_zero, List.getElem?_cons_succ, Nat.add_zero, List.getElem?_toArray] at c0 c1 c2 c3 c4 cp
  clear hcell e1 hfz
  have hb : Below w.heap.size w (w.alloc (.cells #[.int .i64 0, .int .i64 0, .int .i64 0, .int .i64 0, .map none, .map none] 92)) := (Below.refl _ _).alloc (Nat.le_refl _) _
  have q0 := heap_alloc_new w (.cells #[.int .i64 0, .int .i64 0, .int .i64 0, .int .i64 0, .map none, .map none] 92)
  have HB := hide hb
  have Q0 := hide q0
  clear hb q0
  go_enter Tryz.func68, Tryz.ntmps68
  go_wp2_with fail
  generalize w.alloc (.cells #[.int .i64 0, .int .i64 0, .int .i64 0, .int .i64 0, .map none, .map none] 92) = W0 at *
  have hwl : w.heap.size < W0.heap.size := lt_of_heap Q0.out
  have hgl : g < W0.heap.size := by omega
  have k2 := (HB.out.cell (p := ⟨g, i * 5 + 2, none⟩) hg).trans c2
  have bd : Below w.heap.size w W0.drew := HB.out.drew
  have hC := newsFor_any W0.drew S g i d (hnd.below bd) (by simpa using hgl) ((bd.cell (p := ⟨g, i * 5, none⟩) hg).trans c0) ((bd.cell (p := ⟨g, i * 5 + 1, none⟩) hg).trans c1) ((bd.cell (p := ⟨g, i * 5 + 3, none⟩) hg).trans c3) ((bd.cell (p := ⟨g, i * 5 + 4, none⟩) hg).trans c4) j a ha hk
  have HC := hide hC
  clear hC c0 c1 c2 c3 c4 cp hnd
  have hG := Grw.cell W0
  have hGn := Grw.some W0
  refine wp_region_flt [0, 1, 2, 3, 4, 5, 6, 7] [8, 9, 10] (fun w' => ∃ x : Grw W0, w' = x.w) (by kernel_rfl) (by kernel_rfl) (fun _ _ d _ _ h => by cases d <;> exact h) ⟨⟨W0.drew, (Below.refl _ _).drew⟩, rfl⟩ ?_
  simp only [pickOps, List.getElem?_cons_zero, List.getElem?_cons_succ]
  repeat (go_big_quiet_step (fail))
  refine wpQuiet_nil ?_
  refine ⟨_, rfl, ?_⟩
  go_wp2_with fail
  refine HC.out.mono ?_
  rintro e w1 ⟨vE, vK, rfl, hP, hb1⟩
  obtain ⟨m1, rfl⟩ : ∃ m1, vE = .map m1 := ⟨_, hP.E.form⟩
  obtain ⟨m2, rfl⟩ : ∃ m2, vK = .map m2 := ⟨_, hP.K.form⟩
  have hb1' : Below W0.heap.size W0 w1 := ⟨hb1.os, hb1.tape, hb1.output, hb1.size, hb1.block⟩
  have HP := hide hP
  have HB1 := hide hb1'
  clear hb1 hb1' hP hG hGn
  go_wp2_with fail
  refine ⟨fun _ => ⟨⟨w1, HB1.out⟩, rfl⟩, _, rfl, ?_⟩
  go_wp2_with fail
  refine ⟨fun _ => ⟨⟨w1, HB1.out⟩, rfl⟩, _, rfl, ?_⟩
  have q1 := (HB1.out.block w.heap.size hwl).trans Q0.out
  obtain ⟨o1, f1⟩ := row_facts q1
  have x0 := o1 0
  have x1 := o1 1
  have x2 := o1 2
  have x3 := o1 3
  have x4 := o1 4
  have x5 := o1 5
  have y0 := f1 0
  have y1 := f1 1
  have y2 := f1 2
  have y3 := f1 3
  have y4 := f1 4
  have y5 := f1 5
  simp only [List.getElem?_toArray, List.getElem?_cons_zero, List.getElem?_cons_succ] at x0 x1 x2 x3 x4 x5
  have hbw := HB.out.trans (HB1.out.mono HB.out.size)
  have kp : Kp w1.heap.size (fun b => b = w.heap.size) w1 ((((((w1.setCell ⟨w.heap.size, 0, none⟩ (.int .i64 1)).setCell ⟨w.heap.size, 1, none⟩ (.int .i64 i)).setCell ⟨w.heap.size, 2, none⟩ (.int .i64 j)).setCell ⟨w.heap.size, 3, none⟩ (.int .i64 d.count)).setCell ⟨w.heap.size, 4, none⟩ (.map m1)).setCell ⟨w.heap.size, 5, none⟩ (.map m2)) :=
    (((((Kp.set1 w1 w.heap.size 0 _).setCell (p := ⟨w.heap.size, 1, none⟩) (Or.inr rfl) _).setCell (p := ⟨w.heap.size, 2, none⟩) (Or.inr rfl) _).setCell (p := ⟨w.heap.size, 3, none⟩) (Or.inr rfl) _).setCell (p := ⟨w.heap.size, 4, none⟩) (Or.inr rfl) _).setCell (p := ⟨w.heap.size, 5, none⟩) (Or.inr rfl) _
  have ot : OfT w1 (fun b => b = w.heap.size) 92 := fun b hb => ⟨_, _, hb ▸ q1⟩
  have fP := (HP.out.kpE kp (Nat.le_refl _) ot)
  have fB : Below w.heap.size w ((((((w1.setCell ⟨w.heap.size, 0, none⟩ (.int .i64 1)).setCell ⟨w.heap.size, 1, none⟩ (.int .i64 i)).setCell ⟨w.heap.size, 2, none⟩ (.int .i64 j)).setCell ⟨w.heap.size, 3, none⟩ (.int .i64 d.count)).setCell ⟨w.heap.size, 4, none⟩ (.map m1)).setCell ⟨w.heap.size, 5, none⟩ (.map m2)) :=
    (((((hbw.setCell (p := ⟨w.heap.size, 0, none⟩) (Nat.le_refl _) _).setCell (p := ⟨w.heap.size, 1, none⟩) (Nat.le_refl _) _).setCell (p := ⟨w.heap.size, 2, none⟩) (Nat.le_refl _) _).setCell (p := ⟨w.heap.size, 3, none⟩) (Nat.le_refl _) _).setCell (p := ⟨w.heap.size, 4, none⟩) (Nat.le_refl _) _).setCell (p := ⟨w.heap.size, 5, none⟩) (Nat.le_refl _) _
  have FP := hide fP
  have FB := hide fB
  have hs1 := kp.size
  clear fP fB kp ot o1 f1 q1 hbw
  go_wp2_with fail
  refine ⟨fun h => absurd rfl h, ?_⟩
  unfold wpFin
  go_wp2_with fail
  refine bodyPost_ret (v := pmV ⟨1, i, j, d.count, .map m1, .map m2, sendP d.m a⟩) (by simp [results, Tryz.results68, go_sem, x0, x1, x2, x3, x4, x5, pmV]) rfl ⟨_, _, rfl, FP.out.mono (fun b hb => ?_), FB.out⟩
  rcases hb with x | x
  · exact Or.inl x
  · exact Or.inr ⟨Nat.le_trans (by simp; omega) x.1, Nat.lt_of_lt_of_le x.2 hs1⟩

theorem flyL_map {α β : Type} (f : α → β) (l : List α) (m : α) : (flyL l m).map f = flyL (l.map f) (f m) := by
  unfold flyL
  rw [List.length_map]
  split <;> simp
theorem acked_of {n : Nat} {x : PN} {H : List Ent} {i j : Nat} (hG : NodeG H n i x.m) (hj : j < n) : ∃ a, x.acked[j]? = some a ∧ x.m.acked.getD j 0 = a := by
  have hl : x.acked.length = n := hG.acked
  obtain ⟨a, ha⟩ := get_some (l := x.acked) (k := j) (by omega)
  exact ⟨a, ha, by show x.acked.getD j 0 = a; rw [List.getD_eq_getElem?_getD, ha]; rfl⟩
theorem pm_of {fs : List PM} {W : Wd} (hf : fs.map PM.m = W.fly) {k : Nat} {m : Md} (hm : W.fly[k]? = some m) : ∃ x, fs[k]? = some x ∧ x.m = m := by
  rw [← hf, List.getElem?_map] at hm
  cases hx : fs[k]? with
  | none => rw [hx] at hm; cases hm
  | some x => rw [hx] at hm; exact ⟨x, rfl, by simpa using hm⟩


set_option maxHeartbeats 2000000 in
set_option maxRecDepth 100000 in
theorem pSend (w : World) (S : Nat → Prop) (p : Nat) (W : Wd) (i j : Int) (h : ProgW w S p W) (ok : WG W) :
    Calls Tryz.prog 34 #[ptr p, .int .i64 i, .int .i64 j] w fun e w' => e = .returned (err (sendM W i j).1) ∧ ProgW w' (Ext S w w') p (sendM W i j).2 ∧ Kp w.heap.size S w w' := by
  obtain ⟨HH, ok⟩ := ok
  obtain ⟨vN, ns, vF, fs, hr, hm, hf⟩ := h
  have hlen : ns.length = W.nodes.length := by rw [← hm, List.length_map]
  have hl : ns.length ≤ 1000 := by have := ok.five; omega
  have hfl : fs.length = W.fly.length := by rw [← hf, List.length_map]
  have hfl' : fs.length ≤ 1000 := by have := ok.forty; omega
  have H : ProgW w S p W := ⟨vN, ns, vF, fs, hr, hm, hf⟩
  cases hn : nodeAt W i with
  | none =>
    have e0 : sendM W i j = (1, W) := by unfold sendM; rw [hn]
    rw [e0]
    go_enter Tryz.func34, Tryz.ntmps34
    go_wp2_with fail
    refine (at_no w S p _ ns vF fs hr _ (by rw [hlen]; exact nodeAt_none hn) hl).mono ?_
    rintro e w' ⟨rfl, rfl⟩
    go_wp2_with fail
    go_ret
    exact ⟨rfl, H.same⟩
  | some d =>
    obtain ⟨k, rfl, hk⟩ := nodeAt_some hn
    obtain ⟨x, hx, rfl⟩ := pn_of hm hk
    have hkl : k < ns.length := (List.getElem?_eq_some_iff.1 hx).1
    have nk := ok.node k x.m hk
    obtain ⟨g, c, rfl, hSg, hg, hgp, hcell, hfz⟩ := hr.at hx
    have hnd := hr.node x (List.mem_of_getElem? hx)
    have c2 := hcell 2 (by decide)
    have c4 := hcell 4 (by decide)
    simp only [pnC, List.getElem?_cons_zero, List.getElem?_cons_succ] at c2 c4
    have hkpt : x.kept.length ≤ 60 := by have := nk.kept; have := ok.count hk; have : x.m.kept.length = x.kept.length := List.length_map _; have : x.m.count = x.count := rfl; omega
    clear hcell hfz
    cases hn2 : nodeAt W j with
    | none =>
      have e0 : sendM W k j = (1, W) := by unfold sendM; rw [hn, hn2]
      rw [e0]
      go_enter Tryz.func34, Tryz.ntmps34
      go_wp2_with fail
      refine (at_yes w S p g c ns vF fs hr k hkl hl).mono ?_
      rintro e w' ⟨rfl, rfl⟩
      go_wp2_with fail
      refine (at_no w S p _ ns vF fs hr _ (by rw [hlen]; exact nodeAt_none hn2) hl).mono ?_
      rintro e w' ⟨rfl, rfl⟩
      go_wp2_with fail
      go_ret
      exact ⟨rfl, H.same⟩
    | some d2 =>
      obtain ⟨t, rfl, ht⟩ := nodeAt_some hn2
      obtain ⟨y, hy, rfl⟩ := pn_of hm ht
      have htl : t < ns.length := (List.getElem?_eq_some_iff.1 hy).1
      by_cases hkt : k = t
      · subst hkt
        have e0 : sendM W k k = (1, W) := by unfold sendM; rw [hn]; simp
        rw [e0]
        go_enter Tryz.func34, Tryz.ntmps34
        go_wp2_with fail
        refine (at_yes w S p g c ns vF fs hr k hkl hl).mono ?_
        rintro e w' ⟨rfl, rfl⟩
        go_wp2_with fail
        refine (at_yes w S p g c ns vF fs hr k hkl hl).mono ?_
        rintro e w' ⟨rfl, rfl⟩
        go_wp2_with fail
        go_ret
        exact ⟨rfl, H.same⟩
      · have hne : ((k : Int) == (t : Int)) = false := by simp; omega
        obtain ⟨a, ha, hga⟩ := acked_of nk (j := t) (by omega)
        have hkt' : (k : Int) ≠ (t : Int) := by omega
        by_cases hlt : a < x.count
        · have e0 : sendM W k t = (0, { W with fly := flyL W.fly (newsMd x.m k t a) }) := by
            unfold sendM
            rw [hn, hn2]
            simp only [Int.toNat_natCast]
            rw [if_neg hkt', hga, if_neg (show ¬ x.m.count ≤ a by show ¬ x.count ≤ a; omega)]
          rw [e0]
          have hH := hasNews_any w S g k x hnd c2 c4 t a ha true (by simpa using hlt)
          have HKT := hide hkt'
          clear hkt hkt' e0
          go_enter Tryz.func34, Tryz.ntmps34
          go_wp2_with fail
          refine (at_yes w S p g c ns vF fs hr k hkl hl).mono ?_
          rintro e w' ⟨rfl, rfl⟩
          go_wp2_with fail
          refine (at_yes w S p g c ns vF fs hr t htl hl).mono ?_
          rintro e w' ⟨rfl, rfl⟩
          go_wp2_with fail
          refine hH.mono ?_
          rintro e w1 ⟨rfl, hb1⟩
          have hr1 := hr.below hb1
          have hN := pNews_any w1 S p g c ns vF fs hr1 k t x hx a ha (by omega)
          clear hH
          go_wp2_with fail
          refine hN.mono ?_
          rintro e w2 ⟨vE, vK, rfl, hP, hb2⟩
          have hbw := hb1.trans (hb2.mono hb1.size)
          have hr2 := (hr1.below hb2).ext (w' := w1) hr1.lt hb2.size
          have hL := launch_any w2 (Ext S w1 w2) p _ ns vF fs hr2 ⟨1, k, t, x.count, vE, vK, sendP x.m a⟩ hP hfl'
          have HBW := hide hbw
          clear hN hP hbw
          go_wp2_with fail
          refine hL.mono ?_
          rintro e w3 ⟨rfl, ⟨vF', hR⟩, hK⟩
          clear hL
          go_wp2_with fail
          go_ret
          have hs1 := hb1.size
          have hs2 := hb2.size
          have hs3 := hK.size
          refine ⟨rfl, ⟨_, _, _, _, hR.mono (fun b hb => ?_) (fun b hb => ?_), hm, ?_⟩, ?_⟩
          · rcases hb with (x | x) | x
            · exact Or.inl x
            · exact Or.inr ⟨by omega, by omega⟩
            · exact Or.inr ⟨by omega, x.2⟩
          · rcases hb with x | x
            · exact Nat.lt_of_lt_of_le (hr.lt b x) (by omega)
            · exact x.2
          · rw [flyL_map, hf]
            rfl
          · refine (Kp.ofBelow HBW.out).trans (hK.mono (by omega) fun b hb hs => ?_)
            rcases hs with x | x
            · exact x
            · omega
        · have e0 : sendM W k t = (3, W) := by
            unfold sendM
            rw [hn, hn2]
            simp only [Int.toNat_natCast]
            rw [if_neg hkt', hga, if_pos (show x.m.count ≤ a by show x.count ≤ a; omega)]
          rw [e0]
          have hH := hasNews_any w S g k x hnd c2 c4 t a ha false (by simpa using hlt)
          clear hkt hkt' e0
          go_enter Tryz.func34, Tryz.ntmps34
          go_wp2_with fail
          refine (at_yes w S p g c ns vF fs hr k hkl hl).mono ?_
          rintro e w' ⟨rfl, rfl⟩
          go_wp2_with fail
          refine (at_yes w S p g c ns vF fs hr t htl hl).mono ?_
          rintro e w' ⟨rfl, rfl⟩
          go_wp2_with fail
          refine hH.mono ?_
          rintro e w1 ⟨rfl, hb1⟩
          have HG := hide (H.grew hb1)
          clear hb1 hH
          go_wp2_with fail
          go_ret
          exact ⟨rfl, HG.out⟩

set_option maxHeartbeats 2000000 in
set_option maxRecDepth 100000 in
theorem pDouble (w : World) (S : Nat → Prop) (p : Nat) (W : Wd) (i : Int) (h : ProgW w S p W) (ok : WG W) :
    Calls Tryz.prog 38 #[ptr p, .int .i64 i] w fun e w' => e = .returned (err (doubleM W i).1) ∧ ProgW w' (Ext S w w') p (doubleM W i).2 ∧ Kp w.heap.size S w w' := by
  obtain ⟨HH, ok⟩ := ok
  obtain ⟨vN, ns, vF, fs, hr, hm, hf⟩ := h
  have hlen : ns.length = W.nodes.length := by rw [← hm, List.length_map]
  have hl : ns.length ≤ 1000 := by have := ok.five; omega
  have hfl : fs.length = W.fly.length := by rw [← hf, List.length_map]
  have hfl' : fs.length ≤ 1000 := by have := ok.forty; omega
  have H : ProgW w S p W := ⟨vN, ns, vF, fs, hr, hm, hf⟩
  have hI := isFlying_any w S p vN ns vF fs hr i hfl'
  cases hn : msgAt W i with
  | none =>
    have e0 : doubleM W i = (3, W) := by unfold doubleM; rw [hn]
    have e1 : decide (0 ≤ i ∧ i < (fs.length : Int)) = false := by rw [hfl]; have := msgAt_none hn; exact decide_eq_false (by omega)
    rw [e0]
    rw [e1] at hI
    go_enter Tryz.func38, Tryz.ntmps38
    go_wp2_with fail
    refine hI.mono ?_
    rintro e w' ⟨rfl, rfl⟩
    go_wp2_with fail
    go_ret
    exact ⟨rfl, H.same⟩
  | some m =>
    obtain ⟨k, rfl, hk⟩ := msgAt_some hn
    obtain ⟨x, hx, rfl⟩ := pm_of hf hk
    have hkl : k < fs.length := (List.getElem?_eq_some_iff.1 hx).1
    have e0 : doubleM W k = (0, { W with fly := flyL W.fly x.m }) := by unfold doubleM; rw [hn]
    have e1 : decide (0 ≤ (k : Int) ∧ (k : Int) < (fs.length : Int)) = true := by simp; omega
    rw [e0]
    rw [e1] at hI
    have hP := hr.fly.piece x (List.mem_of_getElem? hx)
    have hL := launch_any w S p vN ns vF fs hr x hP hfl'
    obtain ⟨o, cF, hvF, _, _⟩ := own_form hr.fly.row
    have hrow := hr.fly.row
    rw [hvF] at hrow
    obtain ⟨gF, rfl, hgF, d0, d1, d2, d3, d4, d5⟩ := pFly_at hrow hx
    obtain ⟨m1, hm1⟩ : ∃ m, x.vE = .map m := ⟨_, hP.E.form⟩
    obtain ⟨m2, hm2⟩ : ∃ m, x.vK = .map m := ⟨_, hP.K.form⟩
    obtain ⟨q1, _⟩ := row_facts hr.self
    have cp := q1 1
    simp only [List.getElem?_cons_zero, List.getElem?_cons_succ, List.getElem?_toArray] at cp
    rw [hvF] at cp
    rw [hm1] at d4
    rw [hm2] at d5
    simp only [pmV] at hL
    rw [hm1, hm2] at hL
    clear q1 hrow hm1 hm2
    go_enter Tryz.func38, Tryz.ntmps38
    go_wp2_with fail
    refine hI.mono ?_
    rintro e w' ⟨rfl, rfl⟩
    go_wp2_with fail
    refine hL.mono ?_
    rintro e w3 ⟨rfl, ⟨vF', hR⟩, hK⟩
    clear hL
    go_wp2_with fail
    go_ret
    exact ⟨rfl, ⟨_, _, _, _, hR, hm, by rw [flyL_map, hf]⟩, hK⟩
end Go.Proofs.YtnniimfinakioaaGreatDoor
