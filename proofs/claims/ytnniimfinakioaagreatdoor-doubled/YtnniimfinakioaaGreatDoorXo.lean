import Derived.ProofKit
import Derived.OpenShut
import Derived.Carry
import Derived.Deep.Slices
import Derived.WalkKit
import Derived.Deep.DeepHandedRow
import Derived.Lib.LaidTab
import Derived.Test.YtnniimfinakioaaGreatDoorXn
import Derived.Test.YtnniimfinakioaaGreatDoorRows
import Derived.Test.YtnniimfinakioaaGreatDoorCards
import Derived.Test.YtnniimfinakioaaGreatDoorTie
namespace Go.Proofs.YtnniimfinakioaaGreatDoor
open Go.ChangeShapes Go.WideShapes Go.ChangeAt Go.RowKit Go.Deep

theorem laidOut : laidOutB Tryz.prog = true := by kernel_rfl
theorem cellsOp : Tryz.prog.cellsOf 78 = 5 := by kernel_rfl
theorem cellsInt : Tryz.prog.cellsOf 3 = 1 := by kernel_rfl
theorem cellsStr : Tryz.prog.cellsOf 9 = 1 := by kernel_rfl

section
variable {H : Type} {enc : TypeId × Value → H} {w : World} {base : Nat} {sp : Nat → Bool} {held : Bool}
/-- One step of a script, opened. -/
theorem open_op {n : Nat} {cs : List Value} {x : DataW H × List MemPlace} (h : DataW.trod enc Tryz.prog w base sp held n 78 cs = some x) : ∃ o : OpD, cs = opC o ∧ -9223372036854775808 ≤ o.c ∧ o.c ≤ 9223372036854775807 ∧ o.s.length ≤ Rows.uptoBulk x.1 := by
  obtain ⟨xs, m, rfl, rfl, hl, hlen, hf⟩ := DataW.trod_struct Tryz.underlying78 h
  rw [cellsOp] at hl
  replace hlen : xs.length = 5 := hlen
  obtain ⟨y0, y1, y2, y3, y4, rfl⟩ : ∃ y0 y1 y2 y3 y4, xs = [y0, y1, y2, y3, y4] := by
    clear hf h
    match xs, hlen with
    | [y0, y1, y2, y3, y4], _ => exact ⟨y0, y1, y2, y3, y4, rfl⟩
  obtain ⟨c0, c1, c2, c3, c4, rfl⟩ : ∃ c0 c1 c2 c3 c4, cs = [c0, c1, c2, c3, c4] := by
    clear hf h
    match cs, hl with
    | [c0, c1, c2, c3, c4], _ => exact ⟨c0, c1, c2, c3, c4, rfl⟩
  obtain ⟨n0, e0, _, _⟩ := DataW.trod_int Tryz.underlying3 (hf 0 _ rfl)
  obtain ⟨n1, e1, _, w1⟩ := DataW.trod_int Tryz.underlying3 (hf 1 _ rfl)
  obtain ⟨n2, e2, _, _⟩ := DataW.trod_int Tryz.underlying3 (hf 2 _ rfl)
  obtain ⟨n3, e3, _, _⟩ := DataW.trod_int Tryz.underlying3 (hf 3 _ rfl)
  obtain ⟨s, e4, x4, _⟩ := DataW.trod_string Tryz.underlying9 (hf 4 _ rfl)
  replace e0 : List.take (Tryz.prog.cellsOf 3) [c0, c1, c2, c3, c4] = [.int .i64 n0] := e0
  replace e1 : List.take (Tryz.prog.cellsOf 3) [c1, c2, c3, c4] = [.int .i64 n1] := e1
  replace e2 : List.take (Tryz.prog.cellsOf 3) [c2, c3, c4] = [.int .i64 n2] := e2
  replace e3 : List.take (Tryz.prog.cellsOf 3) [c3, c4] = [.int .i64 n3] := e3
  replace e4 : List.take (Tryz.prog.cellsOf 9) [c4] = [.string s] := e4
  rw [cellsInt] at e0 e1 e2 e3
  rw [cellsStr] at e4
  simp only [List.take_succ_cons, List.take_zero, List.cons.injEq, and_true] at e0 e1 e2 e3 e4
  subst e0 e1 e2 e3 e4
  obtain ⟨t, rfl⟩ := nm_of s
  refine ⟨⟨n0, n1, n2, n3, t⟩, rfl, (bounds_i64 w1).1, (bounds_i64 w1).2, ?_⟩
  subst x4
  simp [Rows.uptoBulk, Rows.uptoBulkAll]
  omega
end

theorem list_of {α : Type} {Q : Nat → α → Prop} : ∀ n : Nat, (∀ i, i < n → ∃ x, Q i x) → ∃ l : List α, l.length = n ∧ ∀ i x, l[i]? = some x → Q i x
  | 0, _ => ⟨[], rfl, fun i x h => by simp at h⟩
  | n + 1, h => by
    obtain ⟨l, hl, hq⟩ := list_of n fun i hi => h i (by omega)
    obtain ⟨x, hx⟩ := h n (by omega)
    refine ⟨l ++ [x], by simp [hl], fun i y hy => ?_⟩
    rcases Nat.lt_or_ge i l.length with hi | hi
    · rw [List.getElem?_append_left hi] at hy
      exact hq i y hy
    · rw [List.getElem?_append_right hi] at hy
      have : i - l.length = 0 := by
        have := (List.getElem?_eq_some_iff.1 hy).1
        simp at this; omega
      rw [this] at hy
      simp only [List.getElem?_cons_zero, Option.some.injEq] at hy
      subst hy
      have : i = n := by omega
      subst this
      exact hx

theorem bulk_part {H : Type} : ∀ (l : List (DataW H)) (d : DataW H), d ∈ l → Rows.uptoBulk d ≤ Rows.uptoBulkAll l := by
  intro l
  induction l with
  | nil => intro d h; cases h
  | cons x r ih =>
    intro d h
    simp only [Rows.uptoBulkAll]
    rcases List.mem_cons.1 h with rfl | h
    · omega
    · have := ih d h; omega
theorem bulk_one {H : Type} (d : DataW H) : 1 ≤ Rows.uptoBulk d := by
  cases d with
  | lit l => cases l <;> simp [Rows.uptoBulk]
  | _ => simp [Rows.uptoBulk]
theorem bulk_len {H : Type} (l : List (DataW H)) : l.length ≤ Rows.uptoBulkAll l := by
  induction l with
  | nil => simp [Rows.uptoBulkAll]
  | cons x r ih => have := bulk_one x; simp only [Rows.uptoBulkAll, List.length_cons]; omega

set_option maxRecDepth 100000 in
theorem contract {RX : World → (Nat → Prop) → Nat → Wd → Prop} {late : Prop} (OX : ProgOpsG late RX) (H : Type) (enc : TypeId × Value → H) (W : World) (base : Nat) (args : Array Value) (ds gs : List (DataW H)) (before : List MemPlace)
    (hval : ∀ (j : Nat) t v, Tryz.f3.params[j]? = some t → args[j]? = some v → Value.okWide Tryz.prog W .any base t v)
    (hW : DataW.Whole enc Tryz.prog Tryz.f3.params.toList Rows.aloneSpec.vars false W args.toList ds gs before) (hsm : Rows.uptoBulkAll ds ≤ 1048576) :
    Calls Tryz.prog 3 args W fun e W' => ∃ v, e = .returned v ∧ Rows.aloneSpec.post enc Tryz.prog Tryz.f3 false true false false W args v W' := by
  have hW' := hW
  obtain ⟨p, q, hA0, hV, rfl, _, _⟩ := hW
  have hA : DataW.TrodAll enc Tryz.prog W 0 (fun _ => true) true Tryz.f3.params.toList args.toList ds p := hA0
  rw [Tryz.params3] at hA hval
  obtain ⟨v0, d0, rfl, rfl, h0⟩ := trodAll_one hA
  obtain ⟨rfl, rfl⟩ := trodVars_none hV
  obtain ⟨a0, len, cap, rfl⟩ := okWide_slice Tryz.underlying22 (hval 0 22 v0 rfl rfl)
  have h0k := h0
  obtain ⟨fuel, hf⟩ := h0
  clear hA0
  simp only [List.append_nil] at hW'
  have hlt : ∀ x ∈ p, x.block < W.heap.size := fun x hx => by simpa using hW'.lt x hx
  have walk : Calls Tryz.prog 3 #[.slice a0 len cap] W fun e W' => e = .returned (.bool true) ∧ Below W.heap.size W W' := by
    rcases open_slice Tryz.underlying22 hf with ⟨hcs, hx⟩ | ⟨a, len', cap', m, n, D, Pl, hcs, _, hl, hm, hmm, hx, hel⟩
    · simp [Value.cells] at hcs
      obtain ⟨rfl, rfl, rfl⟩ := hcs
      exact alone_any OX W none 0 [] (by simp) (fun i x hx => by simp at hx) (by simp)
    · simp [Value.cells] at hcs
      obtain ⟨rfl, rfl, rfl⟩ := hcs
      simp only [Prod.mk.injEq] at hx
      obtain ⟨rfl, hp⟩ := hx
      have hsm2 : Rows.uptoBulkAll ((List.range len).map D) ≤ 1048576 := by
        simp only [Rows.uptoBulkAll, Rows.uptoBulk] at hsm; omega
      have hln := bulk_len ((List.range len).map D)
      simp only [List.length_map, List.length_range] at hln
      obtain ⟨l, hll, hq⟩ := list_of (Q := fun i (x : OpD) => W.cells? 0 (a.add (i * 5)) 5 = some (opC x) ∧ OpOk x) len fun i hi => by
        obtain ⟨cs', h1, h2⟩ := hel i (by rw [hmm]; simp; omega)
        rw [cellsOp] at h1
        obtain ⟨o, rfl, r1, r2, r3⟩ := open_op h2
        have r4 := bulk_part ((List.range len).map D) (D i) (List.mem_map.2 ⟨i, List.mem_range.2 hi, rfl⟩)
        have r5 : o.s.length ≤ Rows.uptoBulk (D i) := r3
        exact ⟨o, h1, ⟨by omega, r1, r2⟩⟩
      subst hll
      refine alone_any OX W (some a) cap l (by omega) (fun i x hx => ⟨a, rfl, ?_, fun j u hu => ?_⟩) (fun x hx => ?_)
      · have := World.cells?_block (hq i x hx).1 (by decide)
        rwa [(add_parts a (i * 5)).1] at this
      · obtain ⟨_, h2, h3⟩ := World.cells?_some (hq i x hx).1
        have hj : j < 5 := by
          have := (List.getElem?_eq_some_iff.1 hu).1
          simpa [opC] using this
        have h4 := h3 j hj
        rw [hu] at h4
        rw [← h4]
        congr 1
        unfold Addr.add
        by_cases hi0 : i * 5 = 0
        · simp [hi0]
        · by_cases hj0 : j = 0
          · subst hj0; simp [hi0]
          · simp [hi0, hj0]; omega
      · obtain ⟨i, hi⟩ := List.mem_iff_getElem?.1 hx
        exact (hq i x hi).2
  refine walk.mono fun e W' ⟨he, hg⟩ => ?_
  subst he
  have hb0 := Below.trod (enc := enc) laidOut (by kernel_rfl) (of_decide_eq_true (by kernel_rfl)) h0k hg hlt
  refine ⟨_, rfl, [d0], [], p, [], p ++ [], [], hW', ?_, ?_, ?_, hg.frame _, fun h => ?_⟩
  · exact trodAll_cons_mk (shut_bool Tryz.underlying4 _) trodAll_mk0
  · exact trodAll_cons_mk hb0 trodAll_mk0
  · first | exact rfl | exact ⟨rfl, rfl⟩
  · cases h
set_option maxRecDepth 100000 in
theorem contractSent {RX : World → (Nat → Prop) → Nat → Wd → Prop} {late : Prop} (OX : ProgOpsG late RX) (H : Type) (enc : TypeId × Value → H) (W : World) (base : Nat) (args : Array Value) (ds gs : List (DataW H)) (before : List MemPlace)
    (hval : ∀ (j : Nat) t v, Tryz.f4.params[j]? = some t → args[j]? = some v → Value.okWide Tryz.prog W .any base t v)
    (hW : DataW.Whole enc Tryz.prog Tryz.f4.params.toList Rows.sentSpec.vars false W args.toList ds gs before) (hsm : Rows.uptoBulkAll ds ≤ 1048576) :
    Calls Tryz.prog 4 args W fun e W' => ∃ v, e = .returned v ∧ Rows.sentSpec.post enc Tryz.prog Tryz.f4 false true false false W args v W' := by
  have hW' := hW
  obtain ⟨p, q, hA0, hV, rfl, _, _⟩ := hW
  have hA : DataW.TrodAll enc Tryz.prog W 0 (fun _ => true) true Tryz.f4.params.toList args.toList ds p := hA0
  rw [Tryz.params4] at hA hval
  obtain ⟨v0, d0, rfl, rfl, h0⟩ := trodAll_one hA
  obtain ⟨rfl, rfl⟩ := trodVars_none hV
  obtain ⟨a0, len, cap, rfl⟩ := okWide_slice Tryz.underlying22 (hval 0 22 v0 rfl rfl)
  have h0k := h0
  obtain ⟨fuel, hf⟩ := h0
  clear hA0
  simp only [List.append_nil] at hW'
  have hlt : ∀ x ∈ p, x.block < W.heap.size := fun x hx => by simpa using hW'.lt x hx
  have walk : Calls Tryz.prog 4 #[.slice a0 len cap] W fun e W' => e = .returned (.bool true) ∧ Below W.heap.size W W' := by
    rcases open_slice Tryz.underlying22 hf with ⟨hcs, hx⟩ | ⟨a, len', cap', m, n, D, Pl, hcs, _, hl, hm, hmm, hx, hel⟩
    · simp [Value.cells] at hcs
      obtain ⟨rfl, rfl, rfl⟩ := hcs
      exact sent_any OX W none 0 [] (by simp) (fun i x hx => by simp at hx) (by simp)
    · simp [Value.cells] at hcs
      obtain ⟨rfl, rfl, rfl⟩ := hcs
      simp only [Prod.mk.injEq] at hx
      obtain ⟨rfl, hp⟩ := hx
      have hsm2 : Rows.uptoBulkAll ((List.range len).map D) ≤ 1048576 := by
        simp only [Rows.uptoBulkAll, Rows.uptoBulk] at hsm; omega
      have hln := bulk_len ((List.range len).map D)
      simp only [List.length_map, List.length_range] at hln
      obtain ⟨l, hll, hq⟩ := list_of (Q := fun i (x : OpD) => W.cells? 0 (a.add (i * 5)) 5 = some (opC x) ∧ OpOk x) len fun i hi => by
        obtain ⟨cs', h1, h2⟩ := hel i (by rw [hmm]; simp; omega)
        rw [cellsOp] at h1
        obtain ⟨o, rfl, r1, r2, r3⟩ := open_op h2
        have r4 := bulk_part ((List.range len).map D) (D i) (List.mem_map.2 ⟨i, List.mem_range.2 hi, rfl⟩)
        have r5 : o.s.length ≤ Rows.uptoBulk (D i) := r3
        exact ⟨o, h1, ⟨by omega, r1, r2⟩⟩
      subst hll
      refine sent_any OX W (some a) cap l (by omega) (fun i x hx => ⟨a, rfl, ?_, fun j u hu => ?_⟩) (fun x hx => ?_)
      · have := World.cells?_block (hq i x hx).1 (by decide)
        rwa [(add_parts a (i * 5)).1] at this
      · obtain ⟨_, h2, h3⟩ := World.cells?_some (hq i x hx).1
        have hj : j < 5 := by
          have := (List.getElem?_eq_some_iff.1 hu).1
          simpa [opC] using this
        have h4 := h3 j hj
        rw [hu] at h4
        rw [← h4]
        congr 1
        unfold Addr.add
        by_cases hi0 : i * 5 = 0
        · simp [hi0]
        · by_cases hj0 : j = 0
          · subst hj0; simp [hi0]
          · simp [hi0, hj0]; omega
      · obtain ⟨i, hi⟩ := List.mem_iff_getElem?.1 hx
        exact (hq i x hi).2
  refine walk.mono fun e W' ⟨he, hg⟩ => ?_
  subst he
  have hb0 := Below.trod (enc := enc) laidOut (by kernel_rfl) (of_decide_eq_true (by kernel_rfl)) h0k hg hlt
  refine ⟨_, rfl, [d0], [], p, [], p ++ [], [], hW', ?_, ?_, ?_, hg.frame _, fun h => ?_⟩
  · exact trodAll_cons_mk (shut_bool Tryz.underlying4 _) trodAll_mk0
  · exact trodAll_cons_mk hb0 trodAll_mk0
  · first | exact rfl | exact ⟨rfl, rfl⟩
  · cases h
end Go.Proofs.YtnniimfinakioaaGreatDoor
namespace Go.Proofs.YtnniimfinakioaaGreatDoor
open Go.ChangeShapes Go.WideShapes Go.ChangeAt Go.RowKit

theorem bulk_app {H : Type} (l r : List (DataW H)) : Rows.uptoBulkAll l ≤ Rows.uptoBulkAll (l ++ r) := by
  induction l with
  | nil => simp [Rows.uptoBulkAll]
  | cons x l ih => simp only [List.cons_append, Rows.uptoBulkAll]; omega
theorem ownK : ownKnob Tryz.prog.godebug = none := by kernel_rfl

/-- What a table of the row's list lays. -/
def tabCells (d : DataW Unit) : Array Value := match d with
  | .agg l => (l.map fun
    | .lit (.int k n) => Value.int k n
    | _ => Value.bool false).toArray
  | _ => #[]
def putTab (P : Program) (n : String) (d : DataW Unit) (h : Array Obj) : Array Obj := h.modify ((P.globalNamed n).getD 0) fun
  | .cells _ t frozen => .cells (tabCells d) t frozen
  | o => o
/-- A world for the witness: the tables hold what the text lays. -/
def laidWorld (P : Program) (os : Os) : World :=
  { World.holding P os ⟨#[], #[], []⟩ with heap := putTab P "internal/strconv.uint64pow10" Rows.laid_internal_strconv_uint64pow10 (putTab P "math/bits.deBruijn64tab" Rows.laid_math_bits_deBruijn64tab (putTab P "math/bits.deBruijn32tab" Rows.laid_math_bits_deBruijn32tab (World.holding P os ⟨#[], #[], []⟩).heap)) }
set_option maxRecDepth 100000 in
theorem laid_met (os : Os) : laidMet Tryz.prog Rows.aloneUptoRow.laid ((laidWorld Tryz.prog os).forCall (fun _ _ => 0) ⟨#[], #[.slice none 0 0], []⟩).memory :=
  laidMet_of_run' 8 (by kernel_rfl) (by kernel_rfl)
theorem reads (os : Os) {H : Type} (enc : TypeId × Value → H) : ∃ places, DataW.whole enc Tryz.prog ((laidWorld Tryz.prog os).forCall (fun _ _ => 0) ⟨#[], #[.slice none 0 0], []⟩).memory Tryz.f3.params.toList Rows.aloneSpec.vars false #[Value.slice none 0 0].toList 8 = some ([.nil], [], places) :=
  ⟨[], by kernel_rfl⟩

set_option maxRecDepth 100000 in
theorem liftedUpto {RX : World → (Nat → Prop) → Nat → Wd → Prop} {late : Prop} (OX : ProgOpsG late RX) (os : Os) (started : os.Started) (H : Type) (enc : TypeId × Value → H) (F : Stop.Interp) :
    ReturnsInHanded {} Tryz.checked os 3 .any ((Rows.OpenSpec.upto Rows.aloneSpec).preRow enc Tryz.prog Tryz.f3 Rows.aloneUptoRow.domain false Rows.aloneUptoRow.laid) (((Rows.OpenSpec.upto Rows.aloneSpec).at F).post enc Tryz.prog Tryz.f3 false true false false) := by
  obtain ⟨places, hx⟩ := reads os enc
  refine returnsInHanded_of_row (C := Tryz.checked) (s := Rows.OpenSpec.upto Rows.aloneSpec) ownK started (by kernel_rfl) Tryz.func3
    (witness_row_at (enc := enc) (C := Tryz.checked) false (laidWorld Tryz.prog os) #[.slice none 0 0] rfl (by kernel_rfl) (by kernel_rfl) (by kernel_rfl)
      (OpenSpec.preRow_of_cond 8 hx (by kernel_rfl) (fun k hk => by cases hk; kernel_rfl) (by kernel_rfl) (laid_met os))) ?_
  intro W base args ds gs before hval hW _ h2 _ _ _ _
  have hb : Rows.uptoBulkAll (ds ++ gs) ≤ 1048576 := by
    have := h2 _ rfl
    simpa [Rows.uptoSmall] using this
  exact contract OX H enc W base args ds gs before hval hW (Nat.le_trans (bulk_app ds gs) hb)

theorem saidUpto {RX : World → (Nat → Prop) → Nat → Wd → Prop} {late : Prop} (OX : ProgOpsG late RX) : Rows.AloneUptoSaid :=
  OpenClaim.holds_of_cond 3 Tryz.f3 rfl rfl rfl rfl rfl rfl rfl ⟨rfl, rfl, rfl, rfl, rfl⟩ rfl rfl rfl rfl rfl (by kernel_rfl) Tryz.func3 (by kernel_rfl)
    (of_decide_eq_true (by kernel_rfl)) (by unfold Func.isWrapper; first | (rw [if_pos (by decide +kernel)]; kernel_rfl) | (rw [if_neg (by decide +kernel)]; exact ⟨rfl, rfl⟩))
    (fun os started H enc _ F => by rw [OpenClaim.pre_eq_preRow]; exact liftedUpto OX os started H enc F)

/-- No parameter wants a stand-in; the program's own looks are off. -/
theorem plain (f : FuncId) (fn : Func) (hf : Tryz.pinned.checked.prog.funcNamed "basket/basketlaw.Alone" = some f) (hfn : Tryz.pinned.checked.prog.funcs[f]? = some fn) :
    false = Tryz.pinned.checked.prog.looks [] ∧ ∀ (j : Nat) t, fn.params[j]? = some t → Tryz.pinned.checked.prog.wantsStandIn t = false := by
  obtain rfl : f = 3 := Option.some.inj ((show Tryz.prog.funcNamed "basket/basketlaw.Alone" = some 3 by kernel_rfl).symm.trans hf) |>.symm
  obtain rfl : fn = Tryz.f3 := (Option.some.inj (Tryz.func3.symm.trans hfn)).symm
  refine ⟨by kernel_rfl, fun j t ht => ?_⟩
  rw [Tryz.params3] at ht
  obtain rfl : t = 22 := by simpa using Array.mem_of_getElem? ht
  exact (show Tryz.prog.wantsStandIn 22 = false by kernel_rfl)

theorem tied_goes {s : OpenSpec} {c : OpenClaim} (kinds : List LaidKind) (tests : Bool) (har : Bool × String) (lk : Bool)
    (hc : c.holds Tryz.pinned s) (hw : c.wfByText s = true) (htie : c.laidByTextAt .later Tryz.pinned kinds tests)
    (hst : c.start = .entering) (hnb : c.noBlocks = false ∧ c.again = false) (hm : Tryz.pinned.checked.prog.mainIs = some (har.1, har.2.toList)) (hn : (!har.1 && har.2.isEmpty && !lk) = false)
    (hl : ∀ f fn, Tryz.pinned.checked.prog.funcNamed c.func = some f → Tryz.pinned.checked.prog.funcs[f]? = some fn → lk = Tryz.pinned.checked.prog.looks [] ∧ ∀ (j : Nat) t, fn.params[j]? = some t → Tryz.pinned.checked.prog.wantsStandIn t = false)
    (hg : true = c.goesBy Tryz.pinned.checked.prog) :
    Claim7.holds Tryz.pinned (.plain s) { stood := { row := c, standIns := [], harness := har, looks := lk }, kinds := [], alts := [], goes := true, laidByText := true, laidKinds := kinds, laidTests := tests, laidLooks := .later } := by
  have h6 : ∀ r : OpenClaim, Claim7.isSixth { stood := { row := r, standIns := [], harness := har, looks := lk }, kinds := [] } = false := fun r => by simpa [Claim7.isSixth] using hn
  exact ⟨Claim7.tied_new_at .later kinds tests (Claim7.new_of_sixth hc har lk hst hnb hm (h6 c) hl) hw, (fun D hD => by cases hD), htie, (fun h => by cases h), hg⟩

theorem cardUpto {RX : World → (Nat → Prop) → Nat → Wd → Prop} {late : Prop} (OX : ProgOpsG late RX) : Rows.AloneUptoCardSaid :=
  tied_goes _ _ _ _ (saidUpto OX) (by kernel_rfl) aloneUpto_row_tie rfl ⟨rfl, rfl⟩ (by kernel_rfl) rfl plain (by kernel_rfl)
set_option maxRecDepth 100000 in
theorem laid_metS (os : Os) : laidMet Tryz.prog Rows.sentUptoRow.laid ((laidWorld Tryz.prog os).forCall (fun _ _ => 0) ⟨#[], #[.slice none 0 0], []⟩).memory :=
  laidMet_of_run' 8 (by kernel_rfl) (by kernel_rfl)
theorem readsS (os : Os) {H : Type} (enc : TypeId × Value → H) : ∃ places, DataW.whole enc Tryz.prog ((laidWorld Tryz.prog os).forCall (fun _ _ => 0) ⟨#[], #[.slice none 0 0], []⟩).memory Tryz.f4.params.toList Rows.sentSpec.vars false #[Value.slice none 0 0].toList 8 = some ([.nil], [], places) :=
  ⟨[], by kernel_rfl⟩

set_option maxRecDepth 100000 in
theorem liftedUptoS {RX : World → (Nat → Prop) → Nat → Wd → Prop} {late : Prop} (OX : ProgOpsG late RX) (os : Os) (started : os.Started) (H : Type) (enc : TypeId × Value → H) (F : Stop.Interp) :
    ReturnsInHanded {} Tryz.checked os 4 .any ((Rows.OpenSpec.upto Rows.sentSpec).preRow enc Tryz.prog Tryz.f4 Rows.sentUptoRow.domain false Rows.sentUptoRow.laid) (((Rows.OpenSpec.upto Rows.sentSpec).at F).post enc Tryz.prog Tryz.f4 false true false false) := by
  obtain ⟨places, hx⟩ := readsS os enc
  refine returnsInHanded_of_row (C := Tryz.checked) (s := Rows.OpenSpec.upto Rows.sentSpec) ownK started (by kernel_rfl) Tryz.func4
    (witness_row_at (enc := enc) (C := Tryz.checked) false (laidWorld Tryz.prog os) #[.slice none 0 0] rfl (by kernel_rfl) (by kernel_rfl) (by kernel_rfl)
      (OpenSpec.preRow_of_cond 8 hx (by kernel_rfl) (fun k hk => by cases hk; kernel_rfl) (by kernel_rfl) (laid_metS os))) ?_
  intro W base args ds gs before hval hW _ h2 _ _ _ _
  have hb : Rows.uptoBulkAll (ds ++ gs) ≤ 1048576 := by
    have := h2 _ rfl
    simpa [Rows.uptoSmall] using this
  exact contractSent OX H enc W base args ds gs before hval hW (Nat.le_trans (bulk_app ds gs) hb)

theorem saidUptoS {RX : World → (Nat → Prop) → Nat → Wd → Prop} {late : Prop} (OX : ProgOpsG late RX) : Rows.SentUptoSaid :=
  OpenClaim.holds_of_cond 4 Tryz.f4 rfl rfl rfl rfl rfl rfl rfl ⟨rfl, rfl, rfl, rfl, rfl⟩ rfl rfl rfl rfl rfl (by kernel_rfl) Tryz.func4 (by kernel_rfl)
    (of_decide_eq_true (by kernel_rfl)) (by unfold Func.isWrapper; first | (rw [if_pos (by decide +kernel)]; kernel_rfl) | (rw [if_neg (by decide +kernel)]; exact ⟨rfl, rfl⟩))
    (fun os started H enc _ F => by rw [OpenClaim.pre_eq_preRow]; exact liftedUptoS OX os started H enc F)

/-- No parameter wants a stand-in; the program's own looks are off. -/
theorem plainS (f : FuncId) (fn : Func) (hf : Tryz.pinned.checked.prog.funcNamed "basket/basketlaw.Sent" = some f) (hfn : Tryz.pinned.checked.prog.funcs[f]? = some fn) :
    false = Tryz.pinned.checked.prog.looks [] ∧ ∀ (j : Nat) t, fn.params[j]? = some t → Tryz.pinned.checked.prog.wantsStandIn t = false := by
  obtain rfl : f = 4 := Option.some.inj ((show Tryz.prog.funcNamed "basket/basketlaw.Sent" = some 4 by kernel_rfl).symm.trans hf) |>.symm
  obtain rfl : fn = Tryz.f4 := (Option.some.inj (Tryz.func4.symm.trans hfn)).symm
  refine ⟨by kernel_rfl, fun j t ht => ?_⟩
  rw [Tryz.params4] at ht
  obtain rfl : t = 22 := by simpa using Array.mem_of_getElem? ht
  exact (show Tryz.prog.wantsStandIn 22 = false by kernel_rfl)

theorem cardUptoS {RX : World → (Nat → Prop) → Nat → Wd → Prop} {late : Prop} (OX : ProgOpsG late RX) : Rows.SentUptoCardSaid :=
  tied_goes _ _ _ _ (saidUptoS OX) (by kernel_rfl) sentUpto_row_tie rfl ⟨rfl, rfl⟩ (by kernel_rfl) rfl plainS (by kernel_rfl)
end Go.Proofs.YtnniimfinakioaaGreatDoor
