import Derived.Maps.Range
import Derived.Test.YtnniimfinakioaaGreatDoorXe
namespace Go.Proofs.YtnniimfinakioaaGreatDoor
open Go.RowKit
open Go.ChangeMaps (setBlock)

/-! Maps whose elements are nothing: sets of keys, in the order in which they were laid. -/
abbrev unitV : Value := .agg #[]

/-- What a key's type must do. -/
structure KeyOk {α : Type} [DecidableEq α] (P : Program) (kt : TypeId) (enc : α → Value) : Prop where
  check : ∀ (em : Bool) (x : α) (w : World), (Instr.checkKey em 10000 kt (enc x)).run P w = .ok () w
  eq : ∀ (x y : α) (w : World), (Op.equal kt (enc x) (enc y)).run P w = .ok (decide (x = y)) w
  now : ∃ d, P.underlying kt = some d ∧ ∀ x y, Instr.sameNow d (enc x) (enc y) = none
  stays : ∀ x, Instr.sameBits 10000 (enc x) (enc x) = true

def Laid {α : Type} (enc : α → Value) (es : List MapEntry) (ks : List α) : Prop := es.map (fun e => (e.key, e.val)) = ks.map fun k => (enc k, unitV)
structure MapAt {α : Type} (enc : α → Value) (es : Array MapEntry) (clock : Nat) (ks : List α) : Prop where
  laid : Laid enc es.toList ks
  old : ∀ x ∈ es.toList, x.born < clock
  apart : (es.toList.map (·.born)).Nodup
def MapR {α : Type} (enc : α → Value) (w : World) (b : Nat) (ks : List α) : Prop := ∃ es clock, w.heap[b]? = some (.map es clock) ∧ MapAt enc es clock ks

section
variable {α : Type} {enc : α → Value} {P : Program}
theorem Laid.len {es : List MapEntry} {ks : List α} (h : Laid enc es ks) : es.length = ks.length := by
  have := congrArg List.length h
  simpa using this
theorem Laid.at {es : List MapEntry} {ks : List α} (h : Laid enc es ks) {j : Nat} {e : MapEntry} (he : es[j]? = some e) : ∃ k, ks[j]? = some k ∧ e.key = enc k ∧ e.val = unitV := by
  have hh := congrArg (fun l => l[j]?) h
  simp only [List.getElem?_map, he, Option.map_some] at hh
  cases hk : ks[j]? with
  | none => rw [hk] at hh; cases hh
  | some k =>
    rw [hk] at hh
    simp only [Option.map_some, Option.some.injEq, Prod.mk.injEq] at hh
    exact ⟨k, rfl, hh.1, hh.2⟩
theorem Laid.mem {es : List MapEntry} {ks : List α} (h : Laid enc es ks) {e : MapEntry} (he : e ∈ es) : ∃ k ∈ ks, e.key = enc k ∧ e.val = unitV := by
  obtain ⟨j, hj⟩ := List.getElem?_of_mem he
  obtain ⟨k, h1, h2⟩ := h.at hj
  exact ⟨k, List.mem_of_getElem? h1, h2⟩
theorem Laid.snoc {es : List MapEntry} {ks : List α} (h : Laid enc es ks) (x : α) (c : Nat) : Laid enc (es ++ [⟨enc x, unitV, c⟩]) (ks ++ [x]) := by
  unfold Laid at h ⊢
  rw [List.map_append, List.map_append, h]
  rfl

theorem MapR.lt {w : World} {b : Nat} {ks : List α} (h : MapR enc w b ks) : b < w.heap.size := by
  obtain ⟨es, c, hb, _⟩ := h
  exact lt_of_heap hb
theorem MapR.of_block {w w' : World} {b : Nat} {ks : List α} (h : MapR enc w b ks) (hb : w'.heap[b]? = w.heap[b]?) : MapR enc w' b ks := by
  obtain ⟨es, c, h1, h2⟩ := h
  exact ⟨es, c, hb.trans h1, h2⟩
theorem MapR.kp {w w' : World} {B : Nat} {S : Nat → Prop} {b : Nat} {ks : List α} (h : MapR enc w b ks) (k : Kp B S w w') (hb : b < B) (hs : ¬ S b) : MapR enc w' b ks := h.of_block (k.block b hb hs)
theorem MapR.below {w w' : World} {B : Nat} {b : Nat} {ks : List α} (h : MapR enc w b ks) (k : Below B w w') (hb : b < B) : MapR enc w' b ks := h.of_block (k.block b hb)
theorem MapR.grown {w w' : World} {row : Option Nat} {b : Nat} {ks : List α} (h : MapR enc w b ks) (k : w.grownBy w' row) (hb : some b ≠ row) : MapR enc w' b ks := h.of_block (k.block b h.lt hb)
theorem MapR.alloc {w : World} {b : Nat} {ks : List α} (h : MapR enc w b ks) (o : Obj) : MapR enc (w.alloc o) b ks := by
  obtain ⟨es, c, h1, h2⟩ := h
  exact ⟨es, c, alloc_at h1 o, h2⟩
theorem MapR.made (w : World) : MapR enc (w.alloc (.map #[] 0)) w.heap.size ([] : List α) := ⟨#[], 0, heap_alloc_new w _, ⟨rfl, by simp, by simp⟩⟩

theorem setBlock_grown (w : World) (b : Nat) (o : Obj) : w.grownBy (setBlock w b o) (some b) :=
  ⟨rfl, rfl, rfl, by simp [setBlock], fun k _ hk => by
    show (w.heap.setIfInBounds b o)[k]? = _
    rw [Array.getElem?_setIfInBounds_ne (fun e => hk (by rw [e]))]⟩

variable [DecidableEq α]
theorem KeyOk.ask {kt : TypeId} (K : KeyOk P kt enc) (x : α) (w : World) : ∀ (es : List MapEntry) (ks : List α) (i : Nat), Laid enc es ks →
    (x ∉ ks ∧ (Instr.findAsking kt (enc x) es i).run P w = .ok none w) ∨ ∃ j e, (Instr.findAsking kt (enc x) es i).run P w = .ok (some (i + j, e.val)) w ∧ es[j]? = some e ∧ ks[j]? = some x
  | [], [], i, _ => Or.inl ⟨by simp, rfl⟩
  | [], _ :: _, i, h => by simp [Laid] at h
  | _ :: _, [], i, h => by simp [Laid] at h
  | e :: es, k :: ks, i, h => by
    obtain ⟨h1, h2⟩ : (e.key, e.val) = (enc k, unitV) ∧ Laid enc es ks := by simpa [Laid] using h
    obtain ⟨he, hv⟩ := Prod.mk.inj h1
    unfold Instr.findAsking
    by_cases hx : x = k
    · subst hx
      refine Or.inr ⟨0, e, ?_, rfl, rfl⟩
      simp [Sem.run_bind, he, K.eq, Result.andThen]
    · rcases KeyOk.ask K x w es ks (i + 1) h2 with ⟨a1, a2⟩ | ⟨j, e', a1, a2, a3⟩
      · refine Or.inl ⟨by simp [hx, a1], ?_⟩
        simp [Sem.run_bind, he, K.eq, Result.andThen, hx, a2]
      · refine Or.inr ⟨j + 1, e', ?_, a2, a3⟩
        have : i + 1 + j = i + (j + 1) := by omega
        rw [this] at a1
        simp [Sem.run_bind, he, K.eq, Result.andThen, hx, a1]

theorem KeyOk.find {kt : TypeId} (K : KeyOk P kt enc) (x : α) (w : World) (es : List MapEntry) (ks : List α) (h : Laid enc es ks) :
    (x ∉ ks ∧ (Instr.findKey kt (enc x) es).run P w = .ok none w) ∨ ∃ j e, (Instr.findKey kt (enc x) es).run P w = .ok (some (j, e.val)) w ∧ es[j]? = some e ∧ ks[j]? = some x := by
  obtain ⟨d, hd, hn⟩ := K.now
  have hask := K.ask x w es ks 0 h
  unfold Instr.findKey
  rw [Sem.run_bind, run_underlying hd, Result.andThen_ok]
  cases es with
  | nil =>
    cases ks with
    | nil => exact Or.inl ⟨by simp, rfl⟩
    | cons _ _ => simp [Laid] at h
  | cons e es =>
    cases ks with
    | nil => simp [Laid] at h
    | cons k ks =>
      have hk : e.key = enc k := by
        have : (e.key, e.val) = (enc k, unitV) ∧ Laid enc es ks := by simpa [Laid] using h
        exact (Prod.mk.inj this.1).1
      have : Instr.findNow d (enc x) (e :: es) 0 = none := by simp [Instr.findNow, hk, hn]
      rw [this]
      simpa using hask

theorem KeyOk.look {kt et t : TypeId} (K : KeyOk P kt enc) (ht : P.underlying t = some (.map kt et)) (hz : ∀ w, (zeroValue et).run P w = .ok unitV w) {w : World} {b : Nat} {ks : List α} (h : MapR enc w b ks) (x : α) :
    (Instr.lookup t (.map (some b)) (enc x) true).run P w = .ok (.tuple #[unitV, .bool (decide (x ∈ ks))]) w := by
  obtain ⟨es, c, hb, hM⟩ := h
  have hm : ∀ (j : Nat) (e : MapEntry), es.toList[j]? = some e → e.val = unitV := fun j e he => by
    obtain ⟨_, _, _, hv⟩ := hM.laid.at he
    exact hv
  rcases K.find x w es.toList ks hM.laid with ⟨h1, h2⟩ | ⟨j, e, h1, h2, h3⟩
  · simp [Instr.lookup, run_underlying ht, MapKept.run_getObj_map hb, K.check, h2, hz, Result.andThen, h1]
  · have : x ∈ ks := List.mem_of_getElem? h3
    simp [Instr.lookup, run_underlying ht, MapKept.run_getObj_map hb, K.check, h1, Result.andThen, this, hm j e h2]
theorem KeyOk.look_nil {kt et t : TypeId} (K : KeyOk P kt enc) (ht : P.underlying t = some (.map kt et)) (hz : ∀ w, (zeroValue et).run P w = .ok unitV w) (w : World) (x : α) :
    (Instr.lookup t (.map none) (enc x) true).run P w = .ok (.tuple #[unitV, .bool false]) w := by
  have := K.find x w [] [] rfl
  rcases this with ⟨_, h⟩ | ⟨j, e, _, h, _⟩
  · simp [Instr.lookup, run_underlying ht, K.check, h, hz, Result.andThen]
  · simp at h

/-- A key that is laid. -/
def ins (ks : List α) (x : α) : List α := if x ∈ ks then ks else ks ++ [x]
theorem ins_mem {ks : List α} {x y : α} : y ∈ ins ks x ↔ y ∈ ks ∨ y = x := by
  unfold ins
  split
  · rename_i h
    constructor
    · exact Or.inl
    · rintro (h' | rfl)
      · exact h'
      · exact h
  · simp
theorem ins_nodup {ks : List α} {x : α} (h : ks.Nodup) : (ins ks x).Nodup := by
  unfold ins
  split
  · exact h
  · rename_i hx
    rw [List.nodup_append]
    refine ⟨h, by simp, ?_⟩
    intro a ha b hb e
    simp at hb
    subst hb
    subst e
    exact hx ha

theorem KeyOk.put {kt et t : TypeId} (K : KeyOk P kt enc) (ht : P.underlying t = some (.map kt et)) {w : World} {b : Nat} {ks : List α} (h : MapR enc w b ks) (x : α) :
    ∃ w', (Instr.mapUpdate t (.map (some b)) (enc x) unitV).run P w = .ok () w' ∧ MapR enc w' b (ins ks x) ∧ w.grownBy w' (some b) ∧ w'.heap.size = w.heap.size := by
  obtain ⟨es, c, hb, hM⟩ := h
  rcases K.find x w es.toList ks hM.laid with ⟨h1, h2⟩ | ⟨j, e, h1, h2, h3⟩
  · refine ⟨setBlock w b (.map (es.push ⟨enc x, unitV, c⟩) (c + 1)), ?_, ⟨_, _, (MapKept.heap_set hb).1, ?_⟩, setBlock_grown _ _ _, by simp [setBlock]⟩
    · simp [Instr.mapUpdate, run_underlying ht, MapKept.run_getObj_map hb, K.check, h2, MapKept.run_setObj_map _ hb, Result.andThen, setBlock]
    · unfold ins
      rw [if_neg h1]
      refine ⟨by rw [Array.toList_push]; exact hM.laid.snoc x c, ?_, ?_⟩
      · intro y hy
        rw [Array.toList_push, List.mem_append] at hy
        rcases hy with hy | hy
        · have := hM.old y hy; omega
        · simp at hy; subst hy; simp
      · rw [Array.toList_push, List.map_append, List.nodup_append]
        refine ⟨hM.apart, by simp, ?_⟩
        intro a ha b' hb' e
        simp at hb'
        obtain ⟨y, hy, rfl⟩ := List.mem_map.1 ha
        have := hM.old y hy
        omega
  · obtain ⟨k, hk1, hk2, hk3⟩ := hM.laid.at h2
    rw [h3] at hk1
    cases hk1
    have hx : x ∈ ks := List.mem_of_getElem? h3
    have hj : es[j]? = some e := by simpa using h2
    have hsame : (es.modify j (fun e' => { e' with key := enc x, val := unitV })) = es := by
      apply Array.ext_getElem?
      intro i
      rw [Array.getElem?_modify]
      split
      · rename_i hi
        subst hi
        rw [hj]
        simp only [Option.map_some, ← hk2]
        cases e
        simp_all
      · rfl
    have hst : (Instr.keyThatStays (enc x) (enc x)).run P w = .ok (enc x) w := by
      unfold Instr.keyThatStays
      rw [if_pos (K.stays x)]
      rfl
    refine ⟨setBlock w b (.map es c), ?_, ⟨es, c, (MapKept.heap_set hb).1, ?_⟩, setBlock_grown _ _ _, by simp [setBlock]⟩
    · simp [Instr.mapUpdate, run_underlying ht, MapKept.run_getObj_map hb, K.check, h1, hj, hk2, hst, MapKept.run_setObj_map _ hb, Result.andThen, setBlock]
      rw [hsame]
    · unfold ins
      rw [if_pos hx]
      exact hM

end
section
variable {α : Type} {enc : α → Value} {P : Program}
/-- A map that is gone through: 'gone' have come. -/
structure IterAt (enc : α → Value) (es : Array MapEntry) (clock since : Nat) (seen : Array Nat) (ks gone : List α) : Prop where
  at_ : MapAt enc es clock ks
  born : ∀ x ∈ es.toList, x.born < since
  sees : ∀ x ∈ es.toList, seen.contains x.born = true ↔ ∃ k ∈ gone, x.key = enc k
  once : gone.Nodup
  sub : ∀ k ∈ gone, k ∈ ks
  sc : since ≤ clock
def IterR (enc : α → Value) (w : World) (b r : Nat) (ks gone : List α) : Prop :=
  ∃ es clock since seen c0, w.heap[b]? = some (.map es clock) ∧ w.heap[r]? = some (.mapIter (some b) since seen c0) ∧ since ≤ c0 ∧ IterAt enc es clock since seen ks gone
theorem IterR.mapR {w : World} {b r : Nat} {ks gone : List α} (h : IterR enc w b r ks gone) : MapR enc w b ks := by
  obtain ⟨es, c, s, sn, c0, h1, _, _, h2⟩ := h
  exact ⟨es, c, h1, h2.at_⟩
theorem IterR.lt {w : World} {b r : Nat} {ks gone : List α} (h : IterR enc w b r ks gone) : r < w.heap.size := by
  obtain ⟨es, c, s, sn, c0, _, h1, _⟩ := h
  exact lt_of_heap h1
theorem IterR.of_blocks {w w' : World} {b r : Nat} {ks gone : List α} (h : IterR enc w b r ks gone) (hb : w'.heap[b]? = w.heap[b]?) (hr : w'.heap[r]? = w.heap[r]?) : IterR enc w' b r ks gone := by
  obtain ⟨es, c, s, sn, c0, h1, h2, h3⟩ := h
  exact ⟨es, c, s, sn, c0, hb.trans h1, hr.trans h2, h3⟩
theorem IterR.left_of_blocks {w w' : World} {b r : Nat} (hb : w'.heap[b]? = w.heap[b]?) (hr : w'.heap[r]? = w.heap[r]?) : w'.rangeLeft b r = w.rangeLeft b r := by
  unfold World.rangeLeft
  rw [hb, hr]
theorem IterR.ne {w : World} {b r : Nat} {ks gone : List α} (h : IterR enc w b r ks gone) : r ≠ b := by
  obtain ⟨es, c, s, sn, c0, h1, h2, _⟩ := h
  rintro rfl
  rw [h1] at h2
  cases h2

theorem MapR.range {kt et t : TypeId} (ht : P.underlying t = some (.map kt et)) {w : World} {b : Nat} {ks : List α} (h : MapR enc w b ks) :
    ∃ w', (Instr.range t (.map (some b))).run P w = .ok (.pointer (some ⟨w.heap.size, 0, none⟩)) w' ∧ IterR enc w' b w.heap.size ks [] ∧ Below w.heap.size w w' ∧ w'.heap.size = w.heap.size + 1 := by
  have hlt := h.lt
  obtain ⟨es, c, hb, hM⟩ := h
  refine ⟨_, run_range_map w t kt et b es c ht hb, ⟨es, c, c, #[], c, alloc_at hb _, heap_alloc_new w _, Nat.le_refl _, hM, hM.old, ?_, by simp, by simp, Nat.le_refl _⟩, (Below.refl _ _).alloc (Nat.le_refl _) _, by simp⟩
  intro x _
  simp

/-- One step. -/
theorem IterR.next {w : World} {b r : Nat} {ks gone : List α} (h : IterR enc w b r ks gone) (hn : ks.Nodup) (inj : ∀ x y, enc x = enc y → x = y) (ty : TypeId) :
    (gone.Perm ks ∧ (Instr.next (.pointer (some ⟨r, 0, none⟩)) false ty).run P w = .ok (.tuple #[.bool false]) w) ∨
    ∃ k w', k ∈ ks ∧ k ∉ gone ∧ (Instr.next (.pointer (some ⟨r, 0, none⟩)) false ty).run P w = .ok (.tuple #[.bool true, enc k, unitV]) w' ∧ IterR enc w' b r ks (gone ++ [k]) ∧ w'.rangeLeft b r < w.rangeLeft b r ∧
      w.grownBy w' (some r) ∧ w'.heap.size = w.heap.size ∧ (Instr.entry (.pointer (some ⟨r, 0, none⟩))).run P w' = .ok (.tuple #[enc k, unitV]) w' := by
  have hne := h.ne
  obtain ⟨es, c, s, sn, c0, hb, hr, hsc, hI⟩ := h
  rcases run_next_at (P := P) w ty r b s c0 sn es c hr hb hI.born hsc with ⟨h0, hrun⟩ | ⟨e, he, w1, hal, hrun⟩
  · refine Or.inl ⟨?_, hrun⟩
    have hall : ∀ k ∈ ks, k ∈ gone := by
      intro k hk
      obtain ⟨j, hj⟩ := List.getElem?_of_mem hk
      have hjl : j < es.toList.length := by rw [hI.at_.laid.len]; exact (List.getElem?_eq_some_iff.1 hj).1
      obtain ⟨k', h1, h2, _⟩ := hI.at_.laid.at (List.getElem?_eq_getElem hjl)
      rw [hj] at h1
      cases h1
      have hm : es.toList[j] ∈ es.toList := List.getElem_mem hjl
      obtain ⟨k2, h3, h4⟩ := (hI.sees _ hm).1 (all_seen es sn h0 _ hm)
      have := inj _ _ (h2.symm.trans h4)
      subst this
      exact h3
    exact (List.perm_ext_iff_of_nodup hI.once hn).2 fun a => ⟨fun ha => hI.sub a ha, fun ha => hall a ha⟩
  · obtain ⟨hem, hes⟩ := mem_left he
    obtain ⟨k, hk, hk1, hk2⟩ := hI.at_.laid.mem hem
    have hkg : k ∉ gone := fun hg => by
      have := (hI.sees e hem).2 ⟨k, hg, hk1⟩
      rw [hes] at this
      cases this
    have hr1 : w1.heap[r]? = some (.mapIter (some b) s sn c0) := by rcases hal with rfl | rfl <;> exact hr
    have hb1 : w1.heap[b]? = some (.map es c) := by rcases hal with rfl | rfl <;> exact hb
    have hset := MapKept.heap_set (o' := .mapIter (some b) s (sn.push e.born) c) hr1
    have hb' : (setBlock w1 r (.mapIter (some b) s (sn.push e.born) c)).heap[b]? = some (.map es c) := (hset.2 b (fun e1 => hne e1.symm)).trans hb1
    have hr' : (setBlock w1 r (.mapIter (some b) s (sn.push e.born) c)).heap[r]? = some (.mapIter (some b) s (sn.push e.born) c) := hset.1
    rw [hk1, hk2] at hrun
    refine Or.inr ⟨k, _, hk, hkg, hrun, ⟨es, c, s, sn.push e.born, c, hb', hr', hI.sc, hI.at_, hI.born, ?_, ?_, ?_, hI.sc⟩, ?_, ?_, ?_, ?_⟩
    · intro x hx
      rw [contains_push, Bool.or_eq_true, hI.sees x hx]
      constructor
      · rintro (⟨k', h1, h2⟩ | h1)
        · exact ⟨k', List.mem_append_left _ h1, h2⟩
        · have : x = e := born_inj hI.at_.apart hx hem (by simpa using h1)
          subst this
          exact ⟨k, by simp, hk1⟩
      · rintro ⟨k', h1, h2⟩
        rcases List.mem_append.1 h1 with h1 | h1
        · exact Or.inl ⟨k', h1, h2⟩
        · simp at h1
          subst h1
          right
          -- one key, one entry
          obtain ⟨i, hi⟩ := List.getElem?_of_mem hx
          obtain ⟨j, hj⟩ := List.getElem?_of_mem hem
          obtain ⟨ki, a1, a2, _⟩ := hI.at_.laid.at hi
          obtain ⟨kj, b1, b2, _⟩ := hI.at_.laid.at hj
          have e1 := inj _ _ (a2.symm.trans h2)
          have e2 := inj _ _ (b2.symm.trans hk1)
          subst e1
          subst e2
          have hij : i = j := by
            have hil := (List.getElem?_eq_some_iff.1 a1).1
            exact (List.getElem?_inj hil hn).1 (a1.trans b1.symm)
          subst hij
          rw [hi] at hj
          cases hj
          simp
    · rw [List.nodup_append]
      refine ⟨hI.once, by simp, ?_⟩
      intro a ha b' hb' e1
      simp at hb'
      subst hb'
      subst e1
      exact hkg ha
    · intro a ha
      rcases List.mem_append.1 ha with ha | ha
      · exact hI.sub a ha
      · simp at ha; subst ha; exact hk
    · have e1 : (setBlock w1 r (.mapIter (some b) s (sn.push e.born) c)).rangeLeft b r = (leftOf es (sn.push e.born)).size := by simp only [World.rangeLeft, hb', hr']
      have e2 : w.rangeLeft b r = (leftOf es sn).size := by simp only [World.rangeLeft, hb, hr]
      rw [e1, e2]
      exact left_shrinks es sn e he
    · rcases hal with rfl | rfl <;> exact ⟨rfl, rfl, rfl, by simp [setBlock], fun i _ hi => hset.2 i (fun e1 => hi (by rw [e1]))⟩
    · rcases hal with rfl | rfl <;> simp [setBlock]
    · have := run_entry_at (P := P) _ r b s sn es c e hr' hb' hem hI.at_.apart
      rw [hk1, hk2] at this
      exact this
end
end Go.Proofs.YtnniimfinakioaaGreatDoor
namespace Go.Proofs.YtnniimfinakioaaGreatDoor
open Go.RowKit

theorem pEqTokD (k : Nat) (a b c d : Int) (w : World) : (Op.equalIn (k + 1 + 1) 108 (.agg #[.int .i64 a, .int .i64 b]) (.agg #[.int .i64 c, .int .i64 d])).run Tryz.prog w = .ok (a == c && b == d) w := by
  have u3 := Tryz.underlying3
  have a3 := Tryz.isAgg3
  have z3 := Tryz.sizeOf3
  have hS : Tryz.prog.underlying 108 = some (.struct (Tryz.prog.fieldsOf 108)) := by kernel_rfl
  have hp : Tryz.prog.stoodInHeld 108 = false := by kernel_rfl
  rw [run_equalIn_agg w (k + 1) 108 _ _ hS hp]
  simp only [Program.fieldsOf, Tryz.underlying108]
  go_simp
  by_cases h1 : a = c <;> by_cases h2 : b = d <;> simp [h1, h2]
theorem pEqEntD (k : Nat) (s r : ByteArray) (a b c d : Int) (w : World) : (Op.equalIn (k + 1 + 1 + 1) 110 (.agg #[.string s, .int .i64 a, .int .i64 b]) (.agg #[.string r, .int .i64 c, .int .i64 d])).run Tryz.prog w = .ok (s.toList == r.toList && (a == c && b == d)) w := by
  have hS : Tryz.prog.underlying 110 = some (.struct (Tryz.prog.fieldsOf 110)) := by kernel_rfl
  have hp : Tryz.prog.stoodInHeld 110 = false := by kernel_rfl
  have hT := pEqTokD k a b c d
  have u9 := Tryz.underlying9
  have a9 := Tryz.isAgg9
  have z9 := Tryz.sizeOf9
  have a1 := Tryz.isAgg108
  have z1 := Tryz.sizeOf108
  rw [run_equalIn_agg w (k + 1 + 1) 110 _ _ hS hp]
  simp only [Program.fieldsOf, Tryz.underlying110]
  clear hS hp
  go_simp
  by_cases h0 : s.toList = r.toList <;> by_cases h1 : a = c <;> by_cases h2 : b = d <;> simp [h0, h1, h2]

theorem pEqTok (a b c d : Int) (w : World) : (Op.equalIn 10000 108 (.agg #[.int .i64 a, .int .i64 b]) (.agg #[.int .i64 c, .int .i64 d])).run Tryz.prog w = .ok (a == c && b == d) w := pEqTokD 9998 a b c d w
theorem pEqEnt (s r : ByteArray) (a b c d : Int) (w : World) : (Op.equalIn 10000 110 (.agg #[.string s, .int .i64 a, .int .i64 b]) (.agg #[.string r, .int .i64 c, .int .i64 d])).run Tryz.prog w = .ok (s.toList == r.toList && (a == c && b == d)) w := pEqEntD 9997 s r a b c d w
theorem equal_is (t : TypeId) (x y : Value) : Op.equal t x y = Op.equalIn 10000 t x y := rfl
theorem tokV_inj (x y : Tok) (h : tokV x = tokV y) : x = y := by
  obtain ⟨a, b⟩ := x
  obtain ⟨c, d⟩ := y
  simpa [tokV] using h
theorem entV_inj (x y : Ent) (h : entV x = entV y) : x = y := by
  obtain ⟨s, a, b⟩ := x
  obtain ⟨t, c, d⟩ := y
  simpa [entV] using h

theorem chkPlain {t : TypeId} {d : TypeDesc} (hu : Tryz.prog.underlying t = some d) (v : Value) (hd : (match d with | .interface _ | .array _ _ | .struct _ => false | _ => true) = true) (em : Bool) (n : Nat) (w : World) : (Instr.checkKey em (n + 1) t v).run Tryz.prog w = .ok () w := by
  unfold Instr.checkKey
  rw [Sem.run_bind, run_underlying hu, Result.andThen_ok]
  cases d <;> first | rfl | (simp at hd)
theorem chkTok (em : Bool) (n : Nat) (x : Tok) (w : World) : (Instr.checkKey em (n + 1 + 1) 108 (tokV x)).run Tryz.prog w = .ok () w := by
  have h3 := fun v => chkPlain Tryz.underlying3 v rfl em n w
  have a3 := Tryz.isAgg3
  unfold Instr.checkKey
  rw [Sem.run_bind, run_underlying Tryz.underlying108, Result.andThen_ok]
  go_simp
theorem chkEnt (em : Bool) (n : Nat) (x : Ent) (w : World) : (Instr.checkKey em (n + 1 + 1 + 1) 110 (entV x)).run Tryz.prog w = .ok () w := by
  have h9 := fun v => chkPlain Tryz.underlying9 v rfl em (n + 1) w
  have hT := chkTok em n x.2 w
  have a9 := Tryz.isAgg9
  have a1 := Tryz.isAgg108
  have z1 := Tryz.sizeOf108
  unfold Instr.checkKey
  rw [Sem.run_bind, run_underlying Tryz.underlying110, Result.andThen_ok]
  go_simp

theorem keyTok : KeyOk Tryz.prog 108 tokV where
  check em x w := chkTok em 9998 x w
  eq x y w := by
    rw [equal_is, pEqTok]
    congr 1
    obtain ⟨a, b⟩ := x
    obtain ⟨c, d⟩ := y
    by_cases h1 : a = c <;> by_cases h2 : b = d <;> simp [h1, h2]
  now := ⟨_, Tryz.underlying108, fun _ _ => rfl⟩
  stays x := by simp [Instr.sameBits]
theorem keyEnt : KeyOk Tryz.prog 110 entV where
  check em x w := chkEnt em 9997 x w
  eq x y w := by
    rw [equal_is, pEqEnt, toList_nm, toList_nm]
    congr 1
    obtain ⟨s, a, b⟩ := x
    obtain ⟨t, c, d⟩ := y
    by_cases h0 : s = t <;> by_cases h1 : a = c <;> by_cases h2 : b = d <;> simp [h0, h1, h2]
  now := ⟨_, Tryz.underlying110, fun _ _ => rfl⟩
  stays x := by
    have : ((ByteArray.mk x.1.toArray) == (ByteArray.mk x.1.toArray)) = true := (MapKept.bytes_beq _ _).2 rfl
    simp [Instr.sameBits, this]
theorem zeroUnit (w : World) : (zeroValue 147).run Tryz.prog w = .ok unitV w := by kernel_rfl
end Go.Proofs.YtnniimfinakioaaGreatDoor
namespace Go.Proofs.YtnniimfinakioaaGreatDoor
open Go.RowKit
attribute [local go_sem] toList_nm app_nm size_nm

/-- A map, or nil. -/
def MapV {α : Type} (enc : α → Value) (w : World) (v : Value) (ks : List α) : Prop := ks.Nodup ∧ ((v = .map none ∧ ks = []) ∨ ∃ b, v = .map (some b) ∧ MapR enc w b ks)
def IterV {α : Type} (enc : α → Value) (w : World) (v : Value) (r : Nat) (ks gone : List α) : Prop :=
  ks.Nodup ∧ ((v = .map none ∧ ks = [] ∧ gone = [] ∧ w.heap[r]? = some (.mapIter none 0 #[] 0)) ∨ ∃ b, v = .map (some b) ∧ IterR enc w b r ks gone)
def leftV (w : World) (v : Value) (r : Nat) : Nat := match v with
  | .map (some b) => w.rangeLeft b r
  | _ => 0
def mapB : Value → Option Nat
  | .map (some b) => some b
  | _ => none

theorem len_le_of_sub {α : Type} : ∀ (a b : List α), a.Nodup → (∀ x ∈ a, x ∈ b) → a.length ≤ b.length
  | [], _, _, _ => by simp
  | x :: a, b, hn, hs => by
    letI : DecidableEq α := fun a b => Classical.propDecidable (a = b)
    obtain ⟨h1, h2⟩ := List.nodup_cons.1 hn
    have hx : x ∈ b := hs x (by simp)
    have := len_le_of_sub a (b.erase x) h2 fun y hy => (List.mem_erase_of_ne (show y ≠ x from fun e => h1 (by rw [← e]; exact hy))).2 (hs y (by simp [hy]))
    rw [List.length_erase_of_mem hx] at this
    have hb : 0 < b.length := List.length_pos_of_mem hx
    simp only [List.length_cons]
    omega

section
variable {α : Type} {enc : α → Value} {P : Program}
theorem MapV.lt {w : World} {v : Value} {ks : List α} (h : MapV enc w v ks) {b : Nat} (hb : mapB v = some b) : b < w.heap.size := by
  rcases h.2 with ⟨rfl, _⟩ | ⟨b', rfl, h'⟩
  · cases hb
  · simp only [mapB, Option.some.injEq] at hb
    subst hb
    exact h'.lt
theorem MapV.of_block {w w' : World} {v : Value} {ks : List α} (h : MapV enc w v ks) (hb : ∀ b, mapB v = some b → w'.heap[b]? = w.heap[b]?) : MapV enc w' v ks := by
  refine ⟨h.1, ?_⟩
  rcases h.2 with h | ⟨b, rfl, h'⟩
  · exact Or.inl h
  · exact Or.inr ⟨b, rfl, h'.of_block (hb b rfl)⟩
theorem MapV.below {w w' : World} {B : Nat} {v : Value} {ks : List α} (h : MapV enc w v ks) (k : Below B w w') (hb : ∀ b, mapB v = some b → b < B) : MapV enc w' v ks := h.of_block fun b e => k.block b (hb b e)
theorem MapV.alloc {w : World} {v : Value} {ks : List α} (h : MapV enc w v ks) (o : Obj) : MapV enc (w.alloc o) v ks := h.of_block fun b e => Below.heap_alloc w o b (h.lt e)
theorem MapV.kp {w w' : World} {B : Nat} {S : Nat → Prop} {v : Value} {ks : List α} (h : MapV enc w v ks) (k : Kp B S w w') (hb : ∀ b, mapB v = some b → b < B ∧ ¬ S b) : MapV enc w' v ks := h.of_block fun b e => k.block b (hb b e).1 (hb b e).2
theorem MapV.grown {w w' : World} {row : Option Nat} {v : Value} {ks : List α} (h : MapV enc w v ks) (k : w.grownBy w' row) (hb : ∀ b, mapB v = some b → some b ≠ row) : MapV enc w' v ks := h.of_block fun b e => k.block b (h.lt e) (hb b e)
theorem MapV.form {w : World} {v : Value} {ks : List α} (h : MapV enc w v ks) : v = .map (mapB v) := by
  rcases h.2 with ⟨rfl, _⟩ | ⟨b, rfl, _⟩ <;> rfl
theorem MapV.look [DecidableEq α] {kt et t : TypeId} (K : KeyOk P kt enc) (ht : P.underlying t = some (.map kt et)) (hz : ∀ w, (zeroValue et).run P w = .ok unitV w) {w : World} {v : Value} {ks : List α} (h : MapV enc w v ks) (x : α) :
    (Instr.lookup t v (enc x) true).run P w = .ok (.tuple #[unitV, .bool (decide (x ∈ ks))]) w := by
  rcases h.2 with ⟨rfl, rfl⟩ | ⟨b, rfl, h'⟩
  · simpa using K.look_nil ht hz w x
  · exact K.look ht hz h' x
theorem MapV.look_yes [DecidableEq α] {kt et t : TypeId} (K : KeyOk P kt enc) (ht : P.underlying t = some (.map kt et)) (hz : ∀ w, (zeroValue et).run P w = .ok unitV w) {w : World} {v : Value} {ks : List α} (h : MapV enc w v ks) {x : α} (hx : x ∈ ks) :
    (Instr.lookup t v (enc x) true).run P w = .ok (.tuple #[unitV, .bool true]) w := by rw [h.look K ht hz x]; simp [hx]
theorem MapV.look_no [DecidableEq α] {kt et t : TypeId} (K : KeyOk P kt enc) (ht : P.underlying t = some (.map kt et)) (hz : ∀ w, (zeroValue et).run P w = .ok unitV w) {w : World} {v : Value} {ks : List α} (h : MapV enc w v ks) {x : α} (hx : ¬ x ∈ ks) :
    (Instr.lookup t v (enc x) true).run P w = .ok (.tuple #[unitV, .bool false]) w := by rw [h.look K ht hz x]; simp [hx]
theorem MapV.range {kt et t : TypeId} (ht : P.underlying t = some (.map kt et)) {w : World} {v : Value} {ks : List α} (h : MapV enc w v ks) :
    ∃ w', (Instr.range t v).run P w = .ok (.pointer (some ⟨w.heap.size, 0, none⟩)) w' ∧ IterV enc w' v w.heap.size ks [] ∧ Below w.heap.size w w' ∧ w'.heap.size = w.heap.size + 1 := by
  rcases h.2 with ⟨rfl, rfl⟩ | ⟨b, rfl, h'⟩
  · exact ⟨_, run_range_nilMap w t kt et ht, ⟨by simp, Or.inl ⟨rfl, rfl, rfl, heap_alloc_new w _⟩⟩, (Below.refl _ _).alloc (Nat.le_refl _) _, by simp⟩
  · obtain ⟨w', h1, h2, h3⟩ := h'.range ht
    exact ⟨w', h1, ⟨h.1, Or.inr ⟨b, rfl, h2⟩⟩, h3⟩
theorem IterV.mapV {w : World} {v : Value} {r : Nat} {ks gone : List α} (h : IterV enc w v r ks gone) : MapV enc w v ks := by
  refine ⟨h.1, ?_⟩
  rcases h.2 with ⟨rfl, rfl, _⟩ | ⟨b, rfl, h'⟩
  · exact Or.inl ⟨rfl, rfl⟩
  · exact Or.inr ⟨b, rfl, h'.mapR⟩
theorem IterV.lt {w : World} {v : Value} {r : Nat} {ks gone : List α} (h : IterV enc w v r ks gone) : r < w.heap.size := by
  rcases h.2 with ⟨_, _, _, h⟩ | ⟨b, _, h⟩
  · exact lt_of_heap h
  · exact h.lt
theorem IterV.of_blocks {w w' : World} {v : Value} {r : Nat} {ks gone : List α} (h : IterV enc w v r ks gone) (hb : ∀ b, mapB v = some b → w'.heap[b]? = w.heap[b]?) (hr : w'.heap[r]? = w.heap[r]?) : IterV enc w' v r ks gone := by
  refine ⟨h.1, ?_⟩
  rcases h.2 with ⟨h1, h2, h3, h4⟩ | ⟨b, rfl, h'⟩
  · exact Or.inl ⟨h1, h2, h3, hr.trans h4⟩
  · exact Or.inr ⟨b, rfl, h'.of_blocks (hb b rfl) hr⟩
theorem leftV_of_blocks {w w' : World} {v : Value} {r : Nat} (hb : ∀ b, mapB v = some b → w'.heap[b]? = w.heap[b]?) (hr : w'.heap[r]? = w.heap[r]?) : leftV w' v r = leftV w v r := by
  unfold leftV
  split
  · exact IterR.left_of_blocks (hb _ rfl) hr
  · rfl
theorem IterV.next {w : World} {v : Value} {r : Nat} {ks gone : List α} (h : IterV enc w v r ks gone) (inj : ∀ x y, enc x = enc y → x = y) (ty : TypeId) :
    (gone.Perm ks ∧ (Instr.next (.pointer (some ⟨r, 0, none⟩)) false ty).run P w = .ok (.tuple #[.bool false]) w) ∨
    ∃ k w', k ∈ ks ∧ k ∉ gone ∧ (Instr.next (.pointer (some ⟨r, 0, none⟩)) false ty).run P w = .ok (.tuple #[.bool true, enc k, unitV]) w' ∧ IterV enc w' v r ks (gone ++ [k]) ∧ leftV w' v r < leftV w v r ∧
      w.grownBy w' (some r) ∧ w'.heap.size = w.heap.size ∧ (Instr.entry (.pointer (some ⟨r, 0, none⟩))).run P w' = .ok (.tuple #[enc k, unitV]) w' := by
  rcases h.2 with ⟨rfl, rfl, rfl, h4⟩ | ⟨b, rfl, h'⟩
  · refine Or.inl ⟨List.Perm.refl _, ?_⟩
    simp only [Instr.next, getObj, Sem.run_bind, Sem.run, h4, Result.andThen]
    rfl
  · rcases h'.next (P := P) h.1 inj ty with h2 | ⟨k, w', h1, h2, h3, h4, h5, h6⟩
    · exact Or.inl h2
    · exact Or.inr ⟨k, w', h1, h2, h3, ⟨h.1, Or.inr ⟨b, rfl, h4⟩⟩, h5, h6⟩
theorem IterV.gone_le {w : World} {v : Value} {r : Nat} {ks gone : List α} (h : IterV enc w v r ks gone) : gone.length ≤ ks.length := by
  rcases h.2 with ⟨_, _, rfl, _⟩ | ⟨b, _, es, c, s, sn, c0, _, _, _, hI⟩
  · simp
  · exact len_le_of_sub gone ks hI.once hI.sub
theorem IterV.ne {w : World} {v : Value} {r : Nat} {ks gone : List α} (h : IterV enc w v r ks gone) : ∀ b, mapB v = some b → b ≠ r := by
  intro b hb
  rcases h.2 with ⟨rfl, _⟩ | ⟨b', rfl, h'⟩
  · cases hb
  · simp only [mapB, Option.some.injEq] at hb
    subst hb
    exact fun e => h'.ne e.symm
end

def ofNode (ks : List Tok) (i : Int) : Nat := (ks.filter fun t => t.1 == i).length
theorem ofNode_snoc (ks : List Tok) (i : Int) (k : Tok) : ofNode (ks ++ [k]) i = ofNode ks i + if k.1 = i then 1 else 0 := by
  unfold ofNode
  rw [List.filter_append, List.length_append]
  congr 1
  by_cases h : k.1 = i <;> simp [h]
theorem ofNode_perm {a b : List Tok} (h : a.Perm b) (i : Int) : ofNode a i = ofNode b i := (h.filter _).length_eq

set_option maxHeartbeats 1000000 in
theorem knownOf_any (w : World) (vE vK : Value) (ks : List Tok) (i : Int) (h : MapV tokV w vK ks) (hbd : ks.length ≤ 1000000) :
    Calls Tryz.prog 65 #[.agg #[vE, vK], .int .i64 i] w fun e w' => e = .returned (.int .i64 (ofNode ks i)) ∧ Below w.heap.size w w' := by
  have hlt := fun b hb => h.lt (b := b) hb
  have h0 := h.alloc (.cells #[vE, vK] 90)
  obtain ⟨w1, hr, hI, hb1, hs1⟩ := h0.range (P := Tryz.prog) Tryz.underlying88
  have HB0 := hide (((Below.refl w.heap.size w).alloc (Nat.le_refl _) (.cells #[vE, vK] 90)).trans (hb1.mono (by simp)))
  rw [World.size_alloc] at hr hs1 hI
  have HI0 := hide hI
  clear hb1 hI h0
  go_enter Tryz.func65, Tryz.ntmps65
  go_wp2
  go_loopw [5] (fun c wr => ∃ gone, c = .int .i64 (ofNode gone i) ∧ gone.length ≤ ks.length ∧ IterV tokV wr vK (w.heap.size + 1) ks gone ∧ Below w.heap.size w wr) (fun _ wr => leftV wr vK (w.heap.size + 1))
  case atStart => exact ⟨[], rfl, by simp, HI0.out, HB0.out⟩
  case round =>
    obtain ⟨gone, rfl, hgl, hI, hbel⟩ := hrel
    have HB := hide hbel
    clear hbel
    rcases hI.next (P := Tryz.prog) tokV_inj 0 with ⟨hp, hrun⟩ | ⟨k, w2, hk, hkg, hrun, hI2, hlf, hg, hsz, hen⟩
    · have HP := hide hp
      clear hp
      go_wp2
      go_ret
      exact ⟨show Ending.returned (.int .i64 (ofNode gone i)) = _ by rw [ofNode_perm HP.out], HB.out⟩
    · have hne := hI2.ne
      have hl2 := hI2.lt
      have hlt2 := fun b hb => hI2.mapV.lt (b := b) hb
      have hlen : gone.length + 1 ≤ ks.length := by
        have hn := hI2.2
        have := IterV.gone_le hI2
        simpa using this
      have hoc : ofNode gone i ≤ gone.length := List.length_filter_le _ _
      have hN := ofNode_snoc gone i k
      have HN := hide hN
      have HI2 := hide hI2
      have HNE := hide hne
      have HLT := hide hlt2
      have HG := hide hg
      have HLF := hide hlf
      clear hN hI2 hne hlt2 hI hlf hg
      have hI3 : IterV tokV (w2.alloc (.cells #[.int .i64 k.1, .int .i64 k.2] 108)) vK (w.heap.size + 1) ks (gone ++ [k]) := HI2.out.of_blocks (fun b hb => Below.heap_alloc _ _ b (HLT.out b hb)) (Below.heap_alloc _ _ _ hl2)
      have hL3 : leftV (w2.alloc (.cells #[.int .i64 k.1, .int .i64 k.2] 108)) vK (w.heap.size + 1) = leftV w2 vK (w.heap.size + 1) := leftV_of_blocks (fun b hb => Below.heap_alloc _ _ b (HLT.out b hb)) (Below.heap_alloc _ _ _ hl2)
      have HI3 := hide hI3
      have HL3 := hide hL3
      have HB3 := hide ((HB.out.grown HG.out HB.out.size (fun j hj => by cases hj; omega)).alloc (by have := HB.out.size; omega) (.cells #[.int .i64 k.1, .int .i64 k.2] 108))
      clear hI3 hL3
      by_cases hki : k.1 = i
      · subst hki
        go_wp2
        exact ⟨⟨_, by rw [HN.out, if_pos rfl]; rfl, by simpa using hlen, HI3.out, HB3.out⟩, by rw [HL3.out]; exact HLF.out⟩
      · have hki' : (k.1 == i) = false := by simpa using hki
        go_wp2
        exact ⟨⟨_, by rw [HN.out, if_neg hki]; rfl, by simpa using hlen, HI3.out, HB3.out⟩, by rw [HL3.out]; exact HLF.out⟩
end Go.Proofs.YtnniimfinakioaaGreatDoor
namespace Go.Proofs.YtnniimfinakioaaGreatDoor
open Go.RowKit
attribute [local go_sem] toList_nm app_nm size_nm

section
variable {α : Type} [DecidableEq α]
/-- All of xs laid into ks. -/
def insAll (ks xs : List α) : List α := xs.foldl ins ks
theorem insAll_snoc (ks xs : List α) (x : α) : insAll ks (xs ++ [x]) = ins (insAll ks xs) x := by simp [insAll]
theorem insAll_mem {ks xs : List α} {y : α} : y ∈ insAll ks xs ↔ y ∈ ks ∨ y ∈ xs := by
  induction xs generalizing ks with
  | nil => simp [insAll]
  | cons x xs ih =>
    have : insAll ks (x :: xs) = insAll (ins ks x) xs := rfl
    rw [this, ih, ins_mem]
    simp [or_assoc]
theorem insAll_nodup {ks xs : List α} (h : ks.Nodup) : (insAll ks xs).Nodup := by
  induction xs generalizing ks with
  | nil => exact h
  | cons x xs ih => exact ih (ins_nodup h)
end

set_option maxHeartbeats 1000000 in
/-- maps.Copy, of tokens. -/
theorem copy_any (w : World) (b : Nat) (v : Value) (ds ks : List Tok) (hd : MapR tokV w b ds) (h : MapV tokV w v ks) (hne : mapB v ≠ some b) :
    Calls Tryz.prog 124 #[.map (some b), v] w fun e w' => e = .returned (.tuple #[]) ∧ (∃ xs, xs.Perm ks ∧ MapR tokV w' b (insAll ds xs)) ∧ Kp w.heap.size (fun j => j = b) w w' := by
  have hlt := fun b hb => h.lt (b := b) hb
  have hdl := hd.lt
  obtain ⟨w1, hr, hI, hb1, hs1⟩ := h.range (P := Tryz.prog) Tryz.underlying88
  have HI0 := hide hI
  have HD0 := hide (hd.below hb1 hdl)
  have HB0 := hide (Kp.ofBelow (S := fun j => j = b) hb1)
  clear hI hd
  go_enter Tryz.func124, Tryz.ntmps124
  go_wp2
  go_loopw [8] (fun _ wr => ∃ gone, IterV tokV wr v w.heap.size ks gone ∧ MapR tokV wr b (insAll ds gone) ∧ Kp w.heap.size (fun j => j = b) w wr) (fun _ wr => leftV wr v w.heap.size)
  case atStart => exact ⟨[], HI0.out, HD0.out, HB0.out⟩
  case round =>
    obtain ⟨gone, hI, hD, hbel⟩ := hrel
    have HB := hide hbel
    clear hbel
    rcases hI.next (P := Tryz.prog) tokV_inj 0 with ⟨hp, hrun⟩ | ⟨k, w2, hk, hkg, hrun, hI2, hlf, hg, hsz, hen⟩
    · have HP := hide hp
      have HD := hide hD
      clear hp hD
      go_wp2
      go_end0
      exact ⟨rfl, ⟨gone, HP.out, HD.out⟩, HB.out⟩
    · have hl2 := hI2.lt
      have hlt2 := fun b hb => hI2.mapV.lt (b := b) hb
      have hD2 : MapR tokV w2 b (insAll ds gone) := hD.grown hg (fun e => by cases e; omega)
      have hB2 : Kp w.heap.size (fun j => j = b) w w2 := HB.out.grown hg HB.out.size (fun j hj => by cases hj; omega)
      have hD3 : MapR tokV ((w2.alloc (.cells #[.int .i64 k.1, .int .i64 k.2] 108)).alloc (.cells #[] 147)) b (insAll ds gone) := (hD2.alloc _).alloc _
      have hB3 := (hB2.alloc hB2.size (.cells #[.int .i64 k.1, .int .i64 k.2] 108)).alloc (by have := hB2.size; simp; omega) (.cells #[] 147)
      obtain ⟨w4, hput, hD4, hg4, hs4⟩ := keyTok.put Tryz.underlying88 hD3 k
      have hbl : ∀ j, j < w2.heap.size → j ≠ b → w4.heap[j]? = w2.heap[j]? := fun j hj hne => (hg4.block j (by simp; omega) (fun e => hne (by cases e; rfl))).trans ((Below.heap_alloc _ _ j (by simp; omega)).trans (Below.heap_alloc _ _ j hj))
      have hI4 : IterV tokV w4 v w.heap.size ks (gone ++ [k]) := hI2.of_blocks (fun j hj => hbl j (hlt2 j hj) (fun e => hne (e ▸ hj))) (hbl _ hl2 (by omega))
      have hL4 : leftV w4 v w.heap.size = leftV w2 v w.heap.size := leftV_of_blocks (fun j hj => hbl j (hlt2 j hj) (fun e => hne (e ▸ hj))) (hbl _ hl2 (by omega))
      have hB4 : Kp w.heap.size (fun j => j = b) w w4 := hB3.grown hg4 hB3.size (fun j hj => Or.inr (by cases hj; rfl))
      have HI4 := hide hI4
      have HL4 := hide hL4
      have HB4 := hide hB4
      have HD4 := hide hD4
      have HLF := hide hlf
      clear hI4 hL4 hB4 hD4 hlf hbl hB3 hD3 hD2 hB2 hI2 hI hlt2 hg hg4 hD hs4 h hlt
      go_wp2
      exact ⟨⟨_, HI4.out, by rw [insAll_snoc]; exact HD4.out, HB4.out⟩, by rw [HL4.out]; exact HLF.out⟩

/-- What takeOver keeps. -/
def keepB (es : List Ent) (ts : List Tok) (e : Ent) : Bool := decide (e ∈ es) || !decide (e.2 ∈ ts)

theorem cell_old {w : World} {b j : Nat} {v : Value} (h : w.cell? ⟨b, j, none⟩ = some v) (o : Obj) : (w.alloc o).cell? ⟨b, j, none⟩ = some v := by
  have hb : b < w.heap.size := by
    rcases Nat.lt_or_ge b w.heap.size with hh | hh
    · exact hh
    · simp [World.cell?, Array.getElem?_eq_none hh] at h
  rw [World.cell?_of_block (w := w) (a := ⟨b, j, none⟩) (Below.heap_alloc w o b hb)]
  exact h
theorem kx3 {w wr : World} {b : Nat} {c1 c2 c3 : Array Value} {t1 t2 t3 : TypeId} (hb : b < w.heap.size) (h : Kp (w.heap.size + 1 + 1 + 1) (fun j => j = b) (((w.alloc (.cells c1 t1)).alloc (.cells c2 t2)).alloc (.cells c3 t3)) wr) :
    (∀ j, wr.cell? ⟨w.heap.size, j, none⟩ = c1[j]?) ∧ (∀ j, wr.cell? ⟨w.heap.size + 1, j, none⟩ = c2[j]?) ∧ (∀ j, wr.cell? ⟨w.heap.size + 1 + 1, j, none⟩ = c3[j]?) ∧ w.heap.size + 1 + 1 + 1 ≤ wr.heap.size ∧ Kp w.heap.size (fun j => j = b) w wr := by
  obtain ⟨a1, _, a2, _, a3, _⟩ := bx3 (Below.refl (w.heap.size + 1 + 1 + 1) (((w.alloc (.cells c1 t1)).alloc (.cells c2 t2)).alloc (.cells c3 t3)))
  have hs := h.size
  simp only [World.size_alloc] at hs
  refine ⟨fun j => ?_, fun j => ?_, fun j => ?_, hs, (Kp.ofBelow ((below2 w _ _).alloc (by simp; omega) _)).trans (h.mono (by omega) fun _ _ x => x)⟩
  · rw [h.cell (p := ⟨w.heap.size, j, none⟩) (by simp; omega) (by simp; omega)]; exact a1 j
  · rw [h.cell (p := ⟨w.heap.size + 1, j, none⟩) (by simp) (by simp; omega)]; exact a2 j
  · rw [h.cell (p := ⟨w.heap.size + 1 + 1, j, none⟩) (by simp) (by simp; omega)]; exact a3 j

set_option maxHeartbeats 4000000 in
set_option maxRecDepth 100000 in
theorem takeOver_any (w : World) (b : Nat) (vP vF vFK vO vOK : Value) (ds ks os : List Ent) (ts : List Tok) (hd : MapR entV w b ds) (hF : MapV entV w vF ks) (hO : MapV entV w vO os) (hK : MapV tokV w vOK ts) (hne : mapB vF ≠ some b) (hneO : mapB vO ≠ some b) (hneK : mapB vOK ≠ some b) :
    Calls Tryz.prog 125 #[.agg #[.map (some b), vP], .agg #[vF, vFK], .agg #[vO, vOK]] w fun e w' => e = .returned (.tuple #[]) ∧ (∃ xs : List Ent, xs.Perm ks ∧ MapR entV w' b (insAll ds (xs.filter (keepB os ts)))) ∧ Kp w.heap.size (fun j => j = b) w w' := by
  have hlt := fun b hb => hF.lt (b := b) hb
  have hltO := fun b hb => hO.lt (b := b) hb
  have hltK := fun b hb => hK.lt (b := b) hb
  have hdl := hd.lt
  have hb0 : Below w.heap.size w (((w.alloc (.cells #[.map (some b), vP] 90)).alloc (.cells #[vF, vFK] 90)).alloc (.cells #[vO, vOK] 90)) := (below2 w _ _).alloc (by simp; omega) _
  obtain ⟨w1, hr, hI, hb1, hs1⟩ := (hF.below hb0 hlt).range (P := Tryz.prog) Tryz.underlying87
  rw [World.size_alloc, World.size_alloc, World.size_alloc] at hr hs1 hI hb1
  have HI0 := hide hI
  have hbw : Below w.heap.size w w1 := hb0.trans (hb1.mono (by omega))
  have HD0 := hide (hd.below hbw hdl)
  have HB1 := hide (Kp.ofBelow (S := fun j => j = b) hb1)
  clear hI hd hb1 hb0 hbw
  go_enter Tryz.func125, Tryz.ntmps125
  go_wp2
  go_loopw [14] (fun _ wr => ∃ gone : List Ent, IterV entV wr vF (w.heap.size + 1 + 1 + 1) ks gone ∧ MapR entV wr b (insAll ds (gone.filter (keepB os ts))) ∧
      Kp (w.heap.size + 1 + 1 + 1) (fun j => j = b) (((w.alloc (.cells #[.map (some b), vP] 90)).alloc (.cells #[vF, vFK] 90)).alloc (.cells #[vO, vOK] 90)) wr) (fun _ wr => leftV wr vF (w.heap.size + 1 + 1 + 1))
  case atStart => exact ⟨[], HI0.out, HD0.out, HB1.out⟩
  case round =>
    obtain ⟨gone, hI, hD, hbel⟩ := hrel
    obtain ⟨-, -, -, hsr, hkw⟩ := kx3 hdl hbel
    have HB := hide hbel
    have HW := hide hkw
    clear hbel hkw
    rcases hI.next (P := Tryz.prog) entV_inj 0 with ⟨hp, hrun⟩ | ⟨k, w2, hk, hkg, hrun, hI2, hlf, hg, hsz, hen⟩
    · have HP := hide hp
      have HD := hide hD
      clear hp hD
      go_wp2
      go_end0
      exact ⟨rfl, ⟨gone, HP.out, HD.out⟩, HW.out⟩
    · have hl2 := hI2.lt
      have hlt2 := fun b hb => hI2.mapV.lt (b := b) hb
      have hD2 : MapR entV w2 b (insAll ds (gone.filter (keepB os ts))) := hD.grown hg (fun e => by cases e; omega)
      have hB2 := HB.out.grown hg (by simpa using HB.out.size) (fun j hj => by cases hj; exact Or.inl (Nat.le_refl _))
      obtain ⟨c1, c2, c3, hsr2, hkw2⟩ := kx3 hdl hB2
      have c10 := c1 0
      have c30 := c3 0
      have c31 := c3 1
      simp only [List.getElem?_toArray, List.getElem?_cons_succ, List.getElem?_cons_zero] at c10 c30 c31
      -- the boxes
      obtain ⟨oE, hoE⟩ : ∃ o : Obj, o = .cells #[strV k.1, .int .i64 k.2.1, .int .i64 k.2.2] 110 := ⟨_, rfl⟩
      obtain ⟨oU, hoU⟩ : ∃ o : Obj, o = .cells #[] 147 := ⟨_, rfl⟩
      have hO2 := (hO.kp hkw2 fun j hj => ⟨hltO j hj, fun e => hneO (e ▸ hj)⟩).alloc oE
      have hK2 := ((hK.kp hkw2 fun j hj => ⟨hltK j hj, fun e => hneK (e ▸ hj)⟩).alloc oE).alloc oU
      have l1y := fun h => hO2.look_yes (x := k) keyEnt Tryz.underlying87 zeroUnit h
      have l1n := fun h => hO2.look_no (x := k) keyEnt Tryz.underlying87 zeroUnit h
      have l2y := fun h => hK2.look_yes (x := k.2) keyTok Tryz.underlying88 zeroUnit h
      have l2n := fun h => hK2.look_no (x := k.2) keyTok Tryz.underlying88 zeroUnit h
      have L1y := hide l1y
      have L1n := hide l1n
      have L2y := hide l2y
      have L2n := hide l2n
      clear l1y l1n l2y l2n hO2 hK2
      have hD3 : MapR entV (((w2.alloc oE).alloc oU).alloc oU) b (insAll ds (gone.filter (keepB os ts))) := ((hD2.alloc _).alloc _).alloc _
      have hB3 := ((hB2.alloc (by omega) oE).alloc (by simp; omega) oU).alloc (by simp; omega) oU
      have hbl3 : ∀ j, j < w2.heap.size → (((w2.alloc oE).alloc oU).alloc oU).heap[j]? = w2.heap[j]? := fun j hj => (Below.heap_alloc _ _ j (by simp; omega)).trans ((Below.heap_alloc _ _ j (by simp; omega)).trans (Below.heap_alloc _ _ j hj))
      have c30' := cell_old c30 oE
      have c31' := cell_old (cell_old c31 oE) oU
      have c10' := cell_old (cell_old (cell_old c10 oE) oU) oU
      clear c30 c31 c10
      have HLF := hide hlf
      by_cases hkeep : keepB os ts k = true
      · obtain ⟨w4, hput, hD4, hg4, hs4⟩ := keyEnt.put Tryz.underlying87 hD3 k
        have hbl : ∀ j, j < w2.heap.size → j ≠ b → w4.heap[j]? = w2.heap[j]? := fun j hj hne => (hg4.block j (by simp; omega) (fun e => hne (by cases e; rfl))).trans (hbl3 j hj)
        have hI4 : IterV entV w4 vF (w.heap.size + 1 + 1 + 1) ks (gone ++ [k]) := hI2.of_blocks (fun j hj => hbl j (hlt2 j hj) (fun e => hne (e ▸ hj))) (hbl _ hl2 (by omega))
        have hL4 : leftV w4 vF (w.heap.size + 1 + 1 + 1) = leftV w2 vF (w.heap.size + 1 + 1 + 1) := leftV_of_blocks (fun j hj => hbl j (hlt2 j hj) (fun e => hne (e ▸ hj))) (hbl _ hl2 (by omega))
        have hB4 := hB3.grown hg4 (by simp; omega) (fun j hj => Or.inr (by cases hj; rfl))
        have hD5 : MapR entV w4 b (insAll ds ((gone ++ [k]).filter (keepB os ts))) := by
          rw [List.filter_append, List.filter_cons, if_pos hkeep, List.filter_nil, insAll_snoc]
          exact hD4
        have HI4 := hide hI4
        have HL4 := hide hL4
        have HB4 := hide hB4
        have HD4 := hide hD5
        subst hoE
        subst hoU
        clear hI4 hL4 hB4 hD4 hD5 hlf hbl hB3 hD3 hD2 hB2 hI2 hI hlt2 hg hg4 hD hs4 hF hO hK hlt hltO hltK c1 c2 c3 hkw2 hbl3
        by_cases q1 : k ∈ os
        · have l1 := L1y.out q1
          by_cases q2 : k.2 ∈ ts
          · have l2 := L2y.out q2
            clear q1 q2
            go_wp2
            exact ⟨⟨_, HI4.out, HD4.out, HB4.out⟩, by rw [HL4.out]; exact HLF.out⟩
          · have l2 := L2n.out q2
            clear q1 q2
            go_wp2
            exact ⟨⟨_, HI4.out, HD4.out, HB4.out⟩, by rw [HL4.out]; exact HLF.out⟩
        · have q2 : ¬ k.2 ∈ ts := by simpa [keepB, q1] using hkeep
          have l1 := L1n.out q1
          have l2 := L2n.out q2
          clear q1 q2
          go_wp2
          exact ⟨⟨_, HI4.out, HD4.out, HB4.out⟩, by rw [HL4.out]; exact HLF.out⟩
      · have q1 : ¬ k ∈ os := fun h => hkeep (by simp [keepB, h])
        have q2 : k.2 ∈ ts := by
          rcases Classical.em (k.2 ∈ ts) with h | h
          · exact h
          · exact absurd (by simp [keepB, h]) hkeep
        have hI4 : IterV entV (((w2.alloc oE).alloc oU).alloc oU) vF (w.heap.size + 1 + 1 + 1) ks (gone ++ [k]) := hI2.of_blocks (fun j hj => hbl3 j (hlt2 j hj)) (hbl3 _ hl2)
        have hL4 : leftV (((w2.alloc oE).alloc oU).alloc oU) vF (w.heap.size + 1 + 1 + 1) = leftV w2 vF (w.heap.size + 1 + 1 + 1) := leftV_of_blocks (fun j hj => hbl3 j (hlt2 j hj)) (hbl3 _ hl2)
        have hD5 : MapR entV (((w2.alloc oE).alloc oU).alloc oU) b (insAll ds ((gone ++ [k]).filter (keepB os ts))) := by
          rw [List.filter_append, List.filter_cons, if_neg hkeep, List.filter_nil, List.append_nil]
          exact hD3
        have HI4 := hide hI4
        have HL4 := hide hL4
        have HB4 := hide hB3
        have HD4 := hide hD5
        subst hoE
        subst hoU
        have l1 := L1n.out q1
        have l2 := L2y.out q2
        clear hI4 hL4 hD5 hlf hB3 hD3 hD2 hB2 hI2 hI hlt2 hg hD hF hO hK hlt hltO hltK c1 c2 c3 hkw2 hbl3 q1 q2
        go_wp2
        exact ⟨⟨_, HI4.out, HD4.out, HB4.out⟩, by rw [HL4.out]; exact HLF.out⟩
end Go.Proofs.YtnniimfinakioaaGreatDoor
namespace Go.Proofs.YtnniimfinakioaaGreatDoor
open Go.RowKit
attribute [local go_sem] toList_nm app_nm size_nm

theorem epEnt : ElemT Tryz.prog 113 110 3 32 := ElemT.mk' (z := .agg #[.string ByteArray.empty, .int .i64 0, .int .i64 0]) (by kernel_rfl) (by kernel_rfl) rfl (by decide)
theorem epTok : ElemT Tryz.prog 140 108 2 16 := ElemT.mk' (z := .agg #[.int .i64 0, .int .i64 0]) (by kernel_rfl) (by kernel_rfl) rfl (by decide)
/-- A row of the program's own entries, of its tokens. -/
def PEntR (w : World) (v : Value) (es : List Ent) : Prop := w.ownsRow 0 110 3 v es.length (entC es)
def PTokR (w : World) (v : Value) (es : List Tok) : Prop := w.ownsRow 0 108 2 v es.length (tokC es)
theorem PEntR.at {w : World} {o : Option Addr} {n c : Nat} {ts : List Ent} (h : PEntR w (.slice o n c) ts) {k : Nat} {t : Ent} (hk : ts[k]? = some t) :
    ∃ g, o = some ⟨g, 0, none⟩ ∧ g < w.heap.size ∧ w.cell? ⟨g, k * 3, none⟩ = some (strV t.1) ∧ w.cell? ⟨g, k * 3 + 1, none⟩ = some (.int .i64 t.2.1) ∧ w.cell? ⟨g, k * 3 + 2, none⟩ = some (.int .i64 t.2.2) := by
  obtain ⟨g1, g2, g3⟩ := entC_get ts k t hk
  have hk' : k < ts.length := by
    rcases Nat.lt_or_ge k ts.length with h | h
    · exact h
    · rw [List.getElem?_eq_none h] at hk; cases hk
  obtain ⟨g, cap, e, _, hlt⟩ := World.ownsRow.form h (by omega)
  simp only [Value.slice.injEq] at e
  obtain ⟨rfl, _, _⟩ := e
  exact ⟨g, rfl, hlt, own_cell h rfl g1, own_cell h rfl g2, own_cell h rfl g3⟩
theorem PTokR.at {w : World} {o : Option Addr} {n c : Nat} {ts : List Tok} (h : PTokR w (.slice o n c) ts) {k : Nat} {t : Tok} (hk : ts[k]? = some t) :
    ∃ g, o = some ⟨g, 0, none⟩ ∧ g < w.heap.size ∧ w.cell? ⟨g, k * 2, none⟩ = some (.int .i64 t.1) ∧ w.cell? ⟨g, k * 2 + 1, none⟩ = some (.int .i64 t.2) := by
  obtain ⟨g1, g2⟩ := tokC_get ts k t hk
  have hk' : k < ts.length := by
    rcases Nat.lt_or_ge k ts.length with h | h
    · exact h
    · rw [List.getElem?_eq_none h] at hk; cases hk
  obtain ⟨g, cap, e, _, hlt⟩ := World.ownsRow.form h (by omega)
  simp only [Value.slice.injEq] at e
  obtain ⟨rfl, _, _⟩ := e
  exact ⟨g, rfl, hlt, own_cell h rfl g1, own_cell h rfl g2⟩
theorem PEntR.form {w : World} {v : Value} {ts : List Ent} (h : PEntR w v ts) : ∃ o c, v = .slice o ts.length c ∧ ts.length ≤ c ∧ c ≤ maxLen := own_form h
theorem PTokR.form {w : World} {v : Value} {ts : List Tok} (h : PTokR w v ts) : ∃ o c, v = .slice o ts.length c ∧ ts.length ≤ c ∧ c ≤ maxLen := own_form h
theorem PEntR.below {w w' : World} {v : Value} {ts : List Ent} (h : PEntR w v ts) (k : Below w.heap.size w w') : PEntR w' v ts := own_below h k
theorem PTokR.below {w w' : World} {v : Value} {ts : List Tok} (h : PTokR w v ts) (k : Below w.heap.size w w') : PTokR w' v ts := own_below h k

theorem MapR.setCell {α : Type} {enc : α → Value} {w : World} {b : Nat} {ks : List α} (h : MapR enc w b ks) {p : Addr} (hp : p.block ≠ b) (u : Value) : MapR enc (w.setCell p u) b ks := h.of_block (Below.heap_setCell _ _ _ _ (fun e => hp e.symm))
theorem MapV.setCell {α : Type} {enc : α → Value} {w : World} {v : Value} {ks : List α} (h : MapV enc w v ks) {p : Addr} (hp : mapB v ≠ some p.block) (u : Value) : MapV enc (w.setCell p u) v ks := h.of_block fun b hb => Below.heap_setCell _ _ _ _ (fun e => hp (by rw [hb, e]))
set_option maxHeartbeats 1000000 in
theorem taking_any (w : World) (v : Value) (es : List Ent) (h : PEntR w v es) (hbd : es.length ≤ 1000000) :
    Calls Tryz.prog 88 #[v] w fun e w' => ∃ b, e = .returned (.agg #[.map none, .map (some b)]) ∧ w.heap.size ≤ b ∧ MapR tokV w' b (insAll [] (es.map (·.2))) ∧ Below w.heap.size w w' := by
  obtain ⟨o, c, rfl, hc1, hc2⟩ := h.form
  have hmm := @run_makeMap Tryz.prog
  have hm0 : MapR tokV ((w.alloc (.cells #[.map none, .map none] 90)).alloc (.map #[] 0)) (w.heap.size + 1) ([] : List Tok) := by
    have := MapR.made (α := Tok) (enc := tokV) (w.alloc (.cells #[.map none, .map none] 90))
    rw [World.size_alloc] at this
    exact this
  have HM0 := hide hm0
  clear hm0
  go_enter Tryz.func88, Tryz.ntmps88
  go_wp2
  go_loopw [9] (fun i wr => ∃ k : Nat, k ≤ es.length ∧ i = .int .i64 k ∧ MapR tokV wr (w.heap.size + 1) (insAll [] ((es.take k).map (·.2))) ∧ Kp (w.heap.size + 1) NoS (w.alloc (.cells #[.map none, .map none] 90)) wr) (fun i _ => es.length - (intOf i).toNat)
  case atStart => exact ⟨0, Nat.zero_le _, rfl, HM0.out, Kp.ofBelow ((Below.refl _ _).alloc (by simp) _)⟩
  case round =>
    obtain ⟨k, hk, rfl, hM, hbel⟩ := hrel
    have hk1 := hbel.toBelow
    obtain ⟨e1, e2, e3, e4, e5⟩ := bx1 hk1
    have hml := hM.lt
    have HM := hide hM
    have H4 := hide e4
    have HB := hide hk1
    clear hM hbel e4 hk1 hc1 hc2
    by_cases hlt : k < es.length
    · obtain ⟨x, hx⟩ := get_some hlt
      obtain ⟨g, rfl, hg, c1, c2, c3⟩ := h.at hx
      have hM2 : MapR tokV (wr.alloc (.cells #[strV x.1, .int .i64 x.2.1, .int .i64 x.2.2] 110)) (w.heap.size + 1) (insAll [] ((es.take k).map (·.2))) := HM.out.alloc _
      obtain ⟨w4, hput, hM4, hg4, hs4⟩ := keyTok.put Tryz.underlying88 hM2 x.2
      have hB4 : Below (w.heap.size + 1) (w.alloc (.cells #[.map none, .map none] 90)) w4 := (HB.out.alloc (by omega) _).grown hg4 (by simp; omega) (fun j hj => by cases hj; omega)
      have hM5 : MapR tokV w4 (w.heap.size + 1) (insAll [] ((es.take (k + 1)).map (·.2))) := by
        rw [take_snoc' hx, List.map_append, List.map_singleton, insAll_snoc]
        exact hM4
      have HM5 := hide hM5
      have HB4 := hide hB4
      have c1' := (e3 g (k * 3) hg).trans c1
      have c2' := (e3 g (k * 3 + 1) hg).trans c2
      have c3' := (e3 g (k * 3 + 2) hg).trans c3
      clear hM2 hM4 hM5 hB4 hg4 hs4 hx h e1 e2 c1 c2 c3
      clear e3
      go_wp2
      exact ⟨⟨k + 1, by omega, by go_num, HM5.out, Kp.ofBelow HB4.out⟩, by simp [intOf]; omega⟩
    · have hkl : k = es.length := by omega
      subst hkl
      have e10 := e1 0
      have e11 := e1 1
      have hmB : MapR tokV wr (w.heap.size + 1) (insAll [] (es.map (·.2))) := by
        have := HM.out
        rw [List.take_of_length_le (Nat.le_refl _)] at this
        exact this
      have HMB := hide hmB
      clear hmB e3 e1
      go_wp2
      refine bodyPost_ret (v := .agg #[.map none, .map (some (w.heap.size + 1))]) (by simp [results, Tryz.results88, go_sem, e10, e11]) rfl ⟨w.heap.size + 1, rfl, by omega, ?_, ?_⟩
      · exact (HMB.out.setCell (p := ⟨w.heap.size, 0, none⟩) (by simp) _).setCell (p := ⟨w.heap.size, 1, none⟩) (by simp) _
      · exact (H4.out.setCell (p := ⟨w.heap.size, 0, none⟩) (Nat.le_refl _) _).setCell (p := ⟨w.heap.size, 1, none⟩) (Nat.le_refl _) _

set_option maxHeartbeats 2000000 in
set_option maxRecDepth 100000 in
theorem putting_any (w : World) (v : Value) (x : Ent) (es : List Ent) (h : PEntR w v es) (hbd : es.length ≤ 1000000) :
    Calls Tryz.prog 58 #[entV x, v] w fun e w' => ∃ b c, e = .returned (.agg #[.map (some c), .map (some b)]) ∧ w.heap.size ≤ b ∧ w.heap.size ≤ c ∧ b ≠ c ∧ MapR entV w' c [x] ∧ MapR tokV w' b (ins (insAll [] (es.map (·.2))) x.2) ∧ Below w.heap.size w w' := by
  have hmm := @run_makeMap Tryz.prog
  obtain ⟨W0, hW0⟩ : ∃ W0, (w.alloc (.cells #[strV x.1, .int .i64 x.2.1, .int .i64 x.2.2] 110)).alloc (.cells #[.map none, .map none] 90) = W0 := ⟨_, rfl⟩
  have hb0 : Below w.heap.size w W0 := by rw [← hW0]; exact below2 w _ _
  have hT := taking_any W0 v es (h.below hb0) hbd
  go_enter Tryz.func58, Tryz.ntmps58
  go_wp2_with fail
  refine hT.mono ?_
  rintro e w1 ⟨b, rfl, hb, hM, hbel⟩
  rw [← hW0] at hb hbel
  simp only [World.size_alloc] at hb hbel
  obtain ⟨d1, f1, d2, f2, _, hbw, hs1⟩ := bx2 hbel
  have hbl := hM.lt
  have p1 := heap_alloc_new w1 (.cells #[.map none, .map (some b)] 90)
  have hM2 : MapR tokV (w1.alloc (.cells #[.map none, .map (some b)] 90)) b (insAll [] (es.map (·.2))) := hM.alloc _
  obtain ⟨w3, hput, hM3, hg3, hs3⟩ := keyTok.put Tryz.underlying88 hM2 x.2
  rw [World.size_alloc] at hs3
  have hB3 : Below w.heap.size w w3 := (hbw.alloc (by omega) _).grown hg3 (by simp; omega) (fun j hj => by cases hj; omega)
  have hN : MapR entV (w3.alloc (.map #[] 0)) w3.heap.size ([] : List Ent) := MapR.made w3
  obtain ⟨w5, hput5, hN5, hg5, hs5⟩ := keyEnt.put Tryz.underlying87 hN x
  rw [World.size_alloc] at hs5
  have hB5 : Below w.heap.size w w5 := (hB3.alloc hB3.size _).grown hg5 (by have := hB3.size; simp; omega) (fun j hj => by cases hj; exact hB3.size)
  -- what lies where
  have k3 : ∀ j, j < w1.heap.size + 1 → j ≠ b → w3.heap[j]? = (w1.alloc (.cells #[.map none, .map (some b)] 90)).heap[j]? := fun j hj hne => hg3.block j (by simp; omega) (fun e => hne (by cases e; rfl))
  have k5 : ∀ j, j < w3.heap.size → w5.heap[j]? = w3.heap[j]? := fun j hj => (hg5.block j (by simp; omega) (fun e => by cases e; omega)).trans (Below.heap_alloc _ _ j hj)
  have q2 : (w1.alloc (.cells #[.map none, .map (some b)] 90)).heap[w.heap.size]? = w1.heap[w.heap.size]? := Below.heap_alloc _ _ _ (by omega)
  have q3 : (w3.alloc (.map #[] 0)).heap[w.heap.size]? = w1.heap[w.heap.size]? := (Below.heap_alloc _ _ _ (by omega)).trans ((k3 _ (by omega) (by omega)).trans q2)
  have q5 : w5.heap[w1.heap.size]? = some (.cells #[.map none, .map (some b)] 90) := (k5 _ (by omega)).trans ((k3 _ (by omega) (by omega)).trans p1)
  have q6 : w5.heap[w.heap.size + 1]? = w1.heap[w.heap.size + 1]? := (k5 _ (by omega)).trans ((k3 _ (by omega) (by omega)).trans (Below.heap_alloc _ _ _ (by omega)))
  have r1 : (w1.alloc (.cells #[.map none, .map (some b)] 90)).cell? ⟨w.heap.size, 1, none⟩ = some (.int .i64 x.2.1) := (World.cell?_of_block (a := ⟨w.heap.size, 1, none⟩) q2).trans (d1 1)
  have r2 : (w1.alloc (.cells #[.map none, .map (some b)] 90)).cell? ⟨w.heap.size, 2, none⟩ = some (.int .i64 x.2.2) := (World.cell?_of_block (a := ⟨w.heap.size, 2, none⟩) q2).trans (d1 2)
  have r3 : (w3.alloc (.map #[] 0)).cell? ⟨w.heap.size, 0, none⟩ = some (strV x.1) := (World.cell?_of_block (a := ⟨w.heap.size, 0, none⟩) q3).trans (d1 0)
  have r4 : (w3.alloc (.map #[] 0)).cell? ⟨w.heap.size, 1, none⟩ = some (.int .i64 x.2.1) := (World.cell?_of_block (a := ⟨w.heap.size, 1, none⟩) q3).trans (d1 1)
  have r5 : (w3.alloc (.map #[] 0)).cell? ⟨w.heap.size, 2, none⟩ = some (.int .i64 x.2.2) := (World.cell?_of_block (a := ⟨w.heap.size, 2, none⟩) q3).trans (d1 2)
  obtain ⟨s5, z5⟩ := row_facts q5
  have s50 := s5 0
  have s51 := s5 1
  simp only [List.getElem?_toArray, List.getElem?_cons_succ, List.getElem?_cons_zero] at s50 s51
  have t50 : w5.cell? ⟨w.heap.size + 1, 0, none⟩ = some (.map none) := (World.cell?_of_block (a := ⟨w.heap.size + 1, 0, none⟩) q6).trans (d2 0)
  have t51 : w5.cell? ⟨w.heap.size + 1, 1, none⟩ = some (.map none) := (World.cell?_of_block (a := ⟨w.heap.size + 1, 1, none⟩) q6).trans (d2 1)
  have g50 : w5.frozen? ⟨w.heap.size + 1, 0, none⟩ = false := (World.frozen?_of_block (a := ⟨w.heap.size + 1, 0, none⟩) q6).trans (f2 0)
  have g51 : w5.frozen? ⟨w.heap.size + 1, 1, none⟩ = false := (World.frozen?_of_block (a := ⟨w.heap.size + 1, 1, none⟩) q6).trans (f2 1)
  have z50 := z5 0
  have hM5 : MapR tokV w5 b (ins (insAll [] (es.map (·.2))) x.2) := hM3.of_block (k5 b (by have := hM3.lt; omega))
  rw [hs3] at hput5 hN5 hs5
  have HM5 := hide hM5
  have HN5 := hide hN5
  have HB5 := hide hB5
  clear hM5 hN5 hB5 hM hM2 hM3 hN hg3 hg5 k3 k5 q2 q3 q5 q6 s5 z5 d1 d2 f1 f2 hbel hbw hB3 p1 hT h hb0 hW0
  go_wp2_with fail
  refine bodyPost_ret (v := .agg #[.map (some (w1.heap.size + 1)), .map (some b)]) (by simp [results, Tryz.results58, go_sem, t50, t51]) rfl ⟨b, w1.heap.size + 1, rfl, by omega, by omega, by omega, ?_, ?_, ?_⟩
  · exact ((HN5.out.setCell (p := ⟨w1.heap.size, 0, none⟩) (by simp) _).setCell (p := ⟨w.heap.size + 1, 0, none⟩) (by simp; omega) _).setCell (p := ⟨w.heap.size + 1, 1, none⟩) (by simp; omega) _
  · exact ((HM5.out.setCell (p := ⟨w1.heap.size, 0, none⟩) (by simp; omega) _).setCell (p := ⟨w.heap.size + 1, 0, none⟩) (by simp; omega) _).setCell (p := ⟨w.heap.size + 1, 1, none⟩) (by simp; omega) _
  · exact ((HB5.out.setCell (p := ⟨w1.heap.size, 0, none⟩) (by simp; omega) _).setCell (p := ⟨w.heap.size + 1, 0, none⟩) (by simp) _).setCell (p := ⟨w.heap.size + 1, 1, none⟩) (by simp) _
end Go.Proofs.YtnniimfinakioaaGreatDoor
namespace Go.Proofs.YtnniimfinakioaaGreatDoor
open Go.RowKit
attribute [local go_sem] toList_nm app_nm size_nm

theorem new_at (w : World) (o : Obj) {n : Nat} (h : w.heap.size = n) : (w.alloc o).heap[n]? = some o := by
  subst h
  exact heap_alloc_new w o
theorem cells_at {w : World} {b : Nat} {x y : Value} {t : TypeId} (h : w.heap[b]? = some (.cells #[x, y] t (0, 0))) : w.cell? ⟨b, 0, none⟩ = some x ∧ w.cell? ⟨b, 1, none⟩ = some y ∧ w.frozen? ⟨b, 0, none⟩ = false ∧ w.frozen? ⟨b, 1, none⟩ = false :=
  ⟨(row_facts h).1 0, (row_facts h).1 1, (row_facts h).2 0, (row_facts h).2 1⟩

theorem below_kpNew {B : Nat} {a w w' : World} {S : Nat → Prop} {m : Nat} (h : Below B a w) (k : Kp m S w w') (hm : B ≤ m ∧ ∀ j, j < B → ¬ S j) : Below B a w' :=
  ⟨k.os.trans h.os, k.tape.trans h.tape, k.output.trans h.output, Nat.le_trans h.size k.size, fun j hj => (k.block j (by omega) (hm.2 j hj)).trans (h.block j hj)⟩

/-- What a joined piece holds. -/
structure JoinP (w : World) (c k : Nat) (ea eb : List Ent) (ka kb : List Tok) (E : List Ent) (T : List Tok) : Prop where
  e : MapR entV w c E
  t : MapR tokV w k T
  en : E.Nodup
  tn : T.Nodup
  em : ∀ x, x ∈ E ↔ (x ∈ ea ∧ keepB eb kb x = true) ∨ (x ∈ eb ∧ keepB ea ka x = true)
  tm : ∀ x, x ∈ T ↔ x ∈ ka ∨ x ∈ kb

set_option maxHeartbeats 4000000 in
set_option maxRecDepth 100000 in
theorem join_any (w : World) (vA vAK vB vBK : Value) (ea eb : List Ent) (ka kb : List Tok) (hA : MapV entV w vA ea) (hAK : MapV tokV w vAK ka) (hB : MapV entV w vB eb) (hBK : MapV tokV w vBK kb) :
    Calls Tryz.prog 87 #[.agg #[vA, vAK], .agg #[vB, vBK]] w fun e w' => ∃ c k E T, e = .returned (.agg #[.map (some c), .map (some k)]) ∧ w.heap.size ≤ c ∧ w.heap.size ≤ k ∧ c ≠ k ∧ JoinP w' c k ea eb ka kb E T ∧ Below w.heap.size w w' := by
  have hmm := @run_makeMap Tryz.prog
  have ltA := fun b hb => hA.lt (b := b) hb
  have ltAK := fun b hb => hAK.lt (b := b) hb
  have ltB := fun b hb => hB.lt (b := b) hb
  have ltBK := fun b hb => hBK.lt (b := b) hb
  obtain ⟨W1, hW1⟩ : ∃ W1, ((((((w.alloc (.cells #[vA, vAK] 90)).alloc (.cells #[vB, vBK] 90)).alloc (.cells #[.map none, .map none] 90)).alloc (.map #[] 0)).alloc (.map #[] 0)).alloc (.cells #[.map (some (w.heap.size + 1 + 1 + 1)), .map (some (w.heap.size + 1 + 1 + 1 + 1))] 90)) = W1 := ⟨_, rfl⟩
  have b0 : W1.heap[w.heap.size]? = some (.cells #[vA, vAK] 90) := by rw [← hW1]; exact alloc_at (alloc_at (alloc_at (alloc_at (alloc_at (new_at _ _ rfl) _) _) _) _) _
  have b1 : W1.heap[w.heap.size + 1]? = some (.cells #[vB, vBK] 90) := by rw [← hW1]; exact alloc_at (alloc_at (alloc_at (alloc_at (new_at _ _ (by simp)) _) _) _) _
  have b2 : W1.heap[w.heap.size + 1 + 1]? = some (.cells #[.map none, .map none] 90) := by rw [← hW1]; exact alloc_at (alloc_at (alloc_at (new_at _ _ (by simp)) _) _) _
  have b3 : W1.heap[w.heap.size + 1 + 1 + 1]? = some (.map #[] 0) := by rw [← hW1]; exact alloc_at (alloc_at (new_at _ _ (by simp)) _) _
  have b4 : W1.heap[w.heap.size + 1 + 1 + 1 + 1]? = some (.map #[] 0) := by rw [← hW1]; exact alloc_at (new_at _ _ (by simp)) _
  have b5 : W1.heap[w.heap.size + 1 + 1 + 1 + 1 + 1]? = some (.cells #[.map (some (w.heap.size + 1 + 1 + 1)), .map (some (w.heap.size + 1 + 1 + 1 + 1))] 90) := by rw [← hW1]; exact new_at _ _ (by simp)
  have hs1 : W1.heap.size = w.heap.size + 6 := by rw [← hW1]; simp
  have hbw : Below w.heap.size w W1 := by rw [← hW1]; exact ((((below2 w _ _).alloc (by simp; omega) _).alloc (by simp; omega) _).alloc (by simp; omega) _).alloc (by simp; omega) _
  have hE1 : MapR entV W1 (w.heap.size + 1 + 1 + 1) ([] : List Ent) := ⟨_, _, b3, ⟨rfl, by simp, by simp⟩⟩
  have hT1 : MapR tokV W1 (w.heap.size + 1 + 1 + 1 + 1) ([] : List Tok) := ⟨_, _, b4, ⟨rfl, by simp, by simp⟩⟩
  have hA1 := hA.below hbw ltA
  have hAK1 := hAK.below hbw ltAK
  have hB1 := hB.below hbw ltB
  have hBK1 := hBK.below hbw ltBK
  have HBW := hide hbw
  clear hA hAK hB hBK hbw b3 b4
  obtain ⟨p0, p0', _⟩ := cells_at b0
  obtain ⟨p5, p5', _⟩ := cells_at b5
  go_enter Tryz.func87, Tryz.ntmps87
  go_wp2_with fail
  clear p0 p0' p5 p5' hW1
  -- the first Copy
  refine (copy_any W1 (w.heap.size + 1 + 1 + 1 + 1) vAK [] ka hT1 hAK1 (fun e => by have := ltAK _ e; omega)).mono ?_
  rintro e W2 ⟨rfl, ⟨x1, hx1, hT2⟩, k2⟩
  have b0 := (k2.block _ (by omega) (by omega)).trans b0
  have b1 := (k2.block _ (by omega) (by omega)).trans b1
  have b2 := (k2.block _ (by omega) (by omega)).trans b2
  have b5 := (k2.block _ (by omega) (by omega)).trans b5
  have hE2 := hE1.kp k2 (by omega) (by omega)
  have hA2 := hA1.kp k2 fun b hb => ⟨by have := ltA b hb; omega, by have := ltA b hb; omega⟩
  have hAK2 := hAK1.kp k2 fun b hb => ⟨by have := ltAK b hb; omega, by have := ltAK b hb; omega⟩
  have hB2 := hB1.kp k2 fun b hb => ⟨by have := ltB b hb; omega, by have := ltB b hb; omega⟩
  have hBK2 := hBK1.kp k2 fun b hb => ⟨by have := ltBK b hb; omega, by have := ltBK b hb; omega⟩
  have hs2 : w.heap.size + 6 ≤ W2.heap.size := by have := k2.size; omega
  have HBW := hide (below_kpNew HBW.out k2 ⟨by omega, fun j hj => by omega⟩)
  clear hE1 hA1 hAK1 hB1 hBK1 hT1 k2 hs1
  obtain ⟨p1, p1', _⟩ := cells_at b1
  obtain ⟨p5, p5', _⟩ := cells_at b5
  go_wp2_with fail
  clear p1 p1' p5 p5'
  refine (copy_any W2 (w.heap.size + 1 + 1 + 1 + 1) vBK _ kb hT2 hBK2 (fun e => by have := ltBK _ e; omega)).mono ?_
  rintro e W3 ⟨rfl, ⟨x2, hx2, hT3⟩, k2⟩
  have b0 := (k2.block _ (by omega) (by omega)).trans b0
  have b1 := (k2.block _ (by omega) (by omega)).trans b1
  have b2 := (k2.block _ (by omega) (by omega)).trans b2
  have b5 := (k2.block _ (by omega) (by omega)).trans b5
  have hE3 := hE2.kp k2 (by omega) (by omega)
  have hA3 := hA2.kp k2 fun b hb => ⟨by have := ltA b hb; omega, by have := ltA b hb; omega⟩
  have hAK3 := hAK2.kp k2 fun b hb => ⟨by have := ltAK b hb; omega, by have := ltAK b hb; omega⟩
  have hB3 := hB2.kp k2 fun b hb => ⟨by have := ltB b hb; omega, by have := ltB b hb; omega⟩
  have hBK3 := hBK2.kp k2 fun b hb => ⟨by have := ltBK b hb; omega, by have := ltBK b hb; omega⟩
  have hs3 : w.heap.size + 6 ≤ W3.heap.size := by have := k2.size; omega
  have HBW := hide (below_kpNew HBW.out k2 ⟨by omega, fun j hj => by omega⟩)
  clear hE2 hA2 hAK2 hB2 hBK2 hT2 k2 hs2
  obtain ⟨p0, p0', _⟩ := cells_at b0
  obtain ⟨p1, p1', _⟩ := cells_at b1
  obtain ⟨p5, p5', _⟩ := cells_at b5
  go_wp2_with fail
  clear p0 p0' p1 p1' p5 p5'
  refine (takeOver_any W3 (w.heap.size + 1 + 1 + 1) (.map (some (w.heap.size + 1 + 1 + 1 + 1))) vA vAK vB vBK [] ea eb kb hE3 hA3 hB3 hBK3 (fun e => by have := ltA _ e; omega) (fun e => by have := ltB _ e; omega) (fun e => by have := ltBK _ e; omega)).mono ?_
  rintro e W4 ⟨rfl, ⟨y1, hy1, hE4⟩, k2⟩
  have b0 := (k2.block _ (by omega) (by omega)).trans b0
  have b1 := (k2.block _ (by omega) (by omega)).trans b1
  have b2 := (k2.block _ (by omega) (by omega)).trans b2
  have b5 := (k2.block _ (by omega) (by omega)).trans b5
  have hT4 := hT3.kp k2 (by omega) (by omega)
  have hA4 := hA3.kp k2 fun b hb => ⟨by have := ltA b hb; omega, by have := ltA b hb; omega⟩
  have hAK4 := hAK3.kp k2 fun b hb => ⟨by have := ltAK b hb; omega, by have := ltAK b hb; omega⟩
  have hB4 := hB3.kp k2 fun b hb => ⟨by have := ltB b hb; omega, by have := ltB b hb; omega⟩
  have hs4 : w.heap.size + 6 ≤ W4.heap.size := by have := k2.size; omega
  have HBW := hide (below_kpNew HBW.out k2 ⟨by omega, fun j hj => by omega⟩)
  clear hE3 hA3 hAK3 hB3 hBK3 hT3 k2 hs3
  obtain ⟨p0, p0', _⟩ := cells_at b0
  obtain ⟨p1, p1', _⟩ := cells_at b1
  obtain ⟨p5, p5', _⟩ := cells_at b5
  go_wp2_with fail
  clear p0 p0' p1 p1' p5 p5'
  refine (takeOver_any W4 (w.heap.size + 1 + 1 + 1) (.map (some (w.heap.size + 1 + 1 + 1 + 1))) vB vBK vA vAK _ eb ea ka hE4 hB4 hA4 hAK4 (fun e => by have := ltB _ e; omega) (fun e => by have := ltA _ e; omega) (fun e => by have := ltAK _ e; omega)).mono ?_
  rintro e W5 ⟨rfl, ⟨y2, hy2, hE5⟩, k2⟩
  have b2 := (k2.block _ (by omega) (by omega)).trans b2
  have b5 := (k2.block _ (by omega) (by omega)).trans b5
  have hT5 := hT4.kp k2 (by omega) (by omega)
  have hs5 : w.heap.size + 6 ≤ W5.heap.size := by have := k2.size; omega
  have HBW := hide (below_kpNew HBW.out k2 ⟨by omega, fun j hj => by omega⟩)
  clear hA4 hAK4 hB4 hT4 k2 hs4 b0 b1 hE4
  obtain ⟨p2, p2', z2, z2'⟩ := cells_at b2
  obtain ⟨p5, p5', _⟩ := cells_at b5
  have HE5 := hide hE5
  have HT5 := hide hT5
  clear hE5 hT5
  go_wp2_with fail
  refine bodyPost_ret (v := .agg #[.map (some (w.heap.size + 1 + 1 + 1)), .map (some (w.heap.size + 1 + 1 + 1 + 1))]) (by simp [results, Tryz.results87, go_sem, p2, p2']) rfl ⟨_, _, insAll (insAll [] (y1.filter (keepB eb kb))) (y2.filter (keepB ea ka)), insAll (insAll [] x1) x2, rfl, by omega, by omega, by omega, ⟨?_, ?_, ?_, ?_, ?_, ?_⟩, ?_⟩
  · exact (HE5.out.setCell (p := ⟨w.heap.size + 1 + 1, 0, none⟩) (by simp) _).setCell (p := ⟨w.heap.size + 1 + 1, 1, none⟩) (by simp) _
  · exact (HT5.out.setCell (p := ⟨w.heap.size + 1 + 1, 0, none⟩) (by simp) _).setCell (p := ⟨w.heap.size + 1 + 1, 1, none⟩) (by simp) _
  · exact insAll_nodup (insAll_nodup (by simp))
  · exact insAll_nodup (insAll_nodup (by simp))
  · intro x
    rw [insAll_mem, insAll_mem, List.mem_filter, List.mem_filter, hy1.mem_iff, hy2.mem_iff]
    simp
  · intro x
    rw [insAll_mem, insAll_mem, hx1.mem_iff, hx2.mem_iff]
    simp
  · exact (HBW.out.setCell (p := ⟨w.heap.size + 1 + 1, 0, none⟩) (by simp; omega) _).setCell (p := ⟨w.heap.size + 1 + 1, 1, none⟩) (by simp; omega) _
end Go.Proofs.YtnniimfinakioaaGreatDoor
namespace Go.Proofs.YtnniimfinakioaaGreatDoor
open Go.RowKit
attribute [local go_sem] toList_nm app_nm size_nm

theorem MapV.len {α : Type} {enc : α → Value} {P : Program} {kt et t : TypeId} (ht : P.underlying t = some (.map kt et)) {w : World} {v : Value} {ks : List α} (h : MapV enc w v ks) (ty : TypeId) :
    (Builtin.len_ #[t] ty #[v]).run P w = .ok (.int .i64 ks.length) w := by
  rcases h.2 with ⟨rfl, rfl⟩ | ⟨b, rfl, es, c, hb, hM⟩
  · simp [Builtin.len_, run_underlying ht, go_sem]
  · have hl : es.size = ks.length := by rw [← hM.laid.len]; simp
    simp [Builtin.len_, run_underlying ht, MapKept.run_getObj_map hb, go_sem, hl]

theorem same_len {α : Type} {xs ys : List α} (hx : xs.Nodup) (hl : xs.length = ys.length) (h : ∀ x ∈ xs, x ∈ ys) : ∀ x, x ∈ xs ↔ x ∈ ys := by
  classical
  intro x
  refine ⟨h x, fun hxy => Classical.byContradiction fun hn => ?_⟩
  have h1 : ∀ y ∈ x :: xs, y ∈ ys := fun y hy => (List.mem_cons.1 hy).elim (fun e => e ▸ hxy) (h y)
  have h2 : (x :: xs).Nodup := List.nodup_cons.2 ⟨hn, hx⟩
  have := len_le_of_sub _ _ h2 h1
  simp at this
  omega
theorem unitEq (w : World) : (Op.equal 147 unitV unitV).run Tryz.prog w = .ok true w := by kernel_rfl

set_option maxHeartbeats 2000000 in
set_option maxRecDepth 100000 in
theorem mapsEqEnt (w : World) (vA vB : Value) (xs ys : List Ent) (hA : MapV entV w vA xs) (hB : MapV entV w vB ys) (r : Bool) (hr : r = true ↔ ∀ x, x ∈ xs ↔ x ∈ ys) :
    Calls Tryz.prog 144 #[vA, vB] w fun e w' => e = .returned (.bool r) ∧ Below w.heap.size w w' := by
  have hlA := hA.len (P := Tryz.prog) Tryz.underlying87
  have hlB := hB.len (P := Tryz.prog) Tryz.underlying87
  have nA := hA.1
  have nB := hB.1
  by_cases hlen : xs.length = ys.length
  · have hne : ((xs.length : Int) != (ys.length : Int)) = false := by rw [hlen]; simp
    have hltB := fun b hb => hB.lt (b := b) hb
    obtain ⟨w1, hrg, hI, hb1, hs1⟩ := hA.range (P := Tryz.prog) Tryz.underlying87
    have HI0 := hide hI
    have HB0 := hide hb1
    have HL := hide hlen
    have HB := hide hB
    have HA := hide hA
    have HR := hide hr
    have hu := unitEq
    clear hI hb1 hA hB hlen hr
    go_enter Tryz.func144, Tryz.ntmps144
    go_wp2_with fail
    go_loopw [16] (fun _ wr => ∃ gone, (∀ x ∈ gone, x ∈ ys) ∧ IterV entV wr vA w.heap.size xs gone ∧ Below w.heap.size w wr) (fun _ wr => leftV wr vA w.heap.size)
    case atStart => exact ⟨[], by simp, HI0.out, HB0.out⟩
    case round =>
      obtain ⟨gone, hsub, hI, hbel⟩ := hrel
      have HBL := hide hbel
      clear hbel
      rcases hI.next (P := Tryz.prog) entV_inj 0 with ⟨hp, hrun⟩ | ⟨k, w2, hk, hkg, hrun, hI2, hlf, hg, hsz, hen⟩
      · have hrt : r = true := HR.out.2 (same_len nA HL.out fun x hx => hsub x (hp.mem_iff.2 hx))
        subst hrt
        clear hp hsub
        go_wp2_with fail
        go_ret
        exact ⟨rfl, HBL.out⟩
      · have hl2 := hI2.lt
        have hlt2 := fun b hb => hI2.mapV.lt (b := b) hb
        have hb2 : Below w.heap.size w w2 := HBL.out.grown hg HBL.out.size (fun j hj => by cases hj; omega)
        have hs2 := hb2.size
        obtain ⟨oE, hoE⟩ : ∃ o : Obj, o = .cells #[strV k.1, .int .i64 k.2.1, .int .i64 k.2.2] 110 := ⟨_, rfl⟩
        obtain ⟨oU, hoU⟩ : ∃ o : Obj, o = .cells #[] 147 := ⟨_, rfl⟩
        have hB3 := ((HB.out.below hb2 hltB).alloc oE).alloc oU
        have hbl3 : ∀ j, j < w2.heap.size → (((w2.alloc oE).alloc oU).alloc oU).heap[j]? = w2.heap[j]? := fun j hj => (Below.heap_alloc _ _ j (by simp; omega)).trans ((Below.heap_alloc _ _ j (by simp; omega)).trans (Below.heap_alloc _ _ j hj))
        have hb3 := ((hb2.alloc hs2 oE).alloc (by simp; omega) oU).alloc (by simp; omega) oU
        have hI3 : IterV entV (((w2.alloc oE).alloc oU).alloc oU) vA w.heap.size xs (gone ++ [k]) := hI2.of_blocks (fun b hb => hbl3 b (hlt2 b hb)) (hbl3 _ hl2)
        have hL3 : leftV (((w2.alloc oE).alloc oU).alloc oU) vA w.heap.size = leftV w2 vA w.heap.size := leftV_of_blocks (fun b hb => hbl3 b (hlt2 b hb)) (hbl3 _ hl2)
        have HI3 := hide hI3
        have HL3 := hide hL3
        have HB3 := hide hb3
        have HLF := hide hlf
        have HS := hide hsub
        by_cases hky : k ∈ ys
        · have ly := hB3.look_yes (x := k) keyEnt Tryz.underlying87 zeroUnit hky
          have HK := hide hky
          subst hoE
          subst hoU
          clear hI3 hL3 hb3 hlf hsub hI2 hI hB3 hbl3 hb2 hg hky hlt2 hk hkg
          go_wp2_with fail
          exact ⟨⟨gone ++ [k], fun x hx => (List.mem_append.1 hx).elim (HS.out x) (fun h => by rw [List.mem_singleton] at h; exact h ▸ HK.out), HI3.out, HB3.out⟩, by rw [HL3.out]; exact HLF.out⟩
        · have ln := hB3.look_no (x := k) keyEnt Tryz.underlying87 zeroUnit hky
          have hrt : r = false := by
            cases r with
            | false => rfl
            | true => exact absurd (((HR.out.1 rfl) k).1 hk) hky
          subst hrt
          subst hoE
          subst hoU
          clear hI3 hL3 hb3 hlf hsub hI2 hI hB3 hbl3 hb2 hg hky hlt2 hk hkg
          go_wp2_with fail
          go_ret
          exact ⟨rfl, HB3.out⟩
  · have hne : ((xs.length : Int) != (ys.length : Int)) = true := by simp; omega
    have hrt : r = false := by
      cases r with
      | false => rfl
      | true =>
        have h := hr.1 rfl
        exact absurd (Nat.le_antisymm (len_le_of_sub _ _ nA fun x hx => (h x).1 hx) (len_le_of_sub _ _ nB fun x hx => (h x).2 hx)) hlen
    subst hrt
    go_enter Tryz.func144, Tryz.ntmps144
    go_wp2_with fail
    go_ret
    exact ⟨rfl, Below.refl _ _⟩
set_option maxHeartbeats 2000000 in
set_option maxRecDepth 100000 in
theorem mapsEqTok (w : World) (vA vB : Value) (xs ys : List Tok) (hA : MapV tokV w vA xs) (hB : MapV tokV w vB ys) (r : Bool) (hr : r = true ↔ ∀ x, x ∈ xs ↔ x ∈ ys) :
    Calls Tryz.prog 145 #[vA, vB] w fun e w' => e = .returned (.bool r) ∧ Below w.heap.size w w' := by
  have hlA := hA.len (P := Tryz.prog) Tryz.underlying88
  have hlB := hB.len (P := Tryz.prog) Tryz.underlying88
  have nA := hA.1
  have nB := hB.1
  by_cases hlen : xs.length = ys.length
  · have hne : ((xs.length : Int) != (ys.length : Int)) = false := by rw [hlen]; simp
    have hltB := fun b hb => hB.lt (b := b) hb
    obtain ⟨w1, hrg, hI, hb1, hs1⟩ := hA.range (P := Tryz.prog) Tryz.underlying88
    have HI0 := hide hI
    have HB0 := hide hb1
    have HL := hide hlen
    have HB := hide hB
    have HA := hide hA
    have HR := hide hr
    have hu := unitEq
    clear hI hb1 hA hB hlen hr
    go_enter Tryz.func145, Tryz.ntmps145
    go_wp2_with fail
    go_loopw [16] (fun _ wr => ∃ gone, (∀ x ∈ gone, x ∈ ys) ∧ IterV tokV wr vA w.heap.size xs gone ∧ Below w.heap.size w wr) (fun _ wr => leftV wr vA w.heap.size)
    case atStart => exact ⟨[], by simp, HI0.out, HB0.out⟩
    case round =>
      obtain ⟨gone, hsub, hI, hbel⟩ := hrel
      have HBL := hide hbel
      clear hbel
      rcases hI.next (P := Tryz.prog) tokV_inj 0 with ⟨hp, hrun⟩ | ⟨k, w2, hk, hkg, hrun, hI2, hlf, hg, hsz, hen⟩
      · have hrt : r = true := HR.out.2 (same_len nA HL.out fun x hx => hsub x (hp.mem_iff.2 hx))
        subst hrt
        clear hp hsub
        go_wp2_with fail
        go_ret
        exact ⟨rfl, HBL.out⟩
      · have hl2 := hI2.lt
        have hlt2 := fun b hb => hI2.mapV.lt (b := b) hb
        have hb2 : Below w.heap.size w w2 := HBL.out.grown hg HBL.out.size (fun j hj => by cases hj; omega)
        have hs2 := hb2.size
        obtain ⟨oE, hoE⟩ : ∃ o : Obj, o = .cells #[.int .i64 k.1, .int .i64 k.2] 108 := ⟨_, rfl⟩
        obtain ⟨oU, hoU⟩ : ∃ o : Obj, o = .cells #[] 147 := ⟨_, rfl⟩
        have hB3 := ((HB.out.below hb2 hltB).alloc oE).alloc oU
        have hbl3 : ∀ j, j < w2.heap.size → (((w2.alloc oE).alloc oU).alloc oU).heap[j]? = w2.heap[j]? := fun j hj => (Below.heap_alloc _ _ j (by simp; omega)).trans ((Below.heap_alloc _ _ j (by simp; omega)).trans (Below.heap_alloc _ _ j hj))
        have hb3 := ((hb2.alloc hs2 oE).alloc (by simp; omega) oU).alloc (by simp; omega) oU
        have hI3 : IterV tokV (((w2.alloc oE).alloc oU).alloc oU) vA w.heap.size xs (gone ++ [k]) := hI2.of_blocks (fun b hb => hbl3 b (hlt2 b hb)) (hbl3 _ hl2)
        have hL3 : leftV (((w2.alloc oE).alloc oU).alloc oU) vA w.heap.size = leftV w2 vA w.heap.size := leftV_of_blocks (fun b hb => hbl3 b (hlt2 b hb)) (hbl3 _ hl2)
        have HI3 := hide hI3
        have HL3 := hide hL3
        have HB3 := hide hb3
        have HLF := hide hlf
        have HS := hide hsub
        by_cases hky : k ∈ ys
        · have ly := hB3.look_yes (x := k) keyTok Tryz.underlying88 zeroUnit hky
          have HK := hide hky
          subst hoE
          subst hoU
          clear hI3 hL3 hb3 hlf hsub hI2 hI hB3 hbl3 hb2 hg hky hlt2 hk hkg
          go_wp2_with fail
          exact ⟨⟨gone ++ [k], fun x hx => (List.mem_append.1 hx).elim (HS.out x) (fun h => by rw [List.mem_singleton] at h; exact h ▸ HK.out), HI3.out, HB3.out⟩, by rw [HL3.out]; exact HLF.out⟩
        · have ln := hB3.look_no (x := k) keyTok Tryz.underlying88 zeroUnit hky
          have hrt : r = false := by
            cases r with
            | false => rfl
            | true => exact absurd (((HR.out.1 rfl) k).1 hk) hky
          subst hrt
          subst hoE
          subst hoU
          clear hI3 hL3 hb3 hlf hsub hI2 hI hB3 hbl3 hb2 hg hky hlt2 hk hkg
          go_wp2_with fail
          go_ret
          exact ⟨rfl, HB3.out⟩
  · have hne : ((xs.length : Int) != (ys.length : Int)) = true := by simp; omega
    have hrt : r = false := by
      cases r with
      | false => rfl
      | true =>
        have h := hr.1 rfl
        exact absurd (Nat.le_antisymm (len_le_of_sub _ _ nA fun x hx => (h x).1 hx) (len_le_of_sub _ _ nB fun x hx => (h x).2 hx)) hlen
    subst hrt
    go_enter Tryz.func145, Tryz.ntmps145
    go_wp2_with fail
    go_ret
    exact ⟨rfl, Below.refl _ _⟩

set_option maxHeartbeats 1000000 in
set_option maxRecDepth 100000 in
theorem equal_maps (w : World) (vA vAK vB vBK : Value) (ea eb : List Ent) (ka kb : List Tok) (hA : MapV entV w vA ea) (hAK : MapV tokV w vAK ka) (hB : MapV entV w vB eb) (hBK : MapV tokV w vBK kb)
    (r1 r2 : Bool) (h1 : r1 = true ↔ ∀ x, x ∈ ea ↔ x ∈ eb) (h2 : r2 = true ↔ ∀ x, x ∈ ka ↔ x ∈ kb) :
    Calls Tryz.prog 118 #[.agg #[vA, vAK], .agg #[vB, vBK]] w fun e w' => e = .returned (.bool (r1 && r2)) ∧ Below w.heap.size w w' := by
  have ltA := fun b hb => hA.lt (b := b) hb
  have ltAK := fun b hb => hAK.lt (b := b) hb
  have ltB := fun b hb => hB.lt (b := b) hb
  have ltBK := fun b hb => hBK.lt (b := b) hb
  have hb0 : Below w.heap.size w ((w.alloc (.cells #[vA, vAK] 90)).alloc (.cells #[vB, vBK] 90)) := below2 w _ _
  have hc := mapsEqEnt _ vA vB ea eb (hA.below hb0 ltA) (hB.below hb0 ltB) r1 h1
  obtain ⟨_, _, _, _, _, b4, b5⟩ := bx2 (Below.refl (w.heap.size + 1 + 1) ((w.alloc (.cells #[vA, vAK] 90)).alloc (.cells #[vB, vBK] 90)))
  have HA := hide hAK
  have HB := hide hBK
  have HB0 := hide hb0
  have q0 : ((w.alloc (.cells #[vA, vAK] 90)).alloc (.cells #[vB, vBK] 90)).heap[w.heap.size]? = some (.cells #[vA, vAK] 90) := alloc_at (heap_alloc_new w _) _
  have q1 : ((w.alloc (.cells #[vA, vAK] 90)).alloc (.cells #[vB, vBK] 90)).heap[w.heap.size + 1]? = some (.cells #[vB, vBK] 90) := by
    have := heap_alloc_new (w.alloc (.cells #[vA, vAK] 90)) (.cells #[vB, vBK] 90)
    simpa using this
  have Q0 := hide q0
  have Q1 := hide q1
  clear q0 q1 hA hAK hB hBK hb0
  go_enter Tryz.func118, Tryz.ntmps118
  go_wp2_with fail
  refine hc.mono ?_
  rintro e w1 ⟨rfl, hb1⟩
  have hbw : Below w.heap.size w w1 := HB0.out.trans (hb1.mono HB0.out.size)
  have e0 := (row_facts ((hb1.block w.heap.size (lt_of_heap Q0.out)).trans Q0.out)).1 1
  have e1 := (row_facts ((hb1.block (w.heap.size + 1) (lt_of_heap Q1.out)).trans Q1.out)).1 1
  simp only [List.getElem?_toArray, List.getElem?_cons_zero, List.getElem?_cons_succ] at e0 e1
  have hc2 := mapsEqTok w1 vAK vBK ka kb (HA.out.below hbw ltAK) (HB.out.below hbw ltBK) r2 h2
  have HBW := hide hbw
  clear hb1 hbw hc h1 h2
  cases r1 with
  | false =>
    go_wp2_with fail
    go_ret
    exact ⟨rfl, HBW.out⟩
  | true =>
    go_wp2_with fail
    refine hc2.mono ?_
    rintro e w2 ⟨rfl, hb2⟩
    have HB2 := hide (HBW.out.trans (hb2.mono HBW.out.size))
    clear hb2 hc2
    go_wp2_with fail
    go_ret
    exact ⟨rfl, HB2.out⟩
end Go.Proofs.YtnniimfinakioaaGreatDoor
