import Derived.StillTailTactics
import Derived.Test.YtnniimfinakioaaGreatDoorXb
import Derived.Test.YtnniimfinakioaaGreatDoorXa
namespace Go.Proofs.YtnniimfinakioaaGreatDoor
open Go.RowKit

/-! Rows of things of one width. -/
def FW {α : Type} (f : α → List Value) (k : Nat) : Prop := ∀ a, (f a).length = k
section
variable {α : Type} {f : α → List Value} {k : Nat}
theorem flat_len (hf : FW f k) (l : List α) : (l.flatMap f).length = l.length * k := by
  induction l with
  | nil => simp
  | cons a l ih =>
    have ha := hf a
    simp only [List.flatMap_cons, List.length_append, List.length_cons, ih, ha, Nat.add_mul, Nat.one_mul]
    omega
theorem flat_get (hf : FW f k) (l : List α) (i j : Nat) (a : α) (h : l[i]? = some a) (hj : j < k) : (l.flatMap f)[i * k + j]? = (f a)[j]? := by
  induction l generalizing i with
  | nil => simp at h
  | cons b l ih =>
    cases i with
    | zero =>
      simp at h; subst h
      simp only [List.flatMap_cons, Nat.zero_mul, Nat.zero_add]
      rw [List.getElem?_append_left (by rw [hf b]; exact hj)]
    | succ i =>
      have := ih i (by simpa using h)
      simp only [List.flatMap_cons]
      rw [List.getElem?_append_right (by rw [hf b, Nat.succ_mul]; omega), hf b, show (i + 1) * k + j - k = i * k + j by rw [Nat.succ_mul]; omega]
      exact this
theorem flat_set (hf : FW f k) (l : List α) (i j : Nat) (a a' : α) (u : Value) (h : l[i]? = some a) (hj : j < k) (h' : f a' = (f a).set j u) : (l.flatMap f).set (i * k + j) u = (l.set i a').flatMap f := by
  induction l generalizing i with
  | nil => simp at h
  | cons b l ih =>
    cases i with
    | zero =>
      simp at h; subst h
      simp only [List.flatMap_cons, Nat.zero_mul, Nat.zero_add, List.set_cons_zero]
      rw [List.set_append_left _ _ (by rw [hf b]; exact hj), h']
    | succ i =>
      have := ih i (by simpa using h)
      simp only [List.flatMap_cons, List.set_cons_succ]
      rw [List.set_append_right _ _ (by rw [hf b, Nat.succ_mul]; omega), hf b, show (i + 1) * k + j - k = i * k + j by rw [Nat.succ_mul]; omega, this]
end

/-- One cell of a row is set. -/
theorem own_set {w : World} {e size n g j : Nat} {v u : Value} {xs : List Value} (h : w.ownsRow 0 e size v n xs) (hg : v.ownBlock = some g) (_hj : j < xs.length) : (w.setCell ⟨g, j, none⟩ u).ownsRow 0 e size v n (xs.set j u) := by
  refine ⟨by rw [List.length_set]; exact h.1, ?_⟩
  rcases h.2 with ⟨rfl, _⟩ | ⟨g', cap, cur, rfl, hb, hgg, h1, h2, h3, h4⟩
  · simp [Value.ownBlock] at hg
  · simp [Value.ownBlock] at hg
    subst hg
    refine .inr ⟨g', cap, cur.setIfInBounds j u, rfl, hb, setCell_row hgg u, h1, h2, by simp [h3], ?_⟩
    rw [Array.toList_setIfInBounds, List.take_set, h4]

structure Pc where
  L : List Ent
  K : List Tok
structure KS where
  n : Nat
  vL : Value
  vK : Value
  p : Pc
structure NS where
  vL : Value
  vK : Value
  p : Pc
  count : Nat
  vKept : Value
  kept : List KS
  vAcked : Value
  acked : List Nat
  made : Nat
structure MS where
  kind : Nat
  frm : Nat
  to : Nat
  number : Nat
  text : Nm
  vL : Value
  vK : Value
  p : Pc

def ksC (k : KS) : List Value := [.int .i64 k.n, k.vL, k.vK]
def nsC (n : NS) : List Value := [n.vL, n.vK, .int .i64 n.count, n.vKept, n.vAcked, .int .i64 n.made]
def msC (m : MS) : List Value := [.int .i64 m.kind, .int .i64 m.frm, .int .i64 m.to, .int .i64 m.number, strV m.text, m.vL, m.vK]
def intC (l : List Nat) : List Value := l.map fun (n : Nat) => .int .i64 (n : Int)
theorem ksW : FW ksC 3 := fun _ => rfl
theorem nsW : FW nsC 6 := fun _ => rfl
theorem msW : FW msC 7 := fun _ => rfl

def InS (S : Nat → Prop) (v : Value) : Prop := ∀ g, v.ownBlock = some g → S g
/-- What was S, and what has come since w, up to w'. -/
def Ext (S : Nat → Prop) (w w' : World) : Nat → Prop := fun b => S b ∨ (w.heap.size ≤ b ∧ b < w'.heap.size)

structure PieceR (w : World) (S : Nat → Prop) (vL vK : Value) (p : Pc) : Prop where
  L : EntR w vL p.L
  K : TokR w vK p.K
  sL : InS S vL
  sK : InS S vK
structure NodeR (w : World) (S : Nat → Prop) (n : NS) : Prop where
  pc : PieceR w S n.vL n.vK n.p
  kept : w.ownsRow 0 196 3 n.vKept n.kept.length (n.kept.flatMap ksC)
  sKept : InS S n.vKept
  keptP : ∀ k ∈ n.kept, PieceR w S k.vL k.vK k.p
  acked : w.ownsRow 0 3 1 n.vAcked n.acked.length (intC n.acked)
  sAcked : InS S n.vAcked
structure FlyR (w : World) (S : Nat → Prop) (vF : Value) (ms : List MS) : Prop where
  row : w.ownsRow 0 198 7 vF ms.length (ms.flatMap msC)
  s : InS S vF
  piece : ∀ m ∈ ms, PieceR w S m.vL m.vK m.p
/-- The document's world lies in memory, in the blocks of S. -/
structure RefR (w : World) (S : Nat → Prop) (p : Nat) (vN : Value) (ns : List NS) (vF : Value) (ms : List MS) (adds : Nat) : Prop where
  lt : ∀ b, S b → b < w.heap.size
  self : w.heap[p]? = some (.cells #[vN, vF, .int .i64 adds] 161 (0, 0))
  sp : S p
  nodes : w.ownsRow 0 168 6 vN ns.length (ns.flatMap nsC)
  sN : InS S vN
  node : ∀ n ∈ ns, NodeR w S n
  disK : ∀ (i j : Nat) (a b : NS) (g : Nat), ns[i]? = some a → ns[j]? = some b → a.vKept.ownBlock = some g → b.vKept.ownBlock = some g → i = j
  disA : ∀ (i j : Nat) (a b : NS) (g : Nat), ns[i]? = some a → ns[j]? = some b → a.vAcked.ownBlock = some g → b.vAcked.ownBlock = some g → i = j
  fly : FlyR w S vF ms

section
variable {w w' : World} {S S' : Nat → Prop} {B : Nat}
theorem InS.mono {v : Value} (h : InS S v) (hS : ∀ b, S b → S' b) : InS S' v := fun g hg => hS g (h g hg)
theorem PieceR.mono {vL vK : Value} {p : Pc} (h : PieceR w S vL vK p) (hS : ∀ b, S b → S' b) : PieceR w S' vL vK p := ⟨h.L, h.K, h.sL.mono hS, h.sK.mono hS⟩
theorem NodeR.mono {n : NS} (h : NodeR w S n) (hS : ∀ b, S b → S' b) : NodeR w S' n := ⟨h.pc.mono hS, h.kept, h.sKept.mono hS, fun k hk => (h.keptP k hk).mono hS, h.acked, h.sAcked.mono hS⟩
theorem FlyR.mono {vF : Value} {ms : List MS} (h : FlyR w S vF ms) (hS : ∀ b, S b → S' b) : FlyR w S' vF ms := ⟨h.row, h.s.mono hS, fun k hk => (h.piece k hk).mono hS⟩
/-- Blocks of S that are not among those that may turn. -/
def Off (S : Nat → Prop) (B : Nat) (S' : Nat → Prop) : Prop := ∀ b, S b → b < B ∧ ¬ S' b
theorem own_off {e size n : Nat} {v : Value} {xs : List Value} (h : w.ownsRow 0 e size v n xs) (hs : InS S v) (k : Kp B S' w w') (o : Off S B S') : w'.ownsRow 0 e size v n xs := own_kp h k (fun g hg => o g (hs g hg))
theorem PieceR.kp {vL vK : Value} {p : Pc} (h : PieceR w S vL vK p) (k : Kp B S' w w') (o : Off S B S') : PieceR w' S vL vK p := ⟨own_off h.L h.sL k o, own_off h.K h.sK k o, h.sL, h.sK⟩
theorem NodeR.kp {n : NS} (h : NodeR w S n) (k : Kp B S' w w') (o : Off S B S') : NodeR w' S n := ⟨h.pc.kp k o, own_off h.kept h.sKept k o, h.sKept, fun x hx => (h.keptP x hx).kp k o, own_off h.acked h.sAcked k o, h.sAcked⟩
theorem FlyR.kp {vF : Value} {ms : List MS} (h : FlyR w S vF ms) (k : Kp B S' w w') (o : Off S B S') : FlyR w' S vF ms := ⟨own_off h.row h.s k o, h.s, fun x hx => (h.piece x hx).kp k o⟩
theorem RefR.kp {p adds : Nat} {vN vF : Value} {ns : List NS} {ms : List MS} (h : RefR w S p vN ns vF ms adds) (k : Kp B S' w w') (o : Off S B S') : RefR w' S p vN ns vF ms adds :=
  ⟨fun b hb => Nat.lt_of_lt_of_le (h.lt b hb) k.size, (k.block p (o p h.sp).1 (o p h.sp).2).trans h.self, h.sp, own_off h.nodes h.sN k o, h.sN, fun n hn => (h.node n hn).kp k o, h.disK, h.disA, h.fly.kp k o⟩
theorem Off.none (h : ∀ b, S b → b < B) : Off S B NoS := fun b hb => ⟨h b hb, fun x => x⟩
theorem RefR.below {p adds : Nat} {vN vF : Value} {ns : List NS} {ms : List MS} (h : RefR w S p vN ns vF ms adds) (k : Below w.heap.size w w') : RefR w' S p vN ns vF ms adds := h.kp (Kp.ofBelow k) (Off.none h.lt)
theorem PieceR.below {vL vK : Value} {p : Pc} (h : PieceR w S vL vK p) (k : Below w.heap.size w w') : PieceR w' S vL vK p := ⟨h.L.below k, h.K.below k, h.sL, h.sK⟩
theorem NodeR.below {n : NS} (h : NodeR w S n) (k : Below w.heap.size w w') : NodeR w' S n := ⟨h.pc.below k, own_below h.kept k, h.sKept, fun x hx => (h.keptP x hx).below k, own_below h.acked k, h.sAcked⟩
theorem RefR.mono {p adds : Nat} {vN vF : Value} {ns : List NS} {ms : List MS} (h : RefR w S p vN ns vF ms adds) (hS : ∀ b, S b → S' b) (hl : ∀ b, S' b → b < w.heap.size) : RefR w S' p vN ns vF ms adds :=
  ⟨hl, h.self, hS _ h.sp, h.nodes, h.sN.mono hS, fun n hn => (h.node n hn).mono hS, h.disK, h.disA, h.fly.mono hS⟩
end

/-- The cells of a node, where it lies. -/
theorem RefR.at {w : World} {S : Nat → Prop} {p adds : Nat} {vN vF : Value} {ns : List NS} {ms : List MS} (h : RefR w S p vN ns vF ms adds) {i : Nat} {d : NS} (hd : ns[i]? = some d) :
    ∃ g c, vN = .slice (some ⟨g, 0, none⟩) ns.length c ∧ S g ∧ g < w.heap.size ∧ g ≠ p ∧ (∀ j, j < 6 → w.cell? ⟨g, i * 6 + j, none⟩ = (nsC d)[j]?) ∧ (∀ j, w.frozen? ⟨g, j, none⟩ = false) := by
  have hi : i < ns.length := by
    rcases Nat.lt_or_ge i ns.length with h | h
    · exact h
    · rw [List.getElem?_eq_none h] at hd; cases hd
  rcases h.nodes.2 with ⟨_, h0⟩ | ⟨g, cap, cur, rfl, hb, hgg, h1, h2, h3, h4⟩
  · omega
  · refine ⟨g, cap, rfl, h.sN g rfl, lt_of_heap hgg, ?_, fun j hj => ?_, (row_facts hgg).2⟩
    · rintro rfl
      have := h.self.symm.trans hgg
      simp at this
    · rw [← flat_get nsW ns i j d hd hj]
      have hx : i * 6 + j < (ns.flatMap nsC).length := by rw [flat_len nsW]; omega
      obtain ⟨u, hu⟩ := get_some hx
      rw [hu]
      exact own_cell h.nodes rfl hu
end Go.Proofs.YtnniimfinakioaaGreatDoor
namespace Go.Proofs.YtnniimfinakioaaGreatDoor
open Go.RowKit
attribute [local go_sem ↓] eqTok eqEnt
attribute [local go_sem] toList_nm app_nm size_nm
theorem get_nm (s : Nm) (k : Nat) (h : k < (ByteArray.mk s.toArray).size) : (ByteArray.mk s.toArray)[k]'h = s[k]'(by rw [size_nm] at h; exact h) := rfl
attribute [local go_sem] get_nm

abbrev ptr (p : Nat) : Value := .pointer (some ⟨p, 0, none⟩)

set_option maxHeartbeats 400000 in
theorem is_yes (w : World) (S : Nat → Prop) (p : Nat) (vN : Value) (ns : List NS) (vF : Value) (ms : List MS) (adds : Nat) (h : RefR w S p vN ns vF ms adds) (i : Nat) (hi : i < ns.length) (_hl : ns.length ≤ 1000) :
    Calls Tryz.prog 132 #[ptr p, .int .i64 i] w fun e w' => e = .returned (.bool true) ∧ w = w' := by
  obtain ⟨o, c, rfl, _, _⟩ := own_form h.nodes
  obtain ⟨e1, _⟩ := row_facts h.self
  have h1 : (0 : Int) ≤ (i : Int) := by omega
  have h2 : (i : Int) < (ns.length : Int) := by omega
  go_enter Tryz.func132, Tryz.ntmps132
  go_wp2
  go_ret
  exact ⟨rfl, rfl⟩

set_option maxHeartbeats 400000 in
theorem is_no (w : World) (S : Nat → Prop) (p : Nat) (vN : Value) (ns : List NS) (vF : Value) (ms : List MS) (adds : Nat) (h : RefR w S p vN ns vF ms adds) (i : Int) (hi : i < 0 ∨ (ns.length : Int) ≤ i) (_hl : ns.length ≤ 1000) :
    Calls Tryz.prog 132 #[ptr p, .int .i64 i] w fun e w' => e = .returned (.bool false) ∧ w = w' := by
  obtain ⟨o, c, rfl, _, _⟩ := own_form h.nodes
  obtain ⟨e1, _⟩ := row_facts h.self
  by_cases h1 : i < 0
  · have h1' : decide ((0 : Int) ≤ i) = false := by simp; omega
    go_enter Tryz.func132, Tryz.ntmps132
    go_wp2
    go_ret
    exact ⟨rfl, rfl⟩
  · have h1' : (0 : Int) ≤ i := by omega
    have h2 : decide (i < (ns.length : Int)) = false := by simp; omega
    clear hi h1
    go_enter Tryz.func132, Tryz.ntmps132
    go_wp2
    go_ret
    exact ⟨rfl, rfl⟩

def lowB (c : UInt8) : Bool := decide (97 ≤ c.toNat) && decide (c.toNat ≤ 122)
def nameB (s : Nm) : Bool := s.all lowB && (decide (1 ≤ s.length) && decide (s.length ≤ 8))

set_option maxHeartbeats 400000 in
theorem isName_any (s : Nm) (w : World) (hs : s.length ≤ 2000000) :
    Calls Tryz.prog 134 #[strV s] w fun e w' => e = .returned (.bool (nameB s)) ∧ w = w' := by
  go_enter Tryz.func134, Tryz.ntmps134
  go_wp2
  go_loop [3] (fun i => ∃ k : Nat, k ≤ s.length ∧ i = .int .i64 k ∧ (s.take k).all lowB = true) (fun i => s.length - (intOf i).toNat)
  case atStart => exact ⟨0, Nat.zero_le _, rfl, by simp⟩
  case round =>
    obtain ⟨k, hk, rfl, ha⟩ := hrel
    have HA := hide ha
    clear ha
    by_cases hlt : k < s.length
    · obtain ⟨x, hx⟩ := get_some hlt
      have hx' : s[k] = x := by rw [List.getElem?_eq_getElem hlt] at hx; simpa using hx
      have Hx := hide hx
      clear hx
      have hT : (s.take (k + 1)).all lowB = lowB x := by rw [take_snoc' Hx.out, List.all_append, HA.out]; simp
      have HT := hide hT
      clear hT
      have hN : lowB x = false → nameB s = false := fun h => by
        have : s.all lowB = false := by
          rw [List.all_eq_false]
          exact ⟨x, List.mem_of_getElem? Hx.out, by simp [h]⟩
        simp [nameB, this]
      have HN := hide hN
      clear hN
      by_cases h1 : (x.toNat : Int) < 97
      · go_wp2
        go_ret
        exact ⟨ret_bool (HN.out (by simp [lowB]; omega)).symm, rfl⟩
      · have h1' : decide ((x.toNat : Int) < 97) = false := by simpa using h1
        by_cases h2 : (122 : Int) < x.toNat
        · go_wp2
          go_ret
          exact ⟨ret_bool (HN.out (by simp [lowB]; omega)).symm, rfl⟩
        · have h2' : decide ((122 : Int) < (x.toNat : Int)) = false := by simpa using h2
          have hlow : lowB x = true := by simp [lowB]; omega
          have HL := hide hlow
          clear hlow
          go_wp2
          refine ⟨⟨k + 1, by omega, by go_num, by rw [HT.out, HL.out]⟩, by simp [intOf]; omega⟩
    · have hkl : k = s.length := by omega
      subst hkl
      have hA : s.all lowB = true := by have := HA.out; rw [List.take_of_length_le (Nat.le_refl _)] at this; exact this
      have HB := hide hA
      clear hA
      by_cases h1 : (1 : Int) ≤ (s.length : Int)
      · go_wp2
        go_ret
        refine ⟨ret_bool ?_, rfl⟩
        have : 1 ≤ s.length := by omega
        simp only [nameB, HB.out, Bool.true_and, this]
        rw [Bool.eq_iff_iff]
        simp
        omega
      · have h1' : decide ((1 : Int) ≤ (s.length : Int)) = false := by simpa using h1
        go_wp2
        go_ret
        refine ⟨ret_bool ?_, rfl⟩
        have : ¬ 1 ≤ s.length := by omega
        simp only [nameB, HB.out, Bool.true_and, this]
        rfl
end Go.Proofs.YtnniimfinakioaaGreatDoor
namespace Go.Proofs.YtnniimfinakioaaGreatDoor
open Go.RowKit
attribute [local go_sem ↓] eqTok eqEnt
attribute [local go_sem] toList_nm app_nm size_nm

def joinP (a b : Pc) : Pc := ⟨joinL a.L a.K b.L b.K, joinK a.K b.K⟩
def SmallP (p : Pc) : Prop := p.L.length ≤ 100000 ∧ p.K.length ≤ 100000

/-! What turns are blocks of elements of one type: rows of another type stay. -/
def OfT (w : World) (S' : Nat → Prop) (E : Nat) : Prop := ∀ b, S' b → ∃ c fz, w.heap[b]? = some (.cells c E fz)
section
variable {w w' : World} {S S' : Nat → Prop} {B E : Nat}
theorem own_kpE {e size n : Nat} {v : Value} {xs : List Value} (h : w.ownsRow 0 e size v n xs) (k : Kp B S' w w') (hB : w.heap.size ≤ B) (hT : OfT w S' E) (hne : e ≠ E) : w'.ownsRow 0 e size v n xs :=
  own_kp h k (fun g hg => ⟨Nat.lt_of_lt_of_le (h.lt g hg).2 hB, fun hs => by
    obtain ⟨c, fz, hc⟩ := hT g hs
    rcases h.2 with ⟨rfl, _⟩ | ⟨g', cap, cur, rfl, _, hgg, _⟩
    · simp [Value.ownBlock] at hg
    · simp [Value.ownBlock] at hg
      subst hg
      rw [hc] at hgg
      simp at hgg
      exact hne hgg.2.1.symm⟩)
theorem PieceR.kpE {vL vK : Value} {p : Pc} (h : PieceR w S vL vK p) (k : Kp B S' w w') (hB : w.heap.size ≤ B) (hT : OfT w S' E) (h1 : 194 ≠ E) (h2 : 192 ≠ E) : PieceR w' S vL vK p :=
  ⟨own_kpE h.L k hB hT h1, own_kpE h.K k hB hT h2, h.sL, h.sK⟩
theorem NodeR.kpE {n : NS} (h : NodeR w S n) (k : Kp B S' w w') (hB : w.heap.size ≤ B) (hT : OfT w S' E) (h1 : 194 ≠ E) (h2 : 192 ≠ E) (h3 : 196 ≠ E) (h4 : 3 ≠ E) : NodeR w' S n :=
  ⟨h.pc.kpE k hB hT h1 h2, own_kpE h.kept k hB hT h3, h.sKept, fun x hx => (h.keptP x hx).kpE k hB hT h1 h2, own_kpE h.acked k hB hT h4, h.sAcked⟩
theorem FlyR.kpE {vF : Value} {ms : List MS} (h : FlyR w S vF ms) (k : Kp B S' w w') (hB : w.heap.size ≤ B) (hT : OfT w S' E) (h1 : 194 ≠ E) (h2 : 192 ≠ E) (h3 : 198 ≠ E) : FlyR w' S vF ms :=
  ⟨own_kpE h.row k hB hT h3, h.s, fun x hx => (h.piece x hx).kpE k hB hT h1 h2⟩
theorem Kp.ofGrown {row : Option Nat} (hg : w.grownBy w' row) : Kp w.heap.size (fun b => row = some b) w w' :=
  ⟨hg.os, hg.tape, hg.output, hg.size, fun k hk hs => hg.block k hk (fun e => hs e.symm)⟩
theorem Kp.set1 (w : World) (g j : Nat) (v : Value) : Kp w.heap.size (fun b => b = g) w (w.setCell ⟨g, j, none⟩ v) := (Kp.refl w.heap.size (fun b => b = g) w).setCell (p := ⟨g, j, none⟩) (Or.inr rfl) v
theorem OfT.row {e size n g : Nat} {v : Value} {xs : List Value} (h : w.ownsRow 0 e size v n xs) (hg : v.ownBlock = some g) : OfT w (fun b => b = g) e := by
  rintro b rfl
  rcases h.2 with ⟨rfl, _⟩ | ⟨g', cap, cur, rfl, _, hgg, _⟩
  · simp [Value.ownBlock] at hg
  · simp [Value.ownBlock] at hg
    subst hg
    exact ⟨_, _, hgg⟩
theorem OfT.own {e size n : Nat} {v : Value} {xs : List Value} (h : w.ownsRow 0 e size v n xs) : OfT w (fun b => v.ownBlock = some b) e := by
  intro b hb
  obtain ⟨c, fz, hc⟩ := OfT.row h hb b rfl
  exact ⟨c, fz, hc⟩
end
/-- A world in which, of what was there, only blocks of S' have turned. -/
structure GrS (W : World) (S' : Nat → Prop) where
  w : World
  h : Kp W.heap.size S' W w
theorem GrS.cell (W : World) (S' : Nat → Prop) : ∀ (x : GrS W S') (b j : Nat), b < W.heap.size → ¬ S' b → x.w.cell? ⟨b, j, none⟩ = W.cell? ⟨b, j, none⟩ := fun x b j h hs => x.h.cell (p := ⟨b, j, none⟩) h hs
theorem GrS.some (W : World) (S' : Nat → Prop) : Nonempty (GrS W S') := ⟨⟨W, Kp.refl _ _ _⟩⟩
theorem own_ne {w : World} {e e' size n b : Nat} {v : Value} {xs : List Value} {c : Array Value} {fz : Nat × Nat} (h : w.ownsRow 0 e size v n xs) (hb : w.heap[b]? = some (.cells c e' fz)) (hne : e ≠ e') : ¬ v.ownBlock = some b := by
  intro hg
  obtain ⟨c', fz', hc⟩ := OfT.row h hg b rfl
  rw [hb] at hc
  simp at hc
  exact hne hc.2.1.symm

/-- The row of nodes, and what becomes of it when one cell is set. -/
def NdR (w : World) (vN : Value) (ns : List NS) : Prop := w.ownsRow 0 168 6 vN ns.length (ns.flatMap nsC)
theorem NdR.set {w : World} {g c j : Nat} {ns : List NS} (h : NdR w (.slice (some ⟨g, 0, none⟩) ns.length c) ns) {i : Nat} {d d' : NS} {u : Value} (hd : ns[i]? = some d) (hj : j < 6) (h' : nsC d' = (nsC d).set j u) :
    NdR (w.setCell ⟨g, i * 6 + j, none⟩ u) (.slice (some ⟨g, 0, none⟩) ns.length c) (ns.set i d') := by
  have hi : i < ns.length := (List.getElem?_eq_some_iff.1 hd).1
  have := own_set (g := g) (j := i * 6 + j) (u := u) h rfl (by rw [flat_len nsW]; omega)
  unfold NdR
  rw [List.length_set, ← flat_set nsW ns i j d d' u hd hj h']
  exact this
theorem NdR.cells {w : World} {g c : Nat} {ns : List NS} {l : Nat} (h : NdR w (.slice (some ⟨g, 0, none⟩) l c) ns) {i : Nat} {d : NS} (hd : ns[i]? = some d) :
    (∀ j, j < 6 → w.cell? ⟨g, i * 6 + j, none⟩ = (nsC d)[j]?) ∧ (∀ j, w.frozen? ⟨g, j, none⟩ = false) := by
  have hi : i < ns.length := (List.getElem?_eq_some_iff.1 hd).1
  rcases h.2 with ⟨hx, h0⟩ | ⟨g', cap, cur, hx, hb, hgg, h1, h2, h3, h4⟩
  · omega
  · simp only [Value.slice.injEq, Option.some.injEq, Addr.mk.injEq, and_true] at hx
    obtain ⟨rfl, _, _⟩ := hx
    refine ⟨fun j hj => ?_, (row_facts hgg).2⟩
    rw [← flat_get nsW ns i j d hd hj]
    have hx : i * 6 + j < (ns.flatMap nsC).length := by rw [flat_len nsW]; omega
    obtain ⟨u, hu⟩ := get_some hx
    rw [hu]
    exact own_cell h rfl hu
theorem set_get {α : Type} {l : List α} {i : Nat} {a b : α} (h : l[i]? = some a) : (l.set i b)[i]? = some b := by
  have hi : i < l.length := (List.getElem?_eq_some_iff.1 h).1
  simp [hi]


theorem set_at {α : Type} {l : List α} {i j : Nat} {b x : α} (h : (l.set i b)[j]? = some x) : (i = j ∧ x = b) ∨ (i ≠ j ∧ l[j]? = some x) := by
  rw [List.getElem?_set] at h
  split at h
  · rename_i e
    split at h
    · exact Or.inl ⟨e, by simpa using h.symm⟩
    · cases h
  · rename_i e
    exact Or.inr ⟨e, h⟩
theorem Ext.of {S : Nat → Prop} {w w' : World} {b : Nat} (h : S b) : Ext S w w' b := Or.inl h

theorem news_done {w w2 w3 : World} {S Sx : Nat → Prop} {p g c adds i : Nat} {ns : List NS} {vF vL vK vL' vK' v3 : Value} {ms : List MS} {d : NS} {q : Pc}
    (h : RefR w S p (.slice (some ⟨g, 0, none⟩) ns.length c) ns vF ms adds) (hd : ns[i]? = some d) (hSg : S g) (hgp : g ≠ p) (hK2 : Kp w.heap.size S w w2)
    (nd2 : ∀ n ∈ ns, NodeR w2 S n) (fl2 : FlyR w2 S vF ms) (self2 : w2.heap[p]? = some (.cells #[.slice (some ⟨g, 0, none⟩) ns.length c, vF, .int .i64 adds] 161 (0, 0)))
    (jL : EntR w2 vL' (joinP d.p q).L) (jK : TokR w2 vK' (joinP d.p q).K) (nL : ∀ g, vL'.ownBlock = some g → w.heap.size ≤ g) (nK : ∀ g, vK'.ownBlock = some g → w.heap.size ≤ g)
    (hqq : PieceR w2 S vL vK q) (n3 : NdR w3 (.slice (some ⟨g, 0, none⟩) ns.length c) (ns.set i { d with vL := vL', vK := vK', p := joinP d.p q }))
    (hSx : Sx = fun b => d.vKept.ownBlock = some b) (kp3 : Kp w2.heap.size Sx w2 w3)
    (hown3 : w3.ownsRow 0 196 3 v3 (d.kept.length + 1) (d.kept.flatMap ksC ++ ksC ⟨d.count, vL, vK, q⟩)) (hat3 : v3.ownBlock = d.vKept.ownBlock ∨ v3.ownBlock = some (w2.heap.size + 1)) :
    RefR ((w3.setCell ⟨g, i * 6 + 3, none⟩ v3).setCell ⟨g, i * 6 + 2, none⟩ (.int .i64 ((d.count + 1 : Nat) : Int))) (Ext S w ((w3.setCell ⟨g, i * 6 + 3, none⟩ v3).setCell ⟨g, i * 6 + 2, none⟩ (.int .i64 ((d.count + 1 : Nat) : Int)))) p (.slice (some ⟨g, 0, none⟩) ns.length c)
      (ns.set i { d with vL := vL', vK := vK', p := joinP d.p q, count := d.count + 1, vKept := v3, kept := d.kept ++ [⟨d.count, vL, vK, q⟩] }) vF ms adds ∧
    Kp w.heap.size S w ((w3.setCell ⟨g, i * 6 + 3, none⟩ v3).setCell ⟨g, i * 6 + 2, none⟩ (.int .i64 ((d.count + 1 : Nat) : Int))) := by
  have hn := h.node d (List.mem_of_getElem? hd)
  have hl : ∀ x : NS, (ns.set i x).length = ns.length := fun x => List.length_set
  -- the last two stores
  have ot3 : OfT w3 (fun b => b = g) 168 := OfT.row n3 rfl
  have kp5 : Kp w3.heap.size (fun b => b = g) w3 ((w3.setCell ⟨g, i * 6 + 3, none⟩ v3).setCell ⟨g, i * 6 + 2, none⟩ (.int .i64 ((d.count + 1 : Nat) : Int))) := (Kp.set1 w3 g _ _).setCell (p := ⟨g, i * 6 + 2, none⟩) (Or.inr rfl) _
  have n5 : NdR ((w3.setCell ⟨g, i * 6 + 3, none⟩ v3).setCell ⟨g, i * 6 + 2, none⟩ (.int .i64 ((d.count + 1 : Nat) : Int))) (.slice (some ⟨g, 0, none⟩) ns.length c)
      (ns.set i { d with vL := vL', vK := vK', p := joinP d.p q, count := d.count + 1, vKept := v3, kept := d.kept ++ [⟨d.count, vL, vK, q⟩] }) := by
    have e1 := n3
    rw [← hl { d with vL := vL', vK := vK', p := joinP d.p q }] at e1
    have e2 := NdR.set (j := 3) (u := v3) (d' := { d with vL := vL', vK := vK', p := joinP d.p q, vKept := v3, kept := d.kept ++ [⟨d.count, vL, vK, q⟩] }) e1 (set_get hd) (by decide) rfl
    rw [List.set_set, hl] at e2
    rw [← hl { d with vL := vL', vK := vK', p := joinP d.p q, vKept := v3, kept := d.kept ++ [⟨d.count, vL, vK, q⟩] }] at e2
    have e3 := NdR.set (j := 2) (u := .int .i64 ((d.count + 1 : Nat) : Int)) (d' := { d with vL := vL', vK := vK', p := joinP d.p q, count := d.count + 1, vKept := v3, kept := d.kept ++ [⟨d.count, vL, vK, q⟩] }) e2 (set_get hd) (by decide) rfl
    rw [List.set_set, hl] at e3
    exact e3
  generalize (w3.setCell ⟨g, i * 6 + 3, none⟩ v3).setCell ⟨g, i * 6 + 2, none⟩ (.int .i64 ((d.count + 1 : Nat) : Int)) = w5 at *
  have hs2 := hK2.size
  have hs3 := kp3.size
  have hs5 := kp5.size
  have otx : OfT w2 Sx 196 := by rw [hSx]; exact OfT.own (nd2 d (List.mem_of_getElem? hd)).kept
  have hSxS : ∀ b, Sx b → S b := fun b hb => by rw [hSx] at hb; exact hn.sKept b hb
  have hplt : p < w.heap.size := h.lt p h.sp
  have hpx : ¬ Sx p := fun hx => by
    obtain ⟨c', fz, hc⟩ := otx p hx
    rw [self2] at hc
    simp at hc
  have kpAll : Kp w.heap.size S w w5 := (hK2.trans (kp3.mono hs2 (fun b _ hb => hSxS b hb))).trans (kp5.mono (Nat.le_trans hs2 hs3) (fun b _ hb => hb ▸ hSg))
  -- what is carried on to the end
  have pce : ∀ {a b : Value} {r : Pc}, PieceR w2 S a b r → PieceR w5 S a b r := fun hp => (hp.kpE kp3 (Nat.le_refl _) otx (by decide) (by decide)).kpE kp5 (Nat.le_refl _) ot3 (by decide) (by decide)
  have ak : ∀ {n : NS}, NodeR w2 S n → w5.ownsRow 0 3 1 n.vAcked n.acked.length (intC n.acked) := fun hp => own_kpE (own_kpE hp.acked kp3 (Nat.le_refl _) otx (by decide)) kp5 (Nat.le_refl _) ot3 (by decide)
  have hmono : ∀ b, S b → Ext S w w5 b := fun b hb => Or.inl hb
  have jL5 : EntR w5 vL' (joinP d.p q).L := own_kpE (own_kpE jL kp3 (Nat.le_refl _) otx (by decide)) kp5 (Nat.le_refl _) ot3 (by decide)
  have jK5 : TokR w5 vK' (joinP d.p q).K := own_kpE (own_kpE jK kp3 (Nat.le_refl _) otx (by decide)) kp5 (Nat.le_refl _) ot3 (by decide)
  have hown5 := own_kpE hown3 kp5 (Nat.le_refl _) ot3 (by decide)
  refine ⟨⟨?_, ?_, hmono p h.sp, ?_, h.sN.mono hmono, ?_, ?_, ?_, ?_⟩, kpAll⟩
  · rintro b (hb | hb)
    · exact Nat.lt_of_lt_of_le (h.lt b hb) kpAll.size
    · exact hb.2
  · exact (kp5.block p (by omega) (Ne.symm hgp)).trans ((kp3.block p (by omega) hpx).trans self2)
  · exact n5
  · intro n hnm
    obtain ⟨j, hj⟩ := List.mem_iff_getElem?.1 hnm
    rcases set_at hj with ⟨rfl, rfl⟩ | ⟨hij, hj⟩
    · have hd2 := nd2 d (List.mem_of_getElem? hd)
      refine ⟨⟨jL5, jK5, fun b hb => Or.inr ⟨nL b hb, (jL5.lt b hb).2⟩, fun b hb => Or.inr ⟨nK b hb, (jK5.lt b hb).2⟩⟩, ?_, ?_, ?_, ak (n := d) hd2, hd2.sAcked.mono hmono⟩
      · have e1 : (d.kept ++ [(⟨d.count, vL, vK, q⟩ : KS)]).length = d.kept.length + 1 := by simp
        have e2 : (d.kept ++ [(⟨d.count, vL, vK, q⟩ : KS)]).flatMap ksC = d.kept.flatMap ksC ++ ksC ⟨d.count, vL, vK, q⟩ := by simp
        show w5.ownsRow 0 196 3 v3 (d.kept ++ [(⟨d.count, vL, vK, q⟩ : KS)]).length ((d.kept ++ [(⟨d.count, vL, vK, q⟩ : KS)]).flatMap ksC)
        rw [e1, e2]
        exact hown5
      · intro b hb
        rcases hat3 with e | e
        · exact Or.inl (hn.sKept b (e ▸ hb))
        · refine Or.inr ⟨?_, (hown5.lt b hb).2⟩
          have hb' : v3.ownBlock = some b := hb
          rw [e] at hb'
          simp only [Option.some.injEq] at hb'
          omega
      · intro k hk
        simp only [List.mem_append, List.mem_singleton] at hk
        rcases hk with hk | rfl
        · exact (pce (hd2.keptP k hk)).mono hmono
        · exact (pce hqq).mono hmono
    · have hn2 := nd2 n (List.mem_of_getElem? hj)
      refine NodeR.mono (S := S) ⟨pce hn2.pc, ?_, hn2.sKept, fun k hk => pce (hn2.keptP k hk), ak hn2, hn2.sAcked⟩ hmono
      refine own_kpE (own_kp hn2.kept kp3 (fun b hb => ⟨(hn2.kept.lt b hb).2, fun hx => ?_⟩)) kp5 (Nat.le_refl _) ot3 (by decide)
      rw [hSx] at hx
      exact hij (h.disK i j d n b hd hj hx hb)
  · intro a b x y b' ha hb h1 h2
    have fresh : ∀ (j : Nat) (n : NS), ns[j]? = some n → i ≠ j → v3.ownBlock = some b' → n.vKept.ownBlock = some b' → False := fun j n hj hij e1 e2 => by
      rcases hat3 with e | e
      · exact hij (h.disK i j d n b' hd hj (e ▸ e1) e2)
      · have := h.lt b' ((h.node n (List.mem_of_getElem? hj)).sKept b' e2)
        rw [e] at e1
        simp only [Option.some.injEq] at e1
        omega
    rcases set_at ha with ⟨rfl, rfl⟩ | ⟨hia, ha⟩ <;> rcases set_at hb with ⟨rfl, rfl⟩ | ⟨hib, hb⟩
    · rfl
    · exact (fresh b y hb hib h1 h2).elim
    · exact (fresh a x ha hia h2 h1).elim
    · exact h.disK a b x y b' ha hb h1 h2
  · intro a b x y b' ha hb h1 h2
    rcases set_at ha with ⟨rfl, rfl⟩ | ⟨hia, ha⟩ <;> rcases set_at hb with ⟨rfl, rfl⟩ | ⟨hib, hb⟩
    · rfl
    · exact h.disA _ _ _ _ b' hd hb h1 h2
    · exact h.disA _ _ _ _ b' ha hd h1 h2
    · exact h.disA _ _ _ _ b' ha hb h1 h2
  · exact ((fl2.kpE kp3 (Nat.le_refl _) otx (by decide) (by decide) (by decide)).kpE kp5 (Nat.le_refl _) ot3 (by decide) (by decide) (by decide)).mono hmono
end Go.Proofs.YtnniimfinakioaaGreatDoor
namespace Go.Proofs.YtnniimfinakioaaGreatDoor
open Go.RowKit
attribute [local go_sem ↓] eqTok eqEnt
attribute [local go_sem] toList_nm app_nm size_nm

set_option maxHeartbeats 1000000 in
set_option maxRecDepth 100000 in
theorem news_any (w : World) (S : Nat → Prop) (p : Nat) (vN : Value) (ns : List NS) (vF : Value) (ms : List MS) (adds : Nat) (h : RefR w S p vN ns vF ms adds) (i : Nat) (d : NS) (hd : ns[i]? = some d)
    (vL vK : Value) (q : Pc) (hq : PieceR w S vL vK q) (hdp : SmallP d.p) (hqs : SmallP q) (hc : d.count ≤ 1000000000) (hk : d.kept.length ≤ 1000000000) :
    Calls Tryz.prog 138 #[ptr p, .int .i64 i, .agg #[vL, vK]] w fun e w' => e = .returned (.tuple #[]) ∧
      (∃ vL' vK' vKept', RefR w' (Ext S w w') p vN (ns.set i { d with vL := vL', vK := vK', p := joinP d.p q, count := d.count + 1, vKept := vKept', kept := d.kept ++ [⟨d.count, vL, vK, q⟩] }) vF ms adds) ∧ Kp w.heap.size S w w' := by
  obtain ⟨g, c, rfl, hSg, hg, hgp, hcell, hfz⟩ := h.at hd
  have hnd := h.node d (List.mem_of_getElem? hd)
  have hilt : i < ns.length := (List.getElem?_eq_some_iff.1 hd).1
  obtain ⟨e1, f1⟩ := row_facts h.self
  obtain ⟨oL, cL, rfl, _, _⟩ := hq.L.form
  obtain ⟨oK, cK, rfl, _, _⟩ := hq.K.form
  have c0 := hcell 0 (by decide)
  have c1 := hcell 1 (by decide)
  have c2 := hcell 2 (by decide)
  have c3 := hcell 3 (by decide)
  simp only [nsC, List.getElem?_cons_zero, List.getElem?_cons_succ, Nat.add_zero] at c0 c1 c2 c3
  clear hcell
  have hb0 : Below (w.heap.size + 1) (w.alloc (.cells #[.slice oL q.L.length cL, .slice oK q.K.length cK] 165)) (w.alloc (.cells #[.slice oL q.L.length cL, .slice oK q.K.length cK] 165)) := Below.refl _ _
  have hplt : p < w.heap.size := lt_of_heap h.self
  go_enter Tryz.func138, Tryz.ntmps138
  go_wp2_with fail
  obtain ⟨b1, b2, b3, b4, b5⟩ := bx1 hb0
  clear hb0
  generalize w.alloc (.cells #[.slice oL q.L.length cL, .slice oK q.K.length cK] 165) = W0 at *
  have k0 : W0.cell? ⟨g, i * 6, none⟩ = some d.vL := (b3 g _ hg).trans c0
  have k1 : W0.cell? ⟨g, i * 6 + 1, none⟩ = some d.vK := (b3 g _ hg).trans c1
  have k2 : W0.cell? ⟨w.heap.size, 0, none⟩ = some (.slice oL q.L.length cL) := b1 0
  have k3 : W0.cell? ⟨w.heap.size, 1, none⟩ = some (.slice oK q.K.length cK) := b1 1
  obtain ⟨odL, cdL, hdL, _, _⟩ := hnd.pc.L.form
  obtain ⟨odK, cdK, hdK, _, _⟩ := hnd.pc.K.form
  have hgW : g < W0.heap.size := by omega
  have hwW : w.heap.size < W0.heap.size := by omega
  have b4' : Below w.heap.size w W0.drew := b4.drew
  have jL : EntR W0.drew d.vL d.p.L := hnd.pc.L.below b4'
  have jK : TokR W0.drew d.vK d.p.K := hnd.pc.K.below b4'
  have jL2 : EntR W0.drew (.slice oL q.L.length cL) q.L := hq.L.below b4'
  have jK2 : TokR W0.drew (.slice oK q.K.length cK) q.K := hq.K.below b4'
  rw [hdL] at k0 jL
  rw [hdK] at k1 jK
  have HdL := hide hdL
  have HdK := hide hdK
  have Hc2 := hide c2
  have Hc3 := hide c3
  have Hb3 := hide b3
  clear hdL hdK b1 b2 c0 c1 c2 c3 e1 f1 b3
  have hG := Grw.cell W0
  have hGn := Grw.some W0
  refine wp_region_flt [0, 1, 2, 3, 4, 5] [6, 7, 8, 9] (fun w' => ∃ x : Grw W0, w' = x.w) (by kernel_rfl) (by kernel_rfl) (fun _ _ d _ _ h => by cases d <;> exact h) ⟨⟨W0.drew, (Below.refl _ _).drew⟩, rfl⟩ ?_
  simp only [pickOps, List.getElem?_cons_zero, List.getElem?_cons_succ]
  repeat (go_big_quiet_step (fail))
  refine wpQuiet_nil ?_
  refine ⟨_, rfl, ?_⟩
  go_wp2_with fail
  refine (joined_any _ _ _ _ d.p.L q.L d.p.K q.K W0.drew jL jK jL2 jK2 hdp.1 hdp.2 hqs.1 hqs.2).mono ?_
  rintro e w1 ⟨vL', vK', rfl, hJL, hJK, hnL, hnK, hb1⟩
  go_wp2_with fail
  have hb1' : Below W0.heap.size W0 w1 := ⟨hb1.os, hb1.tape, hb1.output, hb1.size, hb1.block⟩
  have hw1 : Below w.heap.size w w1 := b4.trans (hb1'.mono b4.size)
  obtain ⟨oJL, cJL, rfl, _, _⟩ := hJL.form
  obtain ⟨oJK, cJK, rfl, _, _⟩ := hJK.form
  have hr1 := h.below hw1
  have hn1 : NdR w1 (.slice (some ⟨g, 0, none⟩) ns.length c) ns := hr1.nodes
  obtain ⟨q1, q2⟩ := hn1.cells hd
  have r0 := q1 0 (by decide)
  have r1 := q1 1 (by decide)
  simp only [nsC, List.getElem?_cons_zero, List.getElem?_cons_succ, Nat.add_zero] at r0 r1
  clear q1
  refine ⟨fun _ => ⟨⟨w1, hb1'⟩, rfl⟩, _, rfl, ?_⟩
  go_wp2_with fail
  refine ⟨fun _ => ⟨⟨w1, hb1'⟩, rfl⟩, _, rfl, ?_⟩
  go_wp2_with fail
  refine ⟨fun _ => ⟨⟨w1, hb1'⟩, rfl⟩, _, rfl, ?_⟩
  go_wp2_with fail
  refine ⟨fun h => absurd rfl h, ?_⟩
  show Exit.then _ _ _ _ _
  go_wp2_with fail
  -- the world behind the first store
  have hp1 : p ≠ g := Ne.symm hgp
  have kp2 : Kp w1.heap.size (fun b => b = g) w1 ((w1.setCell ⟨g, i * 6, none⟩ (.slice oJL (joinL d.p.L d.p.K q.L q.K).length cJL)).setCell ⟨g, i * 6 + 1, none⟩ (.slice oJK (joinK d.p.K q.K).length cJK)) :=
    (Kp.set1 w1 g _ _).setCell (p := ⟨g, i * 6 + 1, none⟩) (Or.inr rfl) _
  have n2 : NdR ((w1.setCell ⟨g, i * 6, none⟩ (.slice oJL (joinL d.p.L d.p.K q.L q.K).length cJL)).setCell ⟨g, i * 6 + 1, none⟩ (.slice oJK (joinK d.p.K q.K).length cJK)) (.slice (some ⟨g, 0, none⟩) ns.length c)
      ((ns.set i { d with vL := .slice oJL (joinL d.p.L d.p.K q.L q.K).length cJL, p := joinP d.p q }).set i { d with vL := .slice oJL (joinL d.p.L d.p.K q.L q.K).length cJL, vK := .slice oJK (joinK d.p.K q.K).length cJK, p := joinP d.p q }) := by
    have s1 := hn1.set (j := 0) (u := .slice oJL (joinL d.p.L d.p.K q.L q.K).length cJL) (d' := { d with vL := .slice oJL (joinL d.p.L d.p.K q.L q.K).length cJL, p := joinP d.p q }) hd (by decide) rfl
    have hl : (ns.set i { d with vL := .slice oJL (joinL d.p.L d.p.K q.L q.K).length cJL, p := joinP d.p q }).length = ns.length := List.length_set
    rw [← hl] at s1 ⊢
    exact NdR.set (j := 1) s1 (set_get hd) (by decide) rfl
  rw [List.set_set] at n2
  have ot1 : OfT w1 (fun b => b = g) 168 := OfT.row hn1 rfl
  have nd2 := fun n hn => (hr1.node n hn).kpE kp2 (Nat.le_refl _) ot1 (by decide) (by decide) (by decide) (by decide)
  have fl2 := hr1.fly.kpE kp2 (Nat.le_refl _) ot1 (by decide) (by decide) (by decide)
  have self2 := (kp2.block p (lt_of_heap hr1.self) hp1).trans hr1.self
  have jL' : EntR _ _ _ := own_kpE hJL kp2 (Nat.le_refl _) ot1 (by decide)
  have jK' : TokR _ _ _ := own_kpE hJK kp2 (Nat.le_refl _) ot1 (by decide)
  have hqq := (hq.below hw1).kpE kp2 (Nat.le_refl _) ot1 (by decide) (by decide)
  have x0 := (kp2.cell (p := ⟨w.heap.size, 0, none⟩) (Nat.lt_of_lt_of_le hwW hb1'.size) (by simp; omega)).trans ((hb1'.cell (p := ⟨w.heap.size, 0, none⟩) hwW).trans k2)
  have x1 := (kp2.cell (p := ⟨w.heap.size, 1, none⟩) (Nat.lt_of_lt_of_le hwW hb1'.size) (by simp; omega)).trans ((hb1'.cell (p := ⟨w.heap.size, 1, none⟩) hwW).trans k3)
  have hK2 : Kp w.heap.size S w ((w1.setCell ⟨g, i * 6, none⟩ (.slice oJL (joinL d.p.L d.p.K q.L q.K).length cJL)).setCell ⟨g, i * 6 + 1, none⟩ (.slice oJK (joinK d.p.K q.K).length cJK)) := (Kp.ofBelow hw1).trans (kp2.mono hw1.size (fun b _ hb => hb ▸ hSg))
  have hs2 := kp2.size
  generalize (w1.setCell ⟨g, i * 6, none⟩ (.slice oJL (joinL d.p.L d.p.K q.L q.K).length cJL)).setCell ⟨g, i * 6 + 1, none⟩ (.slice oJK (joinK d.p.K q.K).length cJK) = w2 at *
  obtain ⟨q1, q2'⟩ := n2.cells (set_get hd)
  have r2 := q1 2 (by decide)
  have r3 := q1 3 (by decide)
  simp only [nsC, List.getElem?_cons_zero, List.getElem?_cons_succ] at r2 r3
  obtain ⟨oKe, cKe, hKe, _, _⟩ := own_form hnd.kept
  rw [hKe] at r3
  have HKe := hide hKe
  have hg2 : g < w2.heap.size := Nat.lt_of_lt_of_le (Nat.lt_of_lt_of_le hgW hb1'.size) hs2
  have hwW2 : w.heap.size < w2.heap.size := Nat.lt_of_lt_of_le (Nat.lt_of_lt_of_le hwW hb1'.size) hs2
  have keep2 := nd2 d (List.mem_of_getElem? hd)
  have keep3 : w2.ownsRow 0 196 3 (.slice oKe d.kept.length cKe) d.kept.length (d.kept.flatMap ksC) := hKe ▸ keep2.kept
  obtain ⟨Sx, hSx⟩ : ∃ Sx : Nat → Prop, Sx = fun b => (Value.slice oKe d.kept.length cKe).ownBlock = some b := ⟨_, rfl⟩
  have sg : ¬ Sx g := by
    obtain ⟨c', fz', hc⟩ := OfT.row n2 rfl g rfl
    rw [hSx]
    exact own_ne keep3 hc (by decide)
  have sb : ¬ Sx w.heap.size := by
    rw [hSx]
    intro hx
    have := h.lt _ (hnd.sKept w.heap.size (by rw [hKe]; exact hx))
    omega
  have HSx := hide hSx
  clear hG hGn k0 k1 k2 k3 r0 r1 q2 hKe q1 hSx
  have hG := GrS.cell w2 Sx
  have hGn := GrS.some w2 Sx
  refine wp_region_flt [0, 1, 2, 3, 4, 5, 6, 7, 8, 9, 10] [11, 12, 13, 14, 15] (fun w' => ∃ x : GrS w2 Sx, w' = x.w) (by kernel_rfl) (by kernel_rfl) (fun _ _ d _ _ h => by cases d <;> exact h) ⟨⟨w2.drew, (Kp.refl _ _ _).drew⟩, rfl⟩ ?_
  simp only [pickOps, List.getElem?_cons_zero, List.getElem?_cons_succ]
  repeat (go_big_quiet_step (fail))
  refine wpQuiet_nil ?_
  refine ⟨_, rfl, ?_⟩
  go_wp2_with fail
  refine ⟨fun _ => ⟨⟨_, ((Kp.refl _ _ _).alloc (Nat.le_refl _) _).drew⟩, rfl⟩, _, rfl, ?_⟩
  refine wpList_app (t := 166) _ eNews (by rfl) _ _ (by rfl) (.slice oKe d.kept.length cKe) d.kept.length (d.kept.flatMap ksC) (by rfl) ?own _ 1 (ksC ⟨d.count, .slice oL q.L.length cL, .slice oK q.K.length cK, q⟩) (by rfl) ?src ?h63 ?hby ?next
  case own => exact keep3.alloc _
  case src => exact ⟨rfl, by intro u hu; simp [ksC] at hu; rcases hu with rfl | rfl | rfl <;> rfl, Or.inr ⟨_, _, rfl, World.news_of_block (cs := #[.int .i64 d.count, .slice oL q.L.length cL, .slice oK q.K.length cK]) (heap_alloc_new w2 _)⟩⟩
  case h63 => simp only [maxLen]; omega
  case hby => omega
  case next =>
    intro v3 w3 hown3 hgr3 hat3
    have kp3 : Kp w2.heap.size Sx w2 w3 := by
      have k1 := ((Kp.refl w2.heap.size Sx w2).alloc (Nat.le_refl _) (.cells #[.int .i64 d.count, .slice oL q.L.length cL, .slice oK q.K.length cK] 196)).drew
      exact k1.grown hgr3 (by simp) (fun k hk => Or.inr (by rw [HSx.out]; exact hk))
    obtain ⟨o3, c3, rfl, _, _⟩ := own_form hown3
    have n3 : NdR w3 (.slice (some ⟨g, 0, none⟩) ns.length c) (ns.set i { d with vL := .slice oJL (joinL d.p.L d.p.K q.L q.K).length cJL, vK := .slice oJK (joinK d.p.K q.K).length cJK, p := joinP d.p q }) := own_kp n2 kp3 (fun g' hg' => by
      simp [Value.ownBlock] at hg'
      subst hg'
      exact ⟨hg2, sg⟩)
    obtain ⟨q1, q3⟩ := n3.cells (set_get hd)
    have r3' := q1 3 (by decide)
    have r2' := q1 2 (by decide)
    simp only [nsC, List.getElem?_cons_zero, List.getElem?_cons_succ] at r3' r2'
    rw [HKe.out] at r3'
    clear q1
    go_wp2_with fail
    refine ⟨fun _ => ⟨⟨w3, kp3⟩, rfl⟩, _, rfl, ?_⟩
    go_wp2_with fail
    refine ⟨fun _ => ⟨⟨w3, kp3⟩, rfl⟩, _, rfl, ?_⟩
    go_wp2_with fail
    refine ⟨fun _ => ⟨⟨w3, kp3⟩, rfl⟩, _, rfl, ?_⟩
    go_wp2_with fail
    refine ⟨fun h => absurd rfl h, ?_⟩
    show Exit.then _ _ _ _ _
    go_wp2_with fail
    have fin := news_done h hd hSg hgp hK2 nd2 fl2 self2 (vL' := .slice oJL (joinL d.p.L d.p.K q.L q.K).length cJL) (vK' := .slice oJK (joinK d.p.K q.K).length cJK) jL' jK' (fun g hg => Nat.le_trans (Nat.le_trans (Nat.le_succ _) b5) (hnL g hg)) (fun g hg => Nat.le_trans (Nat.le_trans (Nat.le_succ _) b5) (hnK g hg)) hqq n3 (Sx := Sx) (by rw [HSx.out, HKe.out]) kp3 hown3 (by rw [HKe.out]; simpa using hat3)
    go_end0
    exact ⟨rfl, ⟨_, _, _, fin.1⟩, fin.2⟩
end Go.Proofs.YtnniimfinakioaaGreatDoor
namespace Go.Proofs.YtnniimfinakioaaGreatDoor
open Go.RowKit
attribute [local go_sem ↓] eqTok eqEnt
attribute [local go_sem] toList_nm app_nm size_nm

/-- The world while 'of' gathers: the result lies boxed; what is gathered so far lies in the second block. -/
structure OSt (w : World) (vK : Value) (K : List Tok) (wr : World) : Prop where
  bel : Below (w.heap.size + 1) (w.alloc (.cells #[.slice none 0 0, .slice none 0 0] 165)) wr
  out : wr.heap[w.heap.size + 1]? = some (.cells #[.slice none 0 0, vK] 165 (0, 0))
  rowK : TokR wr vK K
  newK : ∀ g, vK.ownBlock = some g → w.heap.size + 1 + 1 ≤ g
theorem OSt.start (w : World) : OSt w (.slice none 0 0) [] ((w.alloc (.cells #[.slice none 0 0, .slice none 0 0] 165)).alloc (.cells #[.slice none 0 0, .slice none 0 0] 165)) := by
  refine ⟨(Below.refl _ _).alloc (by simp) _, ?_, World.ownsRow_nil _ _ _ _, by simp [Value.ownBlock]⟩
  have := heap_alloc_new (w.alloc (.cells #[.slice none 0 0, .slice none 0 0] 165)) (.cells #[.slice none 0 0, .slice none 0 0] 165)
  simpa using this
theorem OSt.set {w wr w1 : World} {vK vK' : Value} {K K' : List Tok} (h : OSt w vK K wr) (hb : Below wr.heap.size wr w1) (hK : TokR w1 vK' K') (nK : ∀ g, vK'.ownBlock = some g → vK.ownBlock = some g ∨ wr.heap.size ≤ g) :
    OSt w vK' K' ((w1.setCell ⟨w.heap.size + 1, 0, none⟩ (.slice none 0 0)).setCell ⟨w.heap.size + 1, 1, none⟩ vK') := by
  have hlt := lt_of_heap h.out
  have nK' : ∀ g, vK'.ownBlock = some g → w.heap.size + 1 + 1 ≤ g := fun g hg => by
    rcases nK g hg with x | x
    · exact h.newK g x
    · omega
  have hout := (hb.block _ hlt).trans h.out
  refine ⟨((h.bel.trans (hb.mono (by omega))).setCell (by simp) _).setCell (by simp) _, ?_, ?_, nK'⟩
  · have := setCell_row (j := 1) (setCell_row (j := 0) hout (.slice none 0 0)) vK'
    simpa using this
  · exact own_mono (ownsRow_setCell_below (ownsRow_setCell_below (own_raise hK nK') (Nat.lt_succ_self _) _) (Nat.lt_succ_self _) _) (Nat.zero_le _)

def lrnE (K : List Tok) (e : Ent) : List Tok := learnL K e.2
def ofK (L : List Ent) : List Tok := L.foldl lrnE []
def named (s : Nm) (L : List Ent) : List Ent := L.filter fun e => e.1 == s
theorem fold_lrn_len (l : List Ent) : ∀ acc : List Tok, (l.foldl lrnE acc).length ≤ acc.length + l.length := by
  induction l with
  | nil => intro acc; simp
  | cons x l ih => intro acc; have := ih (lrnE acc x); have := learnL_length acc x.2; simp only [lrnE, List.foldl_cons, List.length_cons] at *; omega
theorem named_take (s : Nm) (L : List Ent) (k : Nat) (x : Ent) (h : L[k]? = some x) : named s (L.take (k + 1)) = named s (L.take k) ++ (if x.1 == s then [x] else []) := by
  rw [named, take_snoc' h, List.filter_append]
  simp only [named, List.filter_cons, List.filter_nil]


set_option maxHeartbeats 1000000 in
set_option maxRecDepth 100000 in
theorem of_all (w : World) (S : Nat → Prop) (p : Nat) (vN : Value) (ns : List NS) (vF : Value) (ms : List MS) (adds : Nat) (h : RefR w S p vN ns vF ms adds) (i : Nat) (d : NS) (hd : ns[i]? = some d) (s : Nm) (hdp : SmallP d.p) :
    Calls Tryz.prog 135 #[ptr p, .int .i64 i, strV s, .bool true] w fun e w' => ∃ vK, e = .returned (.tuple #[.agg #[.slice none 0 0, vK], .int .i64 d.p.L.length]) ∧ TokR w' vK (ofK d.p.L) ∧ (∀ g, vK.ownBlock = some g → w.heap.size ≤ g) ∧ Below w.heap.size w w' := by
  have hsm := hdp.1
  obtain ⟨g, c, rfl, hSg, hg, hgp, hcell, hfz⟩ := h.at hd
  have hnd := h.node d (List.mem_of_getElem? hd)
  have hilt : i < ns.length := (List.getElem?_eq_some_iff.1 hd).1
  have hplt : p < w.heap.size := lt_of_heap h.self
  obtain ⟨e1, f1⟩ := row_facts h.self
  obtain ⟨oL, cL, hdL, _, _⟩ := hnd.pc.L.form
  have c0 := hcell 0 (by decide)
  simp only [nsC, List.getElem?_cons_zero, Nat.add_zero] at c0
  rw [hdL] at c0
  clear hcell hfz f1
  have hL : EntR w (.slice oL d.p.L.length cL) d.p.L := hdL ▸ hnd.pc.L
  have Hnd := hide hnd
  clear hnd hdL
  go_enter Tryz.func135, Tryz.ntmps135
  go_wp2_with fail
  go_loopw [11, 13] (fun n j wr => ∃ (k : Nat) (vK : Value), k ≤ d.p.L.length ∧ j = .int .i64 k ∧ n = .int .i64 k ∧ OSt w vK ((d.p.L.take k).foldl lrnE []) wr) (fun _ j _ => d.p.L.length - (intOf j).toNat)
  case atStart => exact ⟨0, _, Nat.zero_le _, rfl, rfl, OSt.start _⟩
  case round =>
    clear e1
    obtain ⟨k, vK, hk, rfl, rfl, hj⟩ := hrel
    have hlen := fold_lrn_len (d.p.L.take k) []
    have hlen2 := List.length_take_le k d.p.L
    simp only [List.length_nil, Nat.zero_add] at hlen
    generalize hK : (d.p.L.take k).foldl lrnE [] = K at *
    have HK := hide hK
    clear hK
    obtain ⟨oK, cK, rfl, _, _⟩ := hj.rowK.form
    obtain ⟨b1, b2, b3, b4, b5⟩ := bx1 hj.bel
    obtain ⟨o1, o2⟩ := row_facts hj.out
    by_cases hlt : k < d.p.L.length
    · obtain ⟨x, hx⟩ := get_some hlt
      have Hx := hide hx
      obtain ⟨g', rfl, hg', c1, c2, c3⟩ := hL.at hx
      clear hx
      go_wp2_with fail
      go_still_tail 6, (by kernel_rfl)
      go_wp2_with fail
      refine (learn_any none 0 0 _ K x.2 wr.drew hj.rowK (by omega)).mono ?_
      rintro e w1 ⟨vK', rfl, hT, hv, hb⟩
      have hb' : Below wr.heap.size wr w1 := ⟨hb.os, hb.tape, hb.output, hb.size, hb.block⟩
      obtain ⟨oK', cK', rfl, _, _⟩ := hT.form
      clear o1 o2 b1 b2 b3 b4 b5 hb
      obtain ⟨o1, o2⟩ := row_facts ((hb'.block _ (lt_of_heap hj.out)).trans hj.out)
      go_wp2_with fail
      refine ⟨⟨k + 1, .slice oK' (learnL K x.2).length cK', by omega, by go_num, by go_num, ?_⟩, by simp [intOf]; omega⟩
      rw [foldl_take lrnE [] d.p.L k x Hx.out, HK.out]
      exact hj.set hb' hT hv
    · have hkl : k = d.p.L.length := by omega
      subst hkl
      go_wp2_with fail
      refine bodyPost_ret (v := .tuple #[.agg #[.slice none 0 0, .slice oK K.length cK], (.int .i64 (d.p.L.length:Int))]) (by simp [results, Tryz.results135, go_sem, b1]) rfl ⟨_, rfl, ?_, fun g hg => by have := hj.newK g hg; omega, ?_⟩
      · have e := HK.out
        rw [List.take_of_length_le (Nat.le_refl _)] at e
        rw [ofK, e]
        exact own_mono (ownsRow_setCell_below (ownsRow_setCell_below (own_raise hj.rowK hj.newK) (by simp; omega) _) (by simp; omega) _) (Nat.zero_le _)
      · exact (b4.setCell (by simp) _).setCell (by simp) _

set_option maxHeartbeats 1000000 in
set_option maxRecDepth 100000 in
theorem of_name (w : World) (S : Nat → Prop) (p : Nat) (vN : Value) (ns : List NS) (vF : Value) (ms : List MS) (adds : Nat) (h : RefR w S p vN ns vF ms adds) (i : Nat) (d : NS) (hd : ns[i]? = some d) (s : Nm) (hdp : SmallP d.p) :
    Calls Tryz.prog 135 #[ptr p, .int .i64 i, strV s, .bool false] w fun e w' => ∃ vK, e = .returned (.tuple #[.agg #[.slice none 0 0, vK], .int .i64 (named s d.p.L).length]) ∧ TokR w' vK (ofK (named s d.p.L)) ∧ (∀ g, vK.ownBlock = some g → w.heap.size ≤ g) ∧ Below w.heap.size w w' := by
  have hsm := hdp.1
  obtain ⟨g, c, rfl, hSg, hg, hgp, hcell, hfz⟩ := h.at hd
  have hnd := h.node d (List.mem_of_getElem? hd)
  have hilt : i < ns.length := (List.getElem?_eq_some_iff.1 hd).1
  have hplt : p < w.heap.size := lt_of_heap h.self
  obtain ⟨e1, f1⟩ := row_facts h.self
  obtain ⟨oL, cL, hdL, _, _⟩ := hnd.pc.L.form
  have c0 := hcell 0 (by decide)
  simp only [nsC, List.getElem?_cons_zero, Nat.add_zero] at c0
  rw [hdL] at c0
  clear hcell hfz f1
  have hL : EntR w (.slice oL d.p.L.length cL) d.p.L := hdL ▸ hnd.pc.L
  have Hnd := hide hnd
  clear hnd hdL
  go_enter Tryz.func135, Tryz.ntmps135
  go_wp2_with fail
  go_loopw [11, 13] (fun n j wr => ∃ (k : Nat) (vK : Value) (m : Nat), k ≤ d.p.L.length ∧ j = .int .i64 k ∧ n = .int .i64 m ∧ m ≤ k ∧ Hid (m = (named s (d.p.L.take k)).length) ∧ OSt w vK ((named s (d.p.L.take k)).foldl lrnE []) wr) (fun _ j _ => d.p.L.length - (intOf j).toNat)
  case atStart => exact ⟨0, _, 0, Nat.zero_le _, rfl, rfl, Nat.le_refl _, rfl, OSt.start _⟩
  case round =>
    clear e1
    obtain ⟨k, vK, m, hk, rfl, rfl, hmk, HM, hj⟩ := hrel
    have hlen := fold_lrn_len (named s (d.p.L.take k)) []
    simp only [List.length_nil, Nat.zero_add] at hlen
    rw [← HM.out] at hlen
    generalize hK : (named s (d.p.L.take k)).foldl lrnE [] = K at *
    have HK := hide hK
    clear hK
    obtain ⟨oK, cK, rfl, _, _⟩ := hj.rowK.form
    obtain ⟨b1, b2, b3, b4, b5⟩ := bx1 hj.bel
    obtain ⟨o1, o2⟩ := row_facts hj.out
    by_cases hlt : k < d.p.L.length
    · obtain ⟨x, hx⟩ := get_some hlt
      have Hx := hide hx
      obtain ⟨g', rfl, hg', c1, c2, c3⟩ := hL.at hx
      clear hx
      rcases hE : (x.1 == s) with _ | _
      · have HE := hide hE
        go_wp2_with fail
        refine ⟨⟨k + 1, .slice oK K.length cK, m, by omega, by go_num, rfl, by omega, ?_, ?_⟩, by simp [intOf]; omega⟩
        · show m = _
          rw [named_take s d.p.L k x Hx.out, HE.out, HM.out]
          simp
        · rw [named_take s d.p.L k x Hx.out, HE.out]
          simp only [Bool.false_eq_true, if_false, List.append_nil]
          rw [HK.out]
          exact hj
      · have HE := hide hE
        go_wp2_with fail
        go_still_tail 6, (by kernel_rfl)
        go_wp2_with fail
        refine (learn_any none 0 0 _ K x.2 wr.drew hj.rowK (by omega)).mono ?_
        rintro e w1 ⟨vK', rfl, hT, hv, hb⟩
        have hb' : Below wr.heap.size wr w1 := ⟨hb.os, hb.tape, hb.output, hb.size, hb.block⟩
        obtain ⟨oK', cK', rfl, _, _⟩ := hT.form
        clear o1 o2 b1 b2 b3 b4 b5 hb
        obtain ⟨o1, o2⟩ := row_facts ((hb'.block _ (lt_of_heap hj.out)).trans hj.out)
        go_wp2_with fail
        refine ⟨⟨k + 1, .slice oK' (learnL K x.2).length cK', m + 1, by omega, by go_num, by go_num, by omega, ?_, ?_⟩, by simp [intOf]; omega⟩
        · show m + 1 = _
          rw [named_take s d.p.L k x Hx.out, HE.out, HM.out]
          simp
        · rw [named_take s d.p.L k x Hx.out, HE.out]
          simp only [if_true, List.foldl_append]
          rw [HK.out]
          exact hj.set hb' hT hv
    · have hkl : k = d.p.L.length := by omega
      subst hkl
      have eM := HM.out
      rw [List.take_of_length_le (Nat.le_refl _)] at eM
      have HM2 := hide eM
      clear eM HM
      go_wp2_with fail
      refine bodyPost_ret (v := .tuple #[.agg #[.slice none 0 0, .slice oK K.length cK], (.int .i64 (m:Int))]) (by simp [results, Tryz.results135, go_sem, b1]) rfl ⟨_, ?_, ?_, fun g hg => by have := hj.newK g hg; omega, ?_⟩
      · rw [HM2.out]
      · have e := HK.out
        rw [List.take_of_length_le (Nat.le_refl _)] at e
        rw [ofK, e]
        exact own_mono (ownsRow_setCell_below (ownsRow_setCell_below (own_raise hj.rowK hj.newK) (by simp; omega) _) (by simp; omega) _) (Nat.zero_le _)
      · exact (b4.setCell (by simp) _).setCell (by simp) _
end Go.Proofs.YtnniimfinakioaaGreatDoor
namespace Go.Proofs.YtnniimfinakioaaGreatDoor
open Go.RowKit
attribute [local go_sem ↓] eqTok eqEnt
attribute [local go_sem] toList_nm app_nm size_nm

structure Nd where
  p : Pc
  count : Nat
  kept : List (Nat × Pc)
  acked : List Nat
  made : Nat
structure Md where
  kind : Nat
  frm : Nat
  to : Nat
  number : Nat
  text : Nm
  p : Pc
structure Wd where
  nodes : List Nd
  fly : List Md
  adds : Nat
def KS.m (k : KS) : Nat × Pc := (k.n, k.p)
def NS.m (n : NS) : Nd := ⟨n.p, n.count, n.kept.map KS.m, n.acked, n.made⟩
def MS.m (m : MS) : Md := ⟨m.kind, m.frm, m.to, m.number, m.text, m.p⟩
/-- The document's world lies at p, in blocks of S, and is W. -/
def RefW (w : World) (S : Nat → Prop) (p : Nat) (W : Wd) : Prop := ∃ vN ns vF ms, RefR w S p vN ns vF ms W.adds ∧ ns.map NS.m = W.nodes ∧ ms.map MS.m = W.fly

def newsM (d : Nd) (q : Pc) : Nd := { d with p := joinP d.p q, count := d.count + 1, kept := d.kept ++ [(d.count, q)] }

section
variable {w w' w2 : World} {S S' : Nat → Prop}
theorem Ext.trans {b : Nat} (h : Ext (Ext S w w') w' w2 b) (h1 : w.heap.size ≤ w'.heap.size) (h2 : w'.heap.size ≤ w2.heap.size) : Ext S w w2 b := by
  rcases h with (h | h) | h
  · exact Or.inl h
  · exact Or.inr ⟨h.1, by omega⟩
  · exact Or.inr ⟨by omega, h.2⟩
theorem Kp.under (h : Kp w'.heap.size (Ext S w w') w' w2) (k : Kp w.heap.size S w w') : Kp w.heap.size S w w2 :=
  k.trans (h.mono k.size (fun b hb hx => by
    rcases hx with hx | hx
    · exact hx
    · omega))
theorem RefR.ext {p adds : Nat} {vN vF : Value} {ns : List NS} {ms : List MS} (h : RefR w S p vN ns vF ms adds) (hl : ∀ b, S b → b < w'.heap.size) (k : w'.heap.size ≤ w.heap.size) : RefR w (Ext S w' w) p vN ns vF ms adds :=
  h.mono (fun b hb => Or.inl hb) (fun b hb => by
    rcases hb with hb | hb
    · exact Nat.lt_of_lt_of_le (hl b hb) k
    · exact hb.2)
end

/-- One more Add. -/
theorem RefR.setAdds {w : World} {S : Nat → Prop} {p adds : Nat} {vN vF : Value} {ns : List NS} {ms : List MS} (h : RefR w S p vN ns vF ms adds) (a : Nat) : RefR (w.setCell ⟨p, 2, none⟩ (.int .i64 (a : Int))) S p vN ns vF ms a := by
  have kp := Kp.set1 w p 2 (.int .i64 (a : Int))
  have ot : OfT w (fun b => b = p) 161 := fun b hb => ⟨_, _, hb ▸ h.self⟩
  have hs : (w.setCell ⟨p, 2, none⟩ (.int .i64 (a : Int))).heap.size = w.heap.size := by simp [World.setCell]
  refine ⟨fun b hb => by rw [hs]; exact h.lt b hb, ?_, h.sp, own_kpE h.nodes kp (Nat.le_refl _) ot (by decide), h.sN, fun n hn => (h.node n hn).kpE kp (Nat.le_refl _) ot (by decide) (by decide) (by decide) (by decide), h.disK, h.disA, h.fly.kpE kp (Nat.le_refl _) ot (by decide) (by decide) (by decide)⟩
  have := setCell_row (j := 2) h.self (.int .i64 (a : Int))
  simpa using this
/-- A node has made one token more. -/
theorem RefR.setMade {w : World} {S : Nat → Prop} {p g c adds : Nat} {vF : Value} {ns : List NS} {ms : List MS} (h : RefR w S p (.slice (some ⟨g, 0, none⟩) ns.length c) ns vF ms adds) {i : Nat} {d : NS} (hd : ns[i]? = some d) (hgp : g ≠ p) (a : Nat) :
    RefR (w.setCell ⟨g, i * 6 + 5, none⟩ (.int .i64 (a : Int))) S p (.slice (some ⟨g, 0, none⟩) ns.length c) (ns.set i { d with made := a }) vF ms adds := by
  have kp := Kp.set1 w g (i * 6 + 5) (.int .i64 (a : Int))
  have ot : OfT w (fun b => b = g) 168 := OfT.row h.nodes rfl
  have hs : (w.setCell ⟨g, i * 6 + 5, none⟩ (.int .i64 (a : Int))).heap.size = w.heap.size := by simp [World.setCell]
  have nd := fun n hn => (h.node n hn).kpE kp (Nat.le_refl _) ot (by decide) (by decide) (by decide) (by decide)
  refine ⟨fun b hb => by rw [hs]; exact h.lt b hb, (kp.block p (lt_of_heap h.self) (Ne.symm hgp)).trans h.self, h.sp, NdR.set (j := 5) h.nodes hd (by decide) rfl, h.sN, ?_, ?_, ?_, h.fly.kpE kp (Nat.le_refl _) ot (by decide) (by decide) (by decide)⟩
  · intro n hn
    obtain ⟨j, hj⟩ := List.mem_iff_getElem?.1 hn
    rcases set_at hj with ⟨rfl, rfl⟩ | ⟨_, hj⟩
    · have x := nd d (List.mem_of_getElem? hd)
      exact ⟨x.pc, x.kept, x.sKept, x.keptP, x.acked, x.sAcked⟩
    · exact nd n (List.mem_of_getElem? hj)
  · intro a b x y b' ha hb h1 h2
    rcases set_at ha with ⟨rfl, rfl⟩ | ⟨_, ha⟩ <;> rcases set_at hb with ⟨rfl, rfl⟩ | ⟨_, hb⟩
    · rfl
    · exact h.disK _ _ _ _ b' hd hb h1 h2
    · exact h.disK _ _ _ _ b' ha hd h1 h2
    · exact h.disK _ _ _ _ b' ha hb h1 h2
  · intro a b x y b' ha hb h1 h2
    rcases set_at ha with ⟨rfl, rfl⟩ | ⟨_, ha⟩ <;> rcases set_at hb with ⟨rfl, rfl⟩ | ⟨_, hb⟩
    · rfl
    · exact h.disA _ _ _ _ b' hd hb h1 h2
    · exact h.disA _ _ _ _ b' ha hd h1 h2
    · exact h.disA _ _ _ _ b' ha hb h1 h2

abbrev err (n : Int) : Value := .int .i64 n

theorem news_from {w w4 : World} {S : Nat → Prop} {p adds : Nat} {vN vF : Value} {ns : List NS} {ms : List MS} (hlt : ∀ b, S b → b < w.heap.size) (hb : Kp w.heap.size S w w4) (h : RefR w4 S p vN ns vF ms adds) {i : Nat} {d : NS} (hd : ns[i]? = some d)
    {vL vK : Value} {q : Pc} (hq : PieceR w4 (Ext S w w4) vL vK q) (hdp : SmallP d.p) (hqs : SmallP q) (hc : d.count ≤ 1000000000) (hk : d.kept.length ≤ 1000000000) :
    Calls Tryz.prog 138 #[ptr p, .int .i64 i, .agg #[vL, vK]] w4 fun e w' => e = .returned (.tuple #[]) ∧
      (∃ ns', RefR w' (Ext S w w') p vN ns' vF ms adds ∧ ns'.map NS.m = (ns.map NS.m).set i (newsM d.m q)) ∧ Kp w.heap.size S w w' := by
  refine (news_any w4 (Ext S w w4) p vN ns vF ms adds (h.ext hlt hb.size) i d hd vL vK q hq hdp hqs hc hk).mono ?_
  rintro e w' ⟨rfl, ⟨vL', vK', vKept', hR⟩, hK⟩
  refine ⟨rfl, ⟨_, hR.mono (fun b hb' => Ext.trans hb' hb.size hK.size) (fun b hb' => ?_), ?_⟩, hK.under hb⟩
  · rcases hb' with x | x
    · exact Nat.lt_of_lt_of_le (hlt b x) (Nat.le_trans hb.size hK.size)
    · exact x.2
  · rw [List.map_set]
    simp [NS.m, newsM, KS.m]

set_option maxHeartbeats 1000000 in
set_option maxRecDepth 100000 in
theorem clear_ok (w : World) (S : Nat → Prop) (p : Nat) (vN : Value) (ns : List NS) (vF : Value) (ms : List MS) (adds : Nat) (h : RefR w S p vN ns vF ms adds) (hl : ns.length ≤ 1000) (i : Nat) (d : NS) (hd : ns[i]? = some d) (hdp : SmallP d.p) (hc : d.count ≤ 1000000000) (hk : d.kept.length ≤ 1000000000) (hne : d.p.L ≠ []) :
    Calls Tryz.prog 109 #[ptr p, .int .i64 i] w fun e w' => e = .returned (err 0) ∧
      (∃ ns', RefR w' (Ext S w w') p vN ns' vF ms adds ∧ ns'.map NS.m = (ns.map NS.m).set i (newsM d.m ⟨[], ofK d.p.L⟩)) ∧ Kp w.heap.size S w w' := by
  have hi : i < ns.length := (List.getElem?_eq_some_iff.1 hd).1
  have hlen : ((d.p.L.length : Int) == 0) = false := by
    have : d.p.L.length ≠ 0 := fun e => hne (List.eq_nil_of_length_eq_zero e)
    simpa using this
  have hof := fold_lrn_len d.p.L []
  go_enter Tryz.func109, Tryz.ntmps109
  go_wp2_with fail
  refine (is_yes w S p vN ns vF ms adds h i hi hl).mono ?_
  rintro e w' ⟨rfl, rfl⟩
  go_wp2_with fail
  refine (of_all w S p vN ns vF ms adds h i d hd [] hdp).mono ?_
  rintro e w1 ⟨vK, rfl, hK, hnK, hb⟩
  obtain ⟨oK, cK, rfl, _, _⟩ := hK.form
  have Hof := hide hof
  clear hof
  go_wp2_with fail
  refine (news_from (q := ⟨[], (ofK d.p.L)⟩) h.lt (Kp.ofBelow (hb.alloc hb.size _)) (h.below (hb.alloc hb.size _)) hd ⟨World.ownsRow_nil _ _ _ _, hK.alloc _, fun g hg => by simp [Value.ownBlock] at hg, fun g hg => Or.inr ⟨hnK g hg, by have := (hK.lt g hg).2; simp; omega⟩⟩ hdp ⟨by simp, by have := Hof.out; have := hdp.1; simp only [ofK, List.length_nil, Nat.zero_add] at *; omega⟩ hc hk).mono ?_
  rintro e w2 ⟨rfl, hR, hKp⟩
  go_wp2_with fail
  go_ret
  exact ⟨rfl, hR, hKp⟩


theorem named_len (s : Nm) (L : List Ent) : (named s L).length ≤ L.length := List.length_filter_le _ _

set_option maxHeartbeats 1000000 in
set_option maxRecDepth 100000 in
theorem remove_ok (w : World) (S : Nat → Prop) (p : Nat) (vN : Value) (ns : List NS) (vF : Value) (ms : List MS) (adds : Nat) (h : RefR w S p vN ns vF ms adds) (hl : ns.length ≤ 1000) (i : Nat) (d : NS) (hd : ns[i]? = some d) (hdp : SmallP d.p) (hc : d.count ≤ 1000000000) (hk : d.kept.length ≤ 1000000000)
    (s : Nm) (hs : nameB s = true) (hs2 : s.length ≤ 2000000) (hne : named s d.p.L ≠ []) :
    Calls Tryz.prog 108 #[ptr p, .int .i64 i, strV s] w fun e w' => e = .returned (err 0) ∧
      (∃ ns', RefR w' (Ext S w w') p vN ns' vF ms adds ∧ ns'.map NS.m = (ns.map NS.m).set i (newsM d.m ⟨[], ofK (named s d.p.L)⟩)) ∧ Kp w.heap.size S w w' := by
  have hi : i < ns.length := (List.getElem?_eq_some_iff.1 hd).1
  have hlen : (((named s d.p.L).length : Int) == 0) = false := by
    have : (named s d.p.L).length ≠ 0 := fun e => hne (List.eq_nil_of_length_eq_zero e)
    simpa using this
  have hof := Nat.le_trans (fold_lrn_len (named s d.p.L) []) (Nat.add_le_add_left (named_len s d.p.L) _)
  have Hs := hide hs
  clear hs
  go_enter Tryz.func108, Tryz.ntmps108
  go_wp2_with fail
  refine (is_yes w S p vN ns vF ms adds h i hi hl).mono ?_
  rintro e w' ⟨rfl, rfl⟩
  go_wp2_with fail
  refine (isName_any s w hs2).mono ?_
  rintro e w' ⟨rfl, rfl⟩
  rw [Hs.out]
  go_wp2_with fail
  refine (of_name w S p vN ns vF ms adds h i d hd s hdp).mono ?_
  rintro e w1 ⟨vK, rfl, hK, hnK, hb⟩
  obtain ⟨oK, cK, rfl, _, _⟩ := hK.form
  have Hof := hide hof
  clear hof
  go_wp2_with fail
  refine (news_from (q := ⟨[], (ofK (named s d.p.L))⟩) h.lt (Kp.ofBelow (hb.alloc hb.size _)) (h.below (hb.alloc hb.size _)) hd ⟨World.ownsRow_nil _ _ _ _, hK.alloc _, fun g hg => by simp [Value.ownBlock] at hg, fun g hg => Or.inr ⟨hnK g hg, by have := (hK.lt g hg).2; simp; omega⟩⟩ hdp ⟨by simp, by have := Hof.out; have := hdp.1; simp only [ofK, List.length_nil, Nat.zero_add] at *; omega⟩ hc hk).mono ?_
  rintro e w2 ⟨rfl, hR, hKp⟩
  go_wp2_with fail
  go_ret
  exact ⟨rfl, hR, hKp⟩
end Go.Proofs.YtnniimfinakioaaGreatDoor
namespace Go.Proofs.YtnniimfinakioaaGreatDoor
open Go.RowKit
attribute [local go_sem ↓] eqTok eqEnt
attribute [local go_sem] toList_nm app_nm size_nm

def addPc (L : List Ent) (i : Nat) (m : Nat) (s : Nm) : Pc := ⟨[(s, ((i : Int), (m : Int)))], learnL (ofK (named s L)) ((i : Int), (m : Int))⟩

/-- The world while Add makes its piece: the token lies in the first new block, the piece in block B. -/
structure ASt (w2 : World) (a b : Int) (B : Nat) (vL vK : Value) (L : List Ent) (K : List Tok) (wr : World) : Prop where
  bel : Below w2.heap.size w2 wr
  tok : wr.heap[w2.heap.size]? = some (.cells #[.int .i64 a, .int .i64 b] 192 (0, 0))
  box : wr.heap[B]? = some (.cells #[vL, vK] 165 (0, 0))
  lt : w2.heap.size < B
  rowL : EntR wr vL L
  rowK : TokR wr vK K
  newL : ∀ g, vL.ownBlock = some g → w2.heap.size ≤ g
  newK : ∀ g, vK.ownBlock = some g → w2.heap.size ≤ g
theorem ASt.set {w2 wr w1 : World} {a b : Int} {B : Nat} {vL vK vL' vK' : Value} {L L' : List Ent} {K K' : List Tok} (h : ASt w2 a b B vL vK L K wr) (hb : Below wr.heap.size wr w1) (hL : EntR w1 vL' L') (hK : TokR w1 vK' K')
    (nL : ∀ g, vL'.ownBlock = some g → vL.ownBlock = some g ∨ wr.heap.size ≤ g) (nK : ∀ g, vK'.ownBlock = some g → vK.ownBlock = some g ∨ wr.heap.size ≤ g) :
    ASt w2 a b B vL' vK' L' K' ((w1.setCell ⟨B, 0, none⟩ vL').setCell ⟨B, 1, none⟩ vK') := by
  have hlt := lt_of_heap h.box
  have hs := h.bel.size
  have hbox := (hb.block _ hlt).trans h.box
  have htok := (hb.block _ (lt_of_heap h.tok)).trans h.tok
  have kp : Kp w1.heap.size (fun x => x = B) w1 ((w1.setCell ⟨B, 0, none⟩ vL').setCell ⟨B, 1, none⟩ vK') := (Kp.set1 w1 B 0 vL').setCell (p := ⟨B, 1, none⟩) (Or.inr rfl) _
  have ot : OfT w1 (fun x => x = B) 165 := fun x hx => ⟨_, _, hx ▸ hbox⟩
  refine ⟨((h.bel.trans (hb.mono hs)).setCell (Nat.le_of_lt h.lt) _).setCell (Nat.le_of_lt h.lt) _, (kp.block _ (lt_of_heap htok) (Nat.ne_of_lt h.lt)).trans htok, ?_, h.lt, own_kpE hL kp (Nat.le_refl _) ot (by decide), own_kpE hK kp (Nat.le_refl _) ot (by decide), fun g hg => ?_, fun g hg => ?_⟩
  · have := setCell_row (j := 1) (setCell_row (j := 0) hbox vL') vK'
    simpa using this
  · rcases nL g hg with x | x
    · exact h.newL g x
    · omega
  · rcases nK g hg with x | x
    · exact h.newK g x
    · omega

set_option maxHeartbeats 1000000 in
set_option maxRecDepth 100000 in
theorem add_ok (w : World) (S : Nat → Prop) (p : Nat) (vN : Value) (ns : List NS) (vF : Value) (ms : List MS) (adds : Nat) (h : RefR w S p vN ns vF ms adds) (hl : ns.length ≤ 1000) (i : Nat) (d : NS) (hd : ns[i]? = some d) (hdp : SmallP d.p) (hc : d.count ≤ 1000000000) (hk : d.kept.length ≤ 1000000000) (hm : d.made ≤ 1000000) (hL : d.p.L.length ≤ 99999)
    (s : Nm) (hs : nameB s = true) (hs2 : s.length ≤ 2000000) (hadds : adds < 30) :
    Calls Tryz.prog 107 #[ptr p, .int .i64 i, strV s] w fun e w' => e = .returned (err 0) ∧
      (∃ ns', RefR w' (Ext S w w') p vN ns' vF ms (adds + 1) ∧ ns'.map NS.m = (ns.map NS.m).set i (newsM { d.m with made := d.made + 1 } (addPc d.p.L i (d.made + 1) s))) ∧ Kp w.heap.size S w w' := by
  have hi : i < ns.length := (List.getElem?_eq_some_iff.1 hd).1
  have Hs := hide hs
  clear hs
  obtain ⟨g, c, rfl, hSg, hg, hgp, hcell, hfz⟩ := h.at hd
  have hpg : ¬ p = g := Ne.symm hgp
  have hplt : p < w.heap.size := lt_of_heap h.self
  obtain ⟨e1, f1⟩ := row_facts h.self
  have c5 := hcell 5 (by decide)
  simp only [nsC, List.getElem?_cons_zero, List.getElem?_cons_succ] at c5
  clear hcell
  go_enter Tryz.func107, Tryz.ntmps107
  go_wp2_with fail
  refine (is_yes w S p _ ns vF ms adds h i hi hl).mono ?_
  rintro e w' ⟨rfl, rfl⟩
  go_wp2_with fail
  refine (isName_any s w hs2).mono ?_
  rintro e w' ⟨rfl, rfl⟩
  rw [Hs.out]
  go_wp2_with fail
  have ea : (adds : Int) + 1 = ((adds + 1 : Nat) : Int) := by omega
  have em : (d.made : Int) + 1 = ((d.made + 1 : Nat) : Int) := by omega
  have R1 := h.setAdds (adds + 1)
  have R2 := R1.setMade hd hgp (d.made + 1)
  have kp2 : Kp w.heap.size S w ((w.setCell ⟨p, 2, none⟩ (.int .i64 ((adds + 1 : Nat) : Int))).setCell ⟨g, i * 6 + 5, none⟩ (.int .i64 ((d.made + 1 : Nat) : Int))) :=
    ((Kp.refl w.heap.size S w).setCell (p := ⟨p, 2, none⟩) (Or.inr h.sp) _).setCell (p := ⟨g, i * 6 + 5, none⟩) (Or.inr hSg) _
  have hz : ((w.setCell ⟨p, 2, none⟩ (.int .i64 ((adds + 1 : Nat) : Int))).setCell ⟨g, i * 6 + 5, none⟩ (.int .i64 ((d.made + 1 : Nat) : Int))).heap.size = w.heap.size := by simp [World.setCell]
  have Hz := hide hz
  clear R1 hz
  simp only [ea, em]
  clear ea em e1 f1 hfz c5
  generalize (w.setCell ⟨p, 2, none⟩ (.int .i64 ((adds + 1 : Nat) : Int))).setCell ⟨g, i * 6 + 5, none⟩ (.int .i64 ((d.made + 1 : Nat) : Int)) = w2 at *
  rw [← Hz.out]
  have hb3 : Below w2.heap.size w2 (w2.alloc (.cells #[.int .i64 (i : Int), .int .i64 ((d.made + 1 : Nat) : Int)] 192)) := (Below.refl _ _).alloc (Nat.le_refl _) _
  have R3 := R2.below hb3
  refine (of_name _ S p _ _ vF ms (adds + 1) R3 i { d with made := d.made + 1 } (set_get hd) s hdp).mono ?_
  rintro e w4 ⟨vK, rfl, hK, hnK, hb⟩
  have hb4 : Below (w2.heap.size + 1) (w2.alloc (.cells #[.int .i64 (i : Int), .int .i64 ((d.made + 1 : Nat) : Int)] 192)) w4 := by simpa using hb
  clear hb
  obtain ⟨t1, _, t3, t4, t5⟩ := bx1 hb4
  obtain ⟨oK, cK, rfl, _, _⟩ := hK.form
  have n1 : ¬ w2.heap.size = w4.heap.size := by omega
  have n2 : ¬ w4.heap.size = w2.heap.size := by omega
  have n3 : w2.heap.size < w4.heap.size := by omega
  have hof : (ofK (named s d.p.L)).length ≤ 99999 := by
    have h1 := fold_lrn_len (named s d.p.L) []
    have h2 := named_len s d.p.L
    simp only [ofK, List.length_nil, Nat.zero_add] at *
    omega
  have hlL := learnL_length (ofK (named s d.p.L)) ((i : Int), ((d.made + 1 : Nat) : Int))
  have hof2 : (learnL (ofK (named s d.p.L)) ((i : Int), ((d.made + 1 : Nat) : Int))).length ≤ 100000 := by omega
  have Hof := hide hof
  have Hof2 := hide hof2
  clear hof hof2 hlL
  have a4 : ASt w2 (i : Int) ((d.made + 1 : Nat) : Int) w4.heap.size (.slice none 0 0) (.slice oK (ofK (named s d.p.L)).length cK) [] (ofK (named s d.p.L)) (w4.alloc (.cells #[.slice none 0 0, .slice oK (ofK (named s d.p.L)).length cK] 165)) :=
    ⟨t4.alloc t4.size _, alloc_at ((hb4.block _ (Nat.lt_succ_self _)).trans (heap_alloc_new w2 _)) _, heap_alloc_new w4 _, by omega, World.ownsRow_nil _ _ _ _, hK.alloc _, by simp [Value.ownBlock], fun g hg => by have := hnK g hg; simp at this; omega⟩
  go_wp2_with fail
  refine (learn_any none 0 0 _ (ofK (named s d.p.L)) ((i : Int), ((d.made + 1 : Nat) : Int)) _ a4.rowK (Nat.le_trans Hof.out (by decide))).mono ?_
  rintro e w6 ⟨vK2, rfl, hK2, hv2, hb6⟩
  obtain ⟨oK2, cK2, rfl, _, _⟩ := hK2.form
  have a6 := a4.set hb6 (a4.rowL.below hb6) hK2 (fun g hg => Or.inl hg) hv2
  obtain ⟨x1, x2⟩ := row_facts ((hb6.block _ (lt_of_heap a4.box)).trans a4.box)
  obtain ⟨x3, x4⟩ := row_facts ((hb6.block _ (lt_of_heap a4.tok)).trans a4.tok)
  generalize w4.heap.size = B at *
  clear t1 t3 t4 t5 hb4 hK hnK hb6 a4 hv2 hK2
  go_wp2_with fail
  refine (put_any _ _ _ _ [] (s, ((i : Int), ((d.made + 1 : Nat) : Int))) _ a6.rowL (by simp)).mono ?_
  rintro e w8 ⟨vL8, rfl, hL8, hv8, hb8⟩
  obtain ⟨oL8, cL8, rfl, _, _⟩ := hL8.form
  have a8 := a6.set hb8 hL8 (a6.rowK.below hb8) (fun g hg => Or.inr (hv8 g hg)) (fun g hg => Or.inl hg)
  clear x1 x2 x3 x4
  obtain ⟨x1, x2⟩ := row_facts ((hb8.block _ (lt_of_heap a6.box)).trans a6.box)
  obtain ⟨x3, x4⟩ := row_facts ((hb8.block _ (lt_of_heap a6.tok)).trans a6.tok)
  clear a6 hb8 hv8 hL8
  go_wp2_with fail
  have ec : ((d.made + 1 : Nat) : Int) = (d.made : Int) + 1 := by omega
  rw [ec] at a8
  have hz := Hz.out
  have hK9 := kp2.trans (Kp.ofBelow (S := S) (a8.bel.mono (Nat.le_of_eq hz.symm)))
  have hR9 := R2.below a8.bel
  have hq : PieceR _ (Ext S w _) _ _ (addPc d.p.L i (d.made + 1) s) := ⟨by
      have e : (addPc d.p.L i (d.made + 1) s).L = insB aheadB [] (s, (i : Int), (d.made : Int) + 1) := by rw [addPc, ec]; rfl
      rw [e]; exact a8.rowL, by
      have e : (addPc d.p.L i (d.made + 1) s).K = learnL (ofK (named s d.p.L)) ((i : Int), (d.made : Int) + 1) := by rw [addPc, ec]
      rw [e]; exact a8.rowK, fun g hg => Or.inr ⟨by have := a8.newL g hg; omega, (a8.rowL.lt g hg).2⟩, fun g hg => Or.inr ⟨by have := a8.newK g hg; omega, (a8.rowK.lt g hg).2⟩⟩
  refine (news_from (q := addPc d.p.L i (d.made + 1) s) h.lt hK9 hR9 (set_get hd) hq hdp ⟨by simp [addPc], Hof2.out⟩ hc hk).mono ?_
  rintro e w10 ⟨rfl, ⟨ns', hR, hns⟩, hKp⟩
  go_wp2_with fail
  go_ret
  refine ⟨rfl, ⟨ns', hR, ?_⟩, hKp⟩
  rw [hns, List.map_set, List.set_set]
  rfl
end Go.Proofs.YtnniimfinakioaaGreatDoor
