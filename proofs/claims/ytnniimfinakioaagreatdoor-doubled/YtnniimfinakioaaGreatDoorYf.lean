import Derived.Test.YtnniimfinakioaaGreatDoorYb
import Derived.Test.YtnniimfinakioaaGreatDoorXc
namespace Go.Proofs.YtnniimfinakioaaGreatDoor
open Go.RowKit

/-! The program's world in memory. -/
def SetV {α : Type} (enc : α → Value) (w : World) (v : Value) (l : List α) : Prop := ∃ ks, MapV enc w v ks ∧ ∀ x, x ∈ ks ↔ x ∈ l
def InM (S : Nat → Prop) (v : Value) : Prop := ∀ b, mapB v = some b → S b
structure PK where
  n : Nat
  vE : Value
  vK : Value
  p : Pc
structure PN where
  vE : Value
  vK : Value
  p : Pc
  count : Nat
  vKept : Value
  kept : List PK
  vAcked : Value
  acked : List Nat
  made : Nat
def pkC (k : PK) : List Value := [.int .i64 k.n, k.vE, k.vK]
def pnC (n : PN) : List Value := [n.vE, n.vK, .int .i64 n.count, n.vKept, n.vAcked]
theorem pkW : FW pkC 3 := fun _ => rfl
theorem pnW : FW pnC 5 := fun _ => rfl
def PK.m (k : PK) : Nat × Pc := (k.n, k.p)
def PN.m (n : PN) : Nd := ⟨n.p, n.count, n.kept.map PK.m, n.acked, n.made⟩
structure PPieceR (w : World) (S : Nat → Prop) (vE vK : Value) (p : Pc) : Prop where
  E : SetV entV w vE p.L
  K : SetV tokV w vK p.K
  sE : InM S vE
  sK : InM S vK
structure PNodeR (w : World) (S : Nat → Prop) (n : PN) : Prop where
  pc : PPieceR w S n.vE n.vK n.p
  kept : w.ownsRow 0 145 3 n.vKept n.kept.length (n.kept.flatMap pkC)
  sKept : InS S n.vKept
  keptP : ∀ k ∈ n.kept, PPieceR w S k.vE k.vK k.p
  acked : w.ownsRow 0 3 1 n.vAcked n.acked.length (intC n.acked)
  sAcked : InS S n.vAcked
structure PM where
  kind : Nat
  frm : Nat
  to : Nat
  number : Nat
  vE : Value
  vK : Value
  p : Pc
def pmC (m : PM) : List Value := [.int .i64 m.kind, .int .i64 m.frm, .int .i64 m.to, .int .i64 m.number, m.vE, m.vK]
theorem pmW : FW pmC 6 := fun _ => rfl
def PM.m (m : PM) : Md := ⟨m.kind, m.frm, m.to, m.number, if m.kind = 1 then pieceT m.p.L m.p.K else [], m.p⟩
structure PFlyR (w : World) (S : Nat → Prop) (vF : Value) (fs : List PM) : Prop where
  row : w.ownsRow 0 92 6 vF fs.length (fs.flatMap pmC)
  s : InS S vF
  piece : ∀ m ∈ fs, PPieceR w S m.vE m.vK m.p
structure ProgR (w : World) (S : Nat → Prop) (p : Nat) (vN : Value) (ns : List PN) (vF : Value) (fs : List PM) : Prop where
  lt : ∀ b, S b → b < w.heap.size
  self : w.heap[p]? = some (.cells #[vN, vF] 84 (0, 0))
  sp : S p
  nodes : w.ownsRow 0 99 5 vN ns.length (ns.flatMap pnC)
  sN : InS S vN
  node : ∀ n ∈ ns, PNodeR w S n
  disK : ∀ (i j : Nat) (a b : PN) (g : Nat), ns[i]? = some a → ns[j]? = some b → a.vKept.ownBlock = some g → b.vKept.ownBlock = some g → i = j
  disA : ∀ (i j : Nat) (a b : PN) (g : Nat), ns[i]? = some a → ns[j]? = some b → a.vAcked.ownBlock = some g → b.vAcked.ownBlock = some g → i = j
  fly : PFlyR w S vF fs
/-- The program's world lies at p, in blocks of S, and is W. -/
def ProgW (w : World) (S : Nat → Prop) (p : Nat) (W : Wd) : Prop := ∃ vN ns vF fs, ProgR w S p vN ns vF fs ∧ ns.map PN.m = W.nodes ∧ fs.map PM.m = W.fly

section
variable {w w' : World} {S S' : Nat → Prop} {B E : Nat} {α : Type} {enc : α → Value}
theorem InM.mono {v : Value} (h : InM S v) (hS : ∀ b, S b → S' b) : InM S' v := fun g hg => hS g (h g hg)
theorem SetV.lt {v : Value} {l : List α} (h : SetV enc w v l) {b : Nat} (hb : mapB v = some b) : b < w.heap.size := by
  obtain ⟨ks, h1, _⟩ := h
  exact h1.lt hb
theorem SetV.of_block {v : Value} {l : List α} (h : SetV enc w v l) (hb : ∀ b, mapB v = some b → w'.heap[b]? = w.heap[b]?) : SetV enc w' v l := by
  obtain ⟨ks, h1, h2⟩ := h
  exact ⟨ks, h1.of_block hb, h2⟩
theorem SetV.off {v : Value} {l : List α} (h : SetV enc w v l) (hs : InM S v) (k : Kp B S' w w') (o : Off S B S') : SetV enc w' v l := h.of_block fun b hb => k.block b (o b (hs b hb)).1 (o b (hs b hb)).2
theorem SetV.below {v : Value} {l : List α} (h : SetV enc w v l) (k : Below w.heap.size w w') : SetV enc w' v l := h.of_block fun b hb => k.block b (h.lt hb)
theorem SetV.isMap {v : Value} {l : List α} (h : SetV enc w v l) {b : Nat} (hb : mapB v = some b) : ∃ es c, w.heap[b]? = some (.map es c) := by
  obtain ⟨ks, ⟨_, h1⟩, _⟩ := h
  rcases h1 with ⟨rfl, _⟩ | ⟨b', rfl, es, c, h1, _⟩
  · cases hb
  · simp only [mapB, Option.some.injEq] at hb
    subst hb
    exact ⟨es, c, h1⟩
theorem SetV.kpE {v : Value} {l : List α} (h : SetV enc w v l) (k : Kp B S' w w') (hB : w.heap.size ≤ B) (hT : OfT w S' E) : SetV enc w' v l := h.of_block fun b hb => k.block b (Nat.lt_of_lt_of_le (h.lt hb) hB) fun hs => by
  obtain ⟨c, fz, hc⟩ := hT b hs
  obtain ⟨es, cl, hm⟩ := h.isMap hb
  rw [hm] at hc
  cases hc
theorem SetV.form {v : Value} {l : List α} (h : SetV enc w v l) : v = .map (mapB v) := by
  obtain ⟨ks, h1, _⟩ := h
  exact h1.form
theorem SetV.perm {v : Value} {l : List α} (h : SetV enc w v l) (hl : l.Nodup) : ∃ ks, MapV enc w v ks ∧ ks.Perm l := by
  obtain ⟨ks, h1, h2⟩ := h
  exact ⟨ks, h1, (List.perm_ext_iff_of_nodup h1.1 hl).2 h2⟩

theorem PPieceR.mono {vE vK : Value} {p : Pc} (h : PPieceR w S vE vK p) (hS : ∀ b, S b → S' b) : PPieceR w S' vE vK p := ⟨h.E, h.K, h.sE.mono hS, h.sK.mono hS⟩
theorem PPieceR.kp {vE vK : Value} {p : Pc} (h : PPieceR w S vE vK p) (k : Kp B S' w w') (o : Off S B S') : PPieceR w' S vE vK p := ⟨h.E.off h.sE k o, h.K.off h.sK k o, h.sE, h.sK⟩
theorem PPieceR.kpE {vE vK : Value} {p : Pc} (h : PPieceR w S vE vK p) (k : Kp B S' w w') (hB : w.heap.size ≤ B) (hT : OfT w S' E) : PPieceR w' S vE vK p := ⟨h.E.kpE k hB hT, h.K.kpE k hB hT, h.sE, h.sK⟩
theorem PPieceR.below {vE vK : Value} {p : Pc} (h : PPieceR w S vE vK p) (k : Below w.heap.size w w') : PPieceR w' S vE vK p := ⟨h.E.below k, h.K.below k, h.sE, h.sK⟩
theorem PNodeR.mono {n : PN} (h : PNodeR w S n) (hS : ∀ b, S b → S' b) : PNodeR w S' n := ⟨h.pc.mono hS, h.kept, h.sKept.mono hS, fun k hk => (h.keptP k hk).mono hS, h.acked, h.sAcked.mono hS⟩
theorem PNodeR.kp {n : PN} (h : PNodeR w S n) (k : Kp B S' w w') (o : Off S B S') : PNodeR w' S n := ⟨h.pc.kp k o, own_off h.kept h.sKept k o, h.sKept, fun x hx => (h.keptP x hx).kp k o, own_off h.acked h.sAcked k o, h.sAcked⟩
theorem PNodeR.kpE {n : PN} (h : PNodeR w S n) (k : Kp B S' w w') (hB : w.heap.size ≤ B) (hT : OfT w S' E) (h1 : 145 ≠ E) (h2 : 3 ≠ E) : PNodeR w' S n :=
  ⟨h.pc.kpE k hB hT, own_kpE h.kept k hB hT h1, h.sKept, fun x hx => (h.keptP x hx).kpE k hB hT, own_kpE h.acked k hB hT h2, h.sAcked⟩
theorem PNodeR.below {n : PN} (h : PNodeR w S n) (k : Below w.heap.size w w') : PNodeR w' S n := ⟨h.pc.below k, own_below h.kept k, h.sKept, fun x hx => (h.keptP x hx).below k, own_below h.acked k, h.sAcked⟩
theorem PFlyR.mono {vF : Value} {fs : List PM} (h : PFlyR w S vF fs) (hS : ∀ b, S b → S' b) : PFlyR w S' vF fs := ⟨h.row, h.s.mono hS, fun k hk => (h.piece k hk).mono hS⟩
theorem PFlyR.kp {vF : Value} {fs : List PM} (h : PFlyR w S vF fs) (k : Kp B S' w w') (o : Off S B S') : PFlyR w' S vF fs := ⟨own_off h.row h.s k o, h.s, fun x hx => (h.piece x hx).kp k o⟩
theorem PFlyR.kpE {vF : Value} {fs : List PM} (h : PFlyR w S vF fs) (k : Kp B S' w w') (hB : w.heap.size ≤ B) (hT : OfT w S' E) (h3 : 92 ≠ E) : PFlyR w' S vF fs :=
  ⟨own_kpE h.row k hB hT h3, h.s, fun x hx => (h.piece x hx).kpE k hB hT⟩
theorem PFlyR.below {vF : Value} {fs : List PM} (h : PFlyR w S vF fs) (k : Below w.heap.size w w') : PFlyR w' S vF fs := ⟨own_below h.row k, h.s, fun x hx => (h.piece x hx).below k⟩
theorem ProgR.kp {p : Nat} {vN : Value} {ns : List PN} {vF : Value} {fs : List PM} (h : ProgR w S p vN ns vF fs) (k : Kp B S' w w') (o : Off S B S') : ProgR w' S p vN ns vF fs :=
  ⟨fun b hb => Nat.lt_of_lt_of_le (h.lt b hb) k.size, (k.block p (o p h.sp).1 (o p h.sp).2).trans h.self, h.sp, own_off h.nodes h.sN k o, h.sN, fun n hn => (h.node n hn).kp k o, h.disK, h.disA, h.fly.kp k o⟩
theorem ProgR.below {p : Nat} {vN : Value} {ns : List PN} {vF : Value} {fs : List PM} (h : ProgR w S p vN ns vF fs) (k : Below w.heap.size w w') : ProgR w' S p vN ns vF fs := h.kp (Kp.ofBelow k) (Off.none h.lt)
theorem ProgR.mono {p : Nat} {vN : Value} {ns : List PN} {vF : Value} {fs : List PM} (h : ProgR w S p vN ns vF fs) (hS : ∀ b, S b → S' b) (hl : ∀ b, S' b → b < w.heap.size) : ProgR w S' p vN ns vF fs :=
  ⟨hl, h.self, hS _ h.sp, h.nodes, h.sN.mono hS, fun n hn => (h.node n hn).mono hS, h.disK, h.disA, h.fly.mono hS⟩
theorem ProgR.ext {p : Nat} {vN : Value} {ns : List PN} {vF : Value} {fs : List PM} (h : ProgR w S p vN ns vF fs) (hl : ∀ b, S b → b < w'.heap.size) (k : w'.heap.size ≤ w.heap.size) : ProgR w (Ext S w' w) p vN ns vF fs :=
  h.mono (fun b hb => Or.inl hb) (fun b hb => by
    rcases hb with hb | hb
    · exact Nat.lt_of_lt_of_le (hl b hb) k
    · exact hb.2)
end

/-- The cells of a node, where it lies. -/
theorem ProgR.at {w : World} {S : Nat → Prop} {p : Nat} {vN : Value} {ns : List PN} {vF : Value} {fs : List PM} (h : ProgR w S p vN ns vF fs) {i : Nat} {d : PN} (hd : ns[i]? = some d) :
    ∃ g c, vN = .slice (some ⟨g, 0, none⟩) ns.length c ∧ S g ∧ g < w.heap.size ∧ g ≠ p ∧ (∀ j, j < 5 → w.cell? ⟨g, i * 5 + j, none⟩ = (pnC d)[j]?) ∧ (∀ j, w.frozen? ⟨g, j, none⟩ = false) := by
  have hi : i < ns.length := by
    rcases Nat.lt_or_ge i ns.length with h | h
    · exact h
    · rw [List.getElem?_eq_none h] at hd; cases hd
  rcases h.nodes.2 with ⟨_, h0⟩ | ⟨g, cap, cur, rfl, hb, hgg, h1, h2, h3, h4⟩
  · omega
  · refine ⟨g, cap, rfl, h.sN g rfl, lt_of_heap hgg, ?_, fun j hj => ?_, (row_facts hgg).2⟩
    · rintro rfl
      have := h.self.symm.trans hgg
      simp at this
    · rw [← flat_get pnW ns i j d hd hj]
      have hx : i * 5 + j < (ns.flatMap pnC).length := by rw [flat_len pnW]; omega
      obtain ⟨u, hu⟩ := get_some hx
      rw [hu]
      exact own_cell h.nodes rfl hu

/-! What the joined piece holds is the model's. -/
theorem mem_putIf (p : Ent → Bool) (l : List Ent) (x : Ent) : ∀ acc, x ∈ l.foldl (putIf p) acc ↔ x ∈ acc ∨ (x ∈ l ∧ p x = true) := by
  induction l with
  | nil => intro acc; simp
  | cons e l ih =>
    intro acc
    rw [List.foldl_cons, ih]
    unfold putIf
    by_cases hp : p e = true
    · rw [if_pos hp, mem_insB]
      constructor
      · rintro ((h | rfl) | h)
        · exact Or.inl h
        · exact Or.inr ⟨by simp, hp⟩
        · exact Or.inr ⟨by simp [h.1], h.2⟩
      · rintro (h | ⟨h1, h2⟩)
        · exact Or.inl (Or.inl h)
        · rcases List.mem_cons.1 h1 with rfl | h1
          · exact Or.inl (Or.inr rfl)
          · exact Or.inr ⟨h1, h2⟩
    · rw [if_neg hp]
      constructor
      · rintro (h | h)
        · exact Or.inl h
        · exact Or.inr ⟨by simp [h.1], h.2⟩
      · rintro (h | ⟨h1, h2⟩)
        · exact Or.inl h
        · rcases List.mem_cons.1 h1 with rfl | h1
          · exact absurd h2 hp
          · exact Or.inr ⟨h1, h2⟩
theorem mem_learns (l : List Tok) (x : Tok) : ∀ acc, x ∈ l.foldl learnL acc ↔ x ∈ acc ∨ x ∈ l := by
  induction l with
  | nil => intro acc; simp
  | cons e l ih =>
    intro acc
    rw [List.foldl_cons, ih, mem_learn, List.mem_cons, or_assoc]
theorem mem_joinL (aL bL : List Ent) (aK bK : List Tok) (x : Ent) : x ∈ joinL aL aK bL bK ↔ (x ∈ aL ∧ keepB bL bK x = true) ∨ (x ∈ bL ∧ keepB aL aK x = true) := by
  rw [joinL, mem_putIf, mem_putIf]
  simp only [keepA, keepB, List.not_mem_nil, false_or, Bool.or_eq_true, decide_eq_true_eq, Bool.not_eq_true', decide_eq_false_iff_not]
  constructor
  · rintro (h | h)
    · exact Or.inl h
    · exact Or.inr ⟨h.1, Or.inr h.2⟩
  · rintro (h | ⟨h1, h2 | h2⟩)
    · exact Or.inl h
    · exact Or.inl ⟨h2, Or.inl h1⟩
    · exact Or.inr ⟨h1, h2⟩
theorem mem_joinK (aK bK : List Tok) (x : Tok) : x ∈ joinK aK bK ↔ x ∈ aK ∨ x ∈ bK := by
  rw [joinK, mem_learns, mem_learns]
  simp
theorem keepB_congr {os os' : List Ent} {ts ts' : List Tok} (h1 : ∀ x, x ∈ os ↔ x ∈ os') (h2 : ∀ x, x ∈ ts ↔ x ∈ ts') (e : Ent) : keepB os ts e = keepB os' ts' e := by
  simp only [keepB, h1, h2]
end Go.Proofs.YtnniimfinakioaaGreatDoor
namespace Go.Proofs.YtnniimfinakioaaGreatDoor
open Go.RowKit
attribute [local go_sem] toList_nm app_nm size_nm

theorem eKept : ElemT Tryz.prog 97 145 3 24 := ElemT.mk' (z := .agg #[.int .i64 0, .map none, .map none]) (by kernel_rfl) (by kernel_rfl) rfl (by decide)

theorem join_set (w : World) (vA vAK vB vBK : Value) (a b : Pc) (hA : SetV entV w vA a.L) (hAK : SetV tokV w vAK a.K) (hB : SetV entV w vB b.L) (hBK : SetV tokV w vBK b.K) :
    Calls Tryz.prog 87 #[.agg #[vA, vAK], .agg #[vB, vBK]] w fun e w' => ∃ c k, e = .returned (.agg #[.map (some c), .map (some k)]) ∧ w.heap.size ≤ c ∧ w.heap.size ≤ k ∧ SetV entV w' (.map (some c)) (joinP a b).L ∧ SetV tokV w' (.map (some k)) (joinP a b).K ∧ Below w.heap.size w w' := by
  obtain ⟨ea, ha1, ha2⟩ := hA
  obtain ⟨ka, hk1, hk2⟩ := hAK
  obtain ⟨eb, hb1, hb2⟩ := hB
  obtain ⟨kb, hc1, hc2⟩ := hBK
  refine (join_any w vA vAK vB vBK ea eb ka kb ha1 hk1 hb1 hc1).mono ?_
  rintro e w' ⟨c, k, E, T, rfl, h1, h2, _, hJ, hb⟩
  refine ⟨c, k, rfl, h1, h2, ⟨E, ⟨hJ.en, Or.inr ⟨c, rfl, hJ.e⟩⟩, fun x => ?_⟩, ⟨T, ⟨hJ.tn, Or.inr ⟨k, rfl, hJ.t⟩⟩, fun x => ?_⟩, hb⟩
  · rw [hJ.em]
    show _ ↔ x ∈ joinL _ _ _ _
    rw [mem_joinL, ha2, hb2, keepB_congr hb2 hc2, keepB_congr ha2 hk2]
  · rw [hJ.tm]
    show _ ↔ x ∈ joinK _ _
    rw [mem_joinK, hk2, hc2]

/-- The row of nodes, and what becomes of it when one cell is set. -/
def PdR (w : World) (vN : Value) (ns : List PN) : Prop := w.ownsRow 0 99 5 vN ns.length (ns.flatMap pnC)
theorem PdR.set {w : World} {g c j : Nat} {ns : List PN} (h : PdR w (.slice (some ⟨g, 0, none⟩) ns.length c) ns) {i : Nat} {d d' : PN} {u : Value} (hd : ns[i]? = some d) (hj : j < 5) (h' : pnC d' = (pnC d).set j u) :
    PdR (w.setCell ⟨g, i * 5 + j, none⟩ u) (.slice (some ⟨g, 0, none⟩) ns.length c) (ns.set i d') := by
  have hi : i < ns.length := (List.getElem?_eq_some_iff.1 hd).1
  have := own_set (g := g) (j := i * 5 + j) (u := u) h rfl (by rw [flat_len pnW]; omega)
  unfold PdR
  rw [List.length_set, ← flat_set pnW ns i j d d' u hd hj h']
  exact this
theorem PdR.cells {w : World} {g c : Nat} {ns : List PN} {l : Nat} (h : PdR w (.slice (some ⟨g, 0, none⟩) l c) ns) {i : Nat} {d : PN} (hd : ns[i]? = some d) :
    (∀ j, j < 5 → w.cell? ⟨g, i * 5 + j, none⟩ = (pnC d)[j]?) ∧ (∀ j, w.frozen? ⟨g, j, none⟩ = false) := by
  have hi : i < ns.length := (List.getElem?_eq_some_iff.1 hd).1
  rcases h.2 with ⟨hx, h0⟩ | ⟨g', cap, cur, hx, hb, hgg, h1, h2, h3, h4⟩
  · omega
  · simp only [Value.slice.injEq, Option.some.injEq, Addr.mk.injEq, and_true] at hx
    obtain ⟨rfl, _, _⟩ := hx
    refine ⟨fun j hj => ?_, (row_facts hgg).2⟩
    rw [← flat_get pnW ns i j d hd hj]
    have hx : i * 5 + j < (ns.flatMap pnC).length := by rw [flat_len pnW]; omega
    obtain ⟨u, hu⟩ := get_some hx
    rw [hu]
    exact own_cell h rfl hu

theorem take_done {w w2 w3 : World} {S S2 Sx : Nat → Prop} {p g c i : Nat} {ns : List PN} {vF : Value} {fs : List PM} {vE vK vE' vK' v3 : Value} {d : PN} {q : Pc}
    (h : ProgR w S p (.slice (some ⟨g, 0, none⟩) ns.length c) ns vF fs) (hd : ns[i]? = some d) (hSg : S g) (hgp : g ≠ p) (hK2 : Kp w.heap.size S w w2)
    (nd2 : ∀ n ∈ ns, PNodeR w2 S n) (fl2 : PFlyR w2 S vF fs) (self2 : w2.heap[p]? = some (.cells #[.slice (some ⟨g, 0, none⟩) ns.length c, vF] 84 (0, 0)))
    (jL : SetV entV w2 vE' (joinP d.p q).L) (jK : SetV tokV w2 vK' (joinP d.p q).K) (nL : ∀ g, mapB vE' = some g → w.heap.size ≤ g) (nK : ∀ g, mapB vK' = some g → w.heap.size ≤ g)
    (hqq : PPieceR w2 S2 vE vK q) (hS2 : ∀ b, S2 b → S b) (n3 : PdR w3 (.slice (some ⟨g, 0, none⟩) ns.length c) (ns.set i { d with vE := vE', vK := vK', p := joinP d.p q }))
    (hSx : Sx = fun b => d.vKept.ownBlock = some b) (kp3 : Kp w2.heap.size Sx w2 w3)
    (hown3 : w3.ownsRow 0 145 3 v3 (d.kept.length + 1) (d.kept.flatMap pkC ++ pkC ⟨d.count, vE, vK, q⟩)) (hat3 : v3.ownBlock = d.vKept.ownBlock ∨ v3.ownBlock = some (w2.heap.size + 1)) (m : Nat) :
    ProgR ((w3.setCell ⟨g, i * 5 + 3, none⟩ v3).setCell ⟨g, i * 5 + 2, none⟩ (.int .i64 ((d.count + 1 : Nat) : Int))) (Ext S w ((w3.setCell ⟨g, i * 5 + 3, none⟩ v3).setCell ⟨g, i * 5 + 2, none⟩ (.int .i64 ((d.count + 1 : Nat) : Int)))) p (.slice (some ⟨g, 0, none⟩) ns.length c)
      (ns.set i { d with vE := vE', vK := vK', p := joinP d.p q, count := d.count + 1, vKept := v3, kept := d.kept ++ [⟨d.count, vE, vK, q⟩], made := m }) vF fs ∧
    Kp w.heap.size S w ((w3.setCell ⟨g, i * 5 + 3, none⟩ v3).setCell ⟨g, i * 5 + 2, none⟩ (.int .i64 ((d.count + 1 : Nat) : Int))) := by
  have hn := h.node d (List.mem_of_getElem? hd)
  have hl : ∀ x : PN, (ns.set i x).length = ns.length := fun x => List.length_set
  have ot3 : OfT w3 (fun b => b = g) 99 := OfT.row n3 rfl
  have kp5 : Kp w3.heap.size (fun b => b = g) w3 ((w3.setCell ⟨g, i * 5 + 3, none⟩ v3).setCell ⟨g, i * 5 + 2, none⟩ (.int .i64 ((d.count + 1 : Nat) : Int))) := (Kp.set1 w3 g _ _).setCell (p := ⟨g, i * 5 + 2, none⟩) (Or.inr rfl) _
  have n5 : PdR ((w3.setCell ⟨g, i * 5 + 3, none⟩ v3).setCell ⟨g, i * 5 + 2, none⟩ (.int .i64 ((d.count + 1 : Nat) : Int))) (.slice (some ⟨g, 0, none⟩) ns.length c)
      (ns.set i { d with vE := vE', vK := vK', p := joinP d.p q, count := d.count + 1, vKept := v3, kept := d.kept ++ [⟨d.count, vE, vK, q⟩], made := m }) := by
    have e1 := n3
    rw [← hl { d with vE := vE', vK := vK', p := joinP d.p q }] at e1
    have e2 := PdR.set (j := 3) (u := v3) (d' := { d with vE := vE', vK := vK', p := joinP d.p q, vKept := v3, kept := d.kept ++ [⟨d.count, vE, vK, q⟩] }) e1 (set_get hd) (by decide) rfl
    rw [List.set_set, hl] at e2
    rw [← hl { d with vE := vE', vK := vK', p := joinP d.p q, vKept := v3, kept := d.kept ++ [⟨d.count, vE, vK, q⟩] }] at e2
    have e3 := PdR.set (j := 2) (u := .int .i64 ((d.count + 1 : Nat) : Int)) (d' := { d with vE := vE', vK := vK', p := joinP d.p q, count := d.count + 1, vKept := v3, kept := d.kept ++ [⟨d.count, vE, vK, q⟩], made := m }) e2 (set_get hd) (by decide) rfl
    rw [List.set_set, hl] at e3
    exact e3
  generalize (w3.setCell ⟨g, i * 5 + 3, none⟩ v3).setCell ⟨g, i * 5 + 2, none⟩ (.int .i64 ((d.count + 1 : Nat) : Int)) = w5 at *
  have hs2 := hK2.size
  have hs3 := kp3.size
  have hs5 := kp5.size
  have otx : OfT w2 Sx 145 := by rw [hSx]; exact OfT.own (nd2 d (List.mem_of_getElem? hd)).kept
  have hSxS : ∀ b, Sx b → S b := fun b hb => by rw [hSx] at hb; exact hn.sKept b hb
  have hplt : p < w.heap.size := h.lt p h.sp
  have hpx : ¬ Sx p := fun hx => by
    obtain ⟨c', fz, hc⟩ := otx p hx
    rw [self2] at hc
    simp at hc
  have kpAll : Kp w.heap.size S w w5 := (hK2.trans (kp3.mono hs2 (fun b _ hb => hSxS b hb))).trans (kp5.mono (Nat.le_trans hs2 hs3) (fun b _ hb => hb ▸ hSg))
  have pce : ∀ {S : Nat → Prop} {a b : Value} {r : Pc}, PPieceR w2 S a b r → PPieceR w5 S a b r := fun hp => (hp.kpE kp3 (Nat.le_refl _) otx).kpE kp5 (Nat.le_refl _) ot3
  have ak : ∀ {n : PN}, PNodeR w2 S n → w5.ownsRow 0 3 1 n.vAcked n.acked.length (intC n.acked) := fun hp => own_kpE (own_kpE hp.acked kp3 (Nat.le_refl _) otx (by decide)) kp5 (Nat.le_refl _) ot3 (by decide)
  have hmono : ∀ b, S b → Ext S w w5 b := fun b hb => Or.inl hb
  have jL5 : SetV entV w5 vE' (joinP d.p q).L := (jL.kpE kp3 (Nat.le_refl _) otx).kpE kp5 (Nat.le_refl _) ot3
  have jK5 : SetV tokV w5 vK' (joinP d.p q).K := (jK.kpE kp3 (Nat.le_refl _) otx).kpE kp5 (Nat.le_refl _) ot3
  have hown5 := own_kpE hown3 kp5 (Nat.le_refl _) ot3 (by decide)
  refine ⟨⟨?_, ?_, hmono p h.sp, ?_, h.sN.mono hmono, ?_, ?_, ?_, ((fl2.kpE kp3 (Nat.le_refl _) otx (by decide)).kpE kp5 (Nat.le_refl _) ot3 (by decide)).mono hmono⟩, kpAll⟩
  · rintro b (hb | hb)
    · exact Nat.lt_of_lt_of_le (h.lt b hb) kpAll.size
    · exact hb.2
  · exact (kp5.block p (by omega) (Ne.symm hgp)).trans ((kp3.block p (by omega) hpx).trans self2)
  · exact n5
  · intro n hnm
    obtain ⟨j, hj⟩ := List.mem_iff_getElem?.1 hnm
    rcases set_at hj with ⟨rfl, rfl⟩ | ⟨hij, hj⟩
    · have hd2 := nd2 d (List.mem_of_getElem? hd)
      refine ⟨⟨jL5, jK5, fun b hb => Or.inr ⟨nL b hb, jL5.lt hb⟩, fun b hb => Or.inr ⟨nK b hb, jK5.lt hb⟩⟩, ?_, ?_, ?_, ak (n := d) hd2, hd2.sAcked.mono hmono⟩
      · have e1 : (d.kept ++ [(⟨d.count, vE, vK, q⟩ : PK)]).length = d.kept.length + 1 := by simp
        have e2 : (d.kept ++ [(⟨d.count, vE, vK, q⟩ : PK)]).flatMap pkC = d.kept.flatMap pkC ++ pkC ⟨d.count, vE, vK, q⟩ := by simp
        show w5.ownsRow 0 145 3 v3 (d.kept ++ [(⟨d.count, vE, vK, q⟩ : PK)]).length ((d.kept ++ [(⟨d.count, vE, vK, q⟩ : PK)]).flatMap pkC)
        rw [e1, e2]
        exact hown5
      · intro b hb
        rcases hat3 with e | e
        · exact Or.inl (hn.sKept b (e ▸ hb))
        · refine Or.inr ⟨?_, (hown5.lt b hb).2⟩
          have hb' : v3.ownBlock = some b := hb
          rw [e] at hb'
          simp only [Option.some.injEq] at hb'
          omega
      · intro k hk
        simp only [List.mem_append, List.mem_singleton] at hk
        rcases hk with hk | rfl
        · exact (pce (hd2.keptP k hk)).mono hmono
        · exact (pce hqq).mono fun b hb => hmono b (hS2 b hb)
    · have hn2 := nd2 n (List.mem_of_getElem? hj)
      refine PNodeR.mono (S := S) ⟨pce hn2.pc, ?_, hn2.sKept, fun k hk => pce (hn2.keptP k hk), ak hn2, hn2.sAcked⟩ hmono
      refine own_kpE (own_kp hn2.kept kp3 (fun b hb => ⟨(hn2.kept.lt b hb).2, fun hx => ?_⟩)) kp5 (Nat.le_refl _) ot3 (by decide)
      rw [hSx] at hx
      exact hij (h.disK i j d n b hd hj hx hb)
  · intro a b x y b' ha hb h1 h2
    have fresh : ∀ (j : Nat) (n : PN), ns[j]? = some n → i ≠ j → v3.ownBlock = some b' → n.vKept.ownBlock = some b' → False := fun j n hj hij e1 e2 => by
      rcases hat3 with e | e
      · exact hij (h.disK i j d n b' hd hj (e ▸ e1) e2)
      · have := h.lt b' ((h.node n (List.mem_of_getElem? hj)).sKept b' e2)
        rw [e] at e1
        simp only [Option.some.injEq] at e1
        omega
    rcases set_at ha with ⟨rfl, rfl⟩ | ⟨hia, ha⟩ <;> rcases set_at hb with ⟨rfl, rfl⟩ | ⟨hib, hb⟩
    · rfl
    · exact (fresh b y hb hib h1 h2).elim
    · exact (fresh a x ha hia h2 h1).elim
    · exact h.disK a b x y b' ha hb h1 h2
  · intro a b x y b' ha hb h1 h2
    rcases set_at ha with ⟨rfl, rfl⟩ | ⟨hia, ha⟩ <;> rcases set_at hb with ⟨rfl, rfl⟩ | ⟨hib, hb⟩
    · rfl
    · exact h.disA _ _ _ _ b' hd hb h1 h2
    · exact h.disA _ _ _ _ b' ha hd h1 h2
    · exact h.disA _ _ _ _ b' ha hb h1 h2

end Go.Proofs.YtnniimfinakioaaGreatDoor
namespace Go.Proofs.YtnniimfinakioaaGreatDoor
open Go.RowKit
attribute [local go_sem] toList_nm app_nm size_nm

set_option maxHeartbeats 2000000 in
set_option maxRecDepth 100000 in
theorem takeIn_any (w : World) (S : Nat → Prop) (p g c : Nat) (ns : List PN) (vF : Value) (fs : List PM) (h : ProgR w S p (.slice (some ⟨g, 0, none⟩) ns.length c) ns vF fs) (i : Nat) (d : PN) (hd : ns[i]? = some d)
    (vE vK : Value) (q : Pc) (hq : PPieceR w S vE vK q) (hc : d.count ≤ 1000000000) (hk : d.kept.length ≤ 1000000000) (m : Nat) :
    Calls Tryz.prog 57 #[.pointer (some ⟨g, i * 5, none⟩), .agg #[vE, vK]] w fun e w' => e = .returned (.tuple #[]) ∧
      (∃ vE' vK' vKept', ProgR w' (Ext S w w') p (.slice (some ⟨g, 0, none⟩) ns.length c) (ns.set i { d with vE := vE', vK := vK', p := joinP d.p q, count := d.count + 1, vKept := vKept', kept := d.kept ++ [⟨d.count, vE, vK, q⟩], made := m }) vF fs) ∧ Kp w.heap.size S w w' := by
  obtain ⟨g', c', hgc, hSg, hg, hgp, hcell, hfz⟩ := h.at hd
  simp only [Value.slice.injEq, Option.some.injEq, Addr.mk.injEq, and_true] at hgc
  obtain ⟨rfl, _, rfl⟩ := hgc
  have hnd := h.node d (List.mem_of_getElem? hd)
  have hilt : i < ns.length := (List.getElem?_eq_some_iff.1 hd).1
  obtain ⟨m1, rfl⟩ : ∃ m1, vE = .map m1 := ⟨_, hq.E.form⟩
  obtain ⟨m2, rfl⟩ : ∃ m2, vK = .map m2 := ⟨_, hq.K.form⟩
  have c0 := hcell 0 (by decide)
  have c1 := hcell 1 (by decide)
  have c2 := hcell 2 (by decide)
  have c3 := hcell 3 (by decide)
  simp only [pnC, List.getElem?_cons_zero, List.getElem?_cons_succ, Nat.add_zero] at c0 c1 c2 c3
  clear hcell
  have hb0 : Below (w.heap.size + 1) (w.alloc (.cells #[.map m1, .map m2] 90)) (w.alloc (.cells #[.map m1, .map m2] 90)) := Below.refl _ _
  have hplt : p < w.heap.size := lt_of_heap h.self
  go_enter Tryz.func57, Tryz.ntmps57
  go_wp2_with fail
  obtain ⟨b1, b2, b3, b4, b5⟩ := bx1 hb0
  clear hb0
  generalize w.alloc (.cells #[.map m1, .map m2] 90) = W0 at *
  obtain ⟨md1, hd1⟩ : ∃ m, d.vE = .map m := ⟨_, hnd.pc.E.form⟩
  obtain ⟨md2, hd2⟩ : ∃ m, d.vK = .map m := ⟨_, hnd.pc.K.form⟩
  have k0 : W0.cell? ⟨g, i * 5, none⟩ = some d.vE := (b3 g _ hg).trans c0
  have k1 : W0.cell? ⟨g, i * 5 + 1, none⟩ = some d.vK := (b3 g _ hg).trans c1
  have k2 : W0.cell? ⟨w.heap.size, 0, none⟩ = some (.map m1) := b1 0
  have k3 : W0.cell? ⟨w.heap.size, 1, none⟩ = some (.map m2) := b1 1
  have hgW : g < W0.heap.size := by omega
  have hwW : w.heap.size < W0.heap.size := by omega
  have b4' : Below w.heap.size w W0.drew := b4.drew
  have jL := hnd.pc.E.below b4'
  have jK := hnd.pc.K.below b4'
  have jL2 := hq.E.below b4'
  have jK2 := hq.K.below b4'
  rw [hd1] at k0 jL
  rw [hd2] at k1 jK
  have HdL := hide hd1
  have HdK := hide hd2
  have Hc2 := hide c2
  have Hc3 := hide c3
  have Hb3 := hide b3
  clear hd1 hd2 b1 b2 c0 c1 c2 c3 b3
  have hG := Grw.cell W0
  have hGn := Grw.some W0
  refine wp_region_flt [0, 1, 2, 3, 4, 5] [6, 7, 8, 9] (fun w' => ∃ x : Grw W0, w' = x.w) (by kernel_rfl) (by kernel_rfl) (fun _ _ d _ _ h => by cases d <;> exact h) ⟨⟨W0.drew, (Below.refl _ _).drew⟩, rfl⟩ ?_
  simp only [pickOps, List.getElem?_cons_zero, List.getElem?_cons_succ]
  repeat (go_big_quiet_step (fail))
  refine wpQuiet_nil ?_
  refine ⟨_, rfl, ?_⟩
  go_wp2_with fail
  refine (join_set W0.drew _ _ _ _ d.p q jL jK jL2 jK2).mono ?_
  rintro e w1 ⟨jc, jk, rfl, hnL, hnK, hJL, hJK, hb1⟩
  go_wp2_with fail
  have hb1' : Below W0.heap.size W0 w1 := ⟨hb1.os, hb1.tape, hb1.output, hb1.size, hb1.block⟩
  have hw1 : Below w.heap.size w w1 := b4.trans (hb1'.mono b4.size)
  have hr1 := h.below hw1
  have hn1 : PdR w1 (.slice (some ⟨g, 0, none⟩) ns.length c) ns := hr1.nodes
  obtain ⟨q1, q2⟩ := hn1.cells hd
  have r0 := q1 0 (by decide)
  have r1 := q1 1 (by decide)
  simp only [pnC, List.getElem?_cons_zero, List.getElem?_cons_succ, Nat.add_zero] at r0 r1
  clear q1
  refine ⟨fun _ => ⟨⟨w1, hb1'⟩, rfl⟩, _, rfl, ?_⟩
  go_wp2_with fail
  refine ⟨fun _ => ⟨⟨w1, hb1'⟩, rfl⟩, _, rfl, ?_⟩
  go_wp2_with fail
  refine ⟨fun _ => ⟨⟨w1, hb1'⟩, rfl⟩, _, rfl, ?_⟩
  go_wp2_with fail
  refine ⟨fun h => absurd rfl h, ?_⟩
  show Exit.then _ _ _ _ _
  go_wp2_with fail
  have hp1 : p ≠ g := Ne.symm hgp
  have kp2 : Kp w1.heap.size (fun b => b = g) w1 ((w1.setCell ⟨g, i * 5, none⟩ (.map (some jc))).setCell ⟨g, i * 5 + 1, none⟩ (.map (some jk))) :=
    (Kp.set1 w1 g _ _).setCell (p := ⟨g, i * 5 + 1, none⟩) (Or.inr rfl) _
  have n2 : PdR ((w1.setCell ⟨g, i * 5, none⟩ (.map (some jc))).setCell ⟨g, i * 5 + 1, none⟩ (.map (some jk))) (.slice (some ⟨g, 0, none⟩) ns.length c)
      ((ns.set i { d with vE := .map (some jc), p := joinP d.p q }).set i { d with vE := .map (some jc), vK := .map (some jk), p := joinP d.p q }) := by
    have s1 := hn1.set (j := 0) (u := .map (some jc)) (d' := { d with vE := .map (some jc), p := joinP d.p q }) hd (by decide) rfl
    have hl : (ns.set i { d with vE := .map (some jc), p := joinP d.p q }).length = ns.length := List.length_set
    rw [← hl] at s1 ⊢
    exact PdR.set (j := 1) s1 (set_get hd) (by decide) rfl
  rw [List.set_set] at n2
  have ot1 : OfT w1 (fun b => b = g) 99 := OfT.row hn1 rfl
  have nd2 := fun n hn => (hr1.node n hn).kpE kp2 (Nat.le_refl _) ot1 (by decide) (by decide)
  have self2 := (kp2.block p (lt_of_heap hr1.self) hp1).trans hr1.self
  have jL' := hJL.kpE kp2 (Nat.le_refl _) ot1
  have jK' := hJK.kpE kp2 (Nat.le_refl _) ot1
  have hqq := (hq.below hw1).kpE kp2 (Nat.le_refl _) ot1
  have x0 := (kp2.cell (p := ⟨w.heap.size, 0, none⟩) (Nat.lt_of_lt_of_le hwW hb1'.size) (by simp; omega)).trans ((hb1'.cell (p := ⟨w.heap.size, 0, none⟩) hwW).trans k2)
  have x1 := (kp2.cell (p := ⟨w.heap.size, 1, none⟩) (Nat.lt_of_lt_of_le hwW hb1'.size) (by simp; omega)).trans ((hb1'.cell (p := ⟨w.heap.size, 1, none⟩) hwW).trans k3)
  have hK2 : Kp w.heap.size S w ((w1.setCell ⟨g, i * 5, none⟩ (.map (some jc))).setCell ⟨g, i * 5 + 1, none⟩ (.map (some jk))) := (Kp.ofBelow hw1).trans (kp2.mono hw1.size (fun b _ hb => hb ▸ hSg))
  have hs2 := kp2.size
  generalize (w1.setCell ⟨g, i * 5, none⟩ (.map (some jc))).setCell ⟨g, i * 5 + 1, none⟩ (.map (some jk)) = w2 at *
  obtain ⟨q1, q2'⟩ := n2.cells (set_get hd)
  have r2 := q1 2 (by decide)
  have r3 := q1 3 (by decide)
  simp only [pnC, List.getElem?_cons_zero, List.getElem?_cons_succ] at r2 r3
  obtain ⟨oKe, cKe, hKe, _, _⟩ := own_form hnd.kept
  rw [hKe] at r3
  have HKe := hide hKe
  have hg2 : g < w2.heap.size := Nat.lt_of_lt_of_le (Nat.lt_of_lt_of_le hgW hb1'.size) hs2
  have hwW2 : w.heap.size < w2.heap.size := Nat.lt_of_lt_of_le (Nat.lt_of_lt_of_le hwW hb1'.size) hs2
  have fl2 := hr1.fly.kpE kp2 (Nat.le_refl _) ot1 (by decide)
  have keep2 := nd2 d (List.mem_of_getElem? hd)
  have keep3 : w2.ownsRow 0 145 3 (.slice oKe d.kept.length cKe) d.kept.length (d.kept.flatMap pkC) := hKe ▸ keep2.kept
  obtain ⟨Sx, hSx⟩ : ∃ Sx : Nat → Prop, Sx = fun b => (Value.slice oKe d.kept.length cKe).ownBlock = some b := ⟨_, rfl⟩
  have sg : ¬ Sx g := by
    obtain ⟨c', fz', hc⟩ := OfT.row n2 rfl g rfl
    rw [hSx]
    exact own_ne keep3 hc (by decide)
  have sb : ¬ Sx w.heap.size := by
    rw [hSx]
    intro hx
    have := h.lt _ (hnd.sKept w.heap.size (by rw [hKe]; exact hx))
    omega
  have HSx := hide hSx
  clear hG hGn k0 k1 k2 k3 r0 r1 q2 hKe q1 hSx
  have hG := GrS.cell w2 Sx
  have hGn := GrS.some w2 Sx
  refine wp_region_flt [0, 1, 2, 3, 4, 5, 6, 7, 8, 9, 10] [11, 12, 13, 14, 15] (fun w' => ∃ x : GrS w2 Sx, w' = x.w) (by kernel_rfl) (by kernel_rfl) (fun _ _ d _ _ h => by cases d <;> exact h) ⟨⟨w2.drew, (Kp.refl _ _ _).drew⟩, rfl⟩ ?_
  simp only [pickOps, List.getElem?_cons_zero, List.getElem?_cons_succ]
  repeat (go_big_quiet_step (fail))
  refine wpQuiet_nil ?_
  refine ⟨_, rfl, ?_⟩
  go_wp2_with fail
  refine ⟨fun _ => ⟨⟨_, ((Kp.refl _ _ _).alloc (Nat.le_refl _) _).drew⟩, rfl⟩, _, rfl, ?_⟩
  refine wpList_app (t := 97) _ eKept (by rfl) _ _ (by rfl) (.slice oKe d.kept.length cKe) d.kept.length (d.kept.flatMap pkC) (by rfl) ?own _ 1 (pkC ⟨d.count, .map m1, .map m2, q⟩) (by rfl) ?src ?h63 ?hby ?next
  case own => exact keep3.alloc _
  case src => exact ⟨rfl, by intro u hu; simp [pkC] at hu; rcases hu with rfl | rfl | rfl <;> rfl, Or.inr ⟨_, _, rfl, World.news_of_block (cs := #[.int .i64 d.count, .map m1, .map m2]) (heap_alloc_new w2 _)⟩⟩
  case h63 => simp only [maxLen]; omega
  case hby => omega
  case next =>
    intro v3 w3 hown3 hgr3 hat3
    have kp3 : Kp w2.heap.size Sx w2 w3 := by
      have k1 := ((Kp.refl w2.heap.size Sx w2).alloc (Nat.le_refl _) (.cells #[.int .i64 d.count, .map m1, .map m2] 145)).drew
      exact k1.grown hgr3 (by simp) (fun k hk => Or.inr (by rw [HSx.out]; exact hk))
    obtain ⟨o3, c3, rfl, _, _⟩ := own_form hown3
    have n3 : PdR w3 (.slice (some ⟨g, 0, none⟩) ns.length c) (ns.set i { d with vE := .map (some jc), vK := .map (some jk), p := joinP d.p q }) := own_kp n2 kp3 (fun g' hg' => by
      simp [Value.ownBlock] at hg'
      subst hg'
      exact ⟨hg2, sg⟩)
    obtain ⟨q1, q3⟩ := n3.cells (set_get hd)
    have r3' := q1 3 (by decide)
    have r2' := q1 2 (by decide)
    simp only [pnC, List.getElem?_cons_zero, List.getElem?_cons_succ] at r3' r2'
    rw [HKe.out] at r3'
    clear q1
    go_wp2_with fail
    refine ⟨fun _ => ⟨⟨w3, kp3⟩, rfl⟩, _, rfl, ?_⟩
    go_wp2_with fail
    refine ⟨fun _ => ⟨⟨w3, kp3⟩, rfl⟩, _, rfl, ?_⟩
    go_wp2_with fail
    refine ⟨fun _ => ⟨⟨w3, kp3⟩, rfl⟩, _, rfl, ?_⟩
    go_wp2_with fail
    refine ⟨fun h => absurd rfl h, ?_⟩
    show Exit.then _ _ _ _ _
    go_wp2_with fail
    have fin := take_done (m := m) (S2 := S) h hd hSg hgp hK2 nd2 fl2 self2 (vE' := .map (some jc)) (vK' := .map (some jk)) jL' jK' (fun g hg => by simp [mapB] at hg; subst hg; exact Nat.le_trans (Nat.le_trans (Nat.le_succ _) b5) hnL) (fun g hg => by simp [mapB] at hg; subst hg; exact Nat.le_trans (Nat.le_trans (Nat.le_succ _) b5) hnK) hqq (fun _ hb => hb) n3 (Sx := Sx) (by rw [HSx.out, HKe.out]) kp3 hown3 (by rw [HKe.out]; simpa using hat3)
    go_end0
    exact ⟨rfl, ⟨_, _, _, fin.1⟩, fin.2⟩
end Go.Proofs.YtnniimfinakioaaGreatDoor
