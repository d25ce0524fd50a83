import Derived.Test.YtnniimfinakioaaGreatDoorXh
namespace Go.Proofs.YtnniimfinakioaaGreatDoor
open Go.RowKit

/-! Pieces by what they know, and what they know to be gone: a join is a union of both. -/
def Dead (p : Pc) (t : Tok) : Prop := t ∈ p.K ∧ ∀ e ∈ p.L, e.2 ≠ t
structure Le (a b : Pc) : Prop where
  k : ∀ t ∈ a.K, t ∈ b.K
  d : ∀ t, Dead a t → Dead b t
def zPc : Pc := ⟨[], []⟩
section
variable {H : List Ent} {a b c : Pc}
theorem Le.refl (a : Pc) : Le a a := ⟨fun _ h => h, fun _ h => h⟩
theorem Le.trans (h : Le a b) (h' : Le b c) : Le a c := ⟨fun t ht => h'.k t (h.k t ht), fun t ht => h'.d t (h.d t ht)⟩
theorem Le.zero (a : Pc) : Le zPc a := ⟨fun t ht => by simp [zPc] at ht, fun t ht => by simp [Dead, zPc] at ht⟩
theorem same_of (hH : (H.map Prod.snd).Nodup) {x y : Ent} (hx : x ∈ H) (hy : y ∈ H) (e : x.2 = y.2) : x = y := nodup_inj hH x hx y hy e
theorem not_dead {p : Pc} {t : Tok} (ht : t ∈ p.K) (h : ¬ Dead p t) : ∃ e ∈ p.L, e.2 = t := by
  refine Classical.byContradiction fun hn => h ⟨ht, fun e he e2 => hn ⟨e, he, e2⟩⟩
theorem dead_join (hH : (H.map Prod.snd).Nodup) (ha : PcOk H a) (hb : PcOk H b) (t : Tok) : Dead (joinP a b) t ↔ Dead a t ∨ Dead b t := by
  constructor
  · rintro ⟨h1, h2⟩
    refine Classical.byContradiction fun hn => ?_
    rw [not_or] at hn
    have hk : t ∈ a.K ∨ t ∈ b.K := (mem_joinKg a.K b.K t).1 h1
    have hj : ∀ e : Ent, ((e ∈ a.L ∧ keepA b.L b.K e = true) ∨ (e ∈ b.L ∧ ¬ e.2 ∈ a.K)) → e.2 ≠ t := fun e he => h2 e ((mem_joinLg a.L b.L a.K b.K e).2 he)
    by_cases hta : t ∈ a.K
    · obtain ⟨e, he, e2⟩ := not_dead hta hn.1
      refine hj e (Or.inl ⟨he, ?_⟩) e2
      by_cases htb : t ∈ b.K
      · obtain ⟨f, hf, f2⟩ := not_dead htb hn.2
        have := same_of hH (ha.hL e he) (hb.hL f hf) (by rw [e2, f2])
        subst this
        simp [keepA, hf]
      · simp [keepA, e2, htb]
    · have htb : t ∈ b.K := hk.resolve_left hta
      obtain ⟨f, hf, f2⟩ := not_dead htb hn.2
      exact hj f (Or.inr ⟨hf, by rw [f2]; exact hta⟩) f2
  · rintro (⟨h1, h2⟩ | ⟨h1, h2⟩)
    · refine ⟨(mem_joinKg _ _ _).2 (Or.inl h1), fun e he e2 => ?_⟩
      rcases (mem_joinLg a.L b.L a.K b.K e).1 he with h3 | h3
      · exact h2 e h3.1 e2
      · exact h3.2 (by rw [e2]; exact h1)
    · refine ⟨(mem_joinKg _ _ _).2 (Or.inr h1), fun e he e2 => ?_⟩
      rcases (mem_joinLg a.L b.L a.K b.K e).1 he with h3 | h3
      · have h4 := h3.2
        simp only [keepA, Bool.or_eq_true, decide_eq_true_eq, Bool.not_eq_true', decide_eq_false_iff_not] at h4
        rcases h4 with h4 | h4
        · exact h2 e h4 e2
        · exact h4 (by rw [e2]; exact h1)
      · exact h2 e h3.1 e2
theorem Le.anti (hH : (H.map Prod.snd).Nodup) (ha : PcOk H a) (hb : PcOk H b) (h : Le a b) (h' : Le b a) : a = b := by
  have hK : a.K = b.K := sorted_ext ord_before ha.sK hb.sK fun x => ⟨h.k x, h'.k x⟩
  have key : ∀ {a b : Pc}, PcOk H a → PcOk H b → Le a b → Le b a → ∀ e ∈ a.L, e ∈ b.L := by
    intro a b ha hb h h' e he
    have h1 := h.k _ (ha.sub e he)
    have h2 : ¬ Dead b e.2 := fun hd => (h'.d _ hd).2 e he rfl
    obtain ⟨f, hf, f2⟩ := not_dead h1 h2
    have := same_of hH (ha.hL e he) (hb.hL f hf) f2.symm
    subst this
    exact hf
  have hL : a.L = b.L := sorted_ext ord_ahead ha.sL hb.sL fun x => ⟨key ha hb h h' x, key hb ha h' h x⟩
  cases a; cases b
  simp only at hK hL
  rw [hK, hL]
theorem le_left (hH : (H.map Prod.snd).Nodup) (ha : PcOk H a) (hb : PcOk H b) : Le a (joinP a b) := ⟨fun _ ht => (mem_joinKg _ _ _).2 (Or.inl ht), fun t ht => (dead_join hH ha hb t).2 (Or.inl ht)⟩
theorem le_right (hH : (H.map Prod.snd).Nodup) (ha : PcOk H a) (hb : PcOk H b) : Le b (joinP a b) := ⟨fun _ ht => (mem_joinKg _ _ _).2 (Or.inr ht), fun t ht => (dead_join hH ha hb t).2 (Or.inr ht)⟩
theorem join_le (hH : (H.map Prod.snd).Nodup) (ha : PcOk H a) (hb : PcOk H b) (h1 : Le a c) (h2 : Le b c) : Le (joinP a b) c :=
  ⟨fun t ht => ((mem_joinKg _ _ _).1 ht).elim (h1.k t) (h2.k t), fun t ht => ((dead_join hH ha hb t).1 ht).elim (h1.d t) (h2.d t)⟩
theorem join_eq (hH : (H.map Prod.snd).Nodup) (ha : PcOk H a) (hb : PcOk H b) (h : Le b a) : joinP a b = a :=
  Le.anti hH (ha.join hb) ha (join_le hH ha hb (Le.refl a) h) (le_left hH ha hb)
theorem join_zero (hH : (H.map Prod.snd).Nodup) (hb : PcOk H b) : joinP zPc b = b :=
  Le.anti hH ((PcOk.nil H).join hb) hb (join_le hH (PcOk.nil H) hb (Le.zero b) (Le.refl b)) (le_right hH (PcOk.nil H) hb)
theorem join_assoc (hH : (H.map Prod.snd).Nodup) (ha : PcOk H a) (hb : PcOk H b) (hc : PcOk H c) : joinP (joinP a b) c = joinP a (joinP b c) := by
  have hab := ha.join hb
  have hbc := hb.join hc
  refine Le.anti hH (hab.join hc) (ha.join hbc) ?_ ?_
  · exact join_le hH hab hc (join_le hH ha hb (le_left hH ha hbc) ((le_left hH hb hc).trans (le_right hH ha hbc))) ((le_right hH hb hc).trans (le_right hH ha hbc))
  · exact join_le hH ha hbc ((le_left hH ha hb).trans (le_left hH hab hc)) (join_le hH hb hc ((le_right hH ha hb).trans (le_left hH hab hc)) (le_right hH hab hc))
theorem come_p (d : Nd) (q : Pc) : (comeN d q).p = joinP d.p q := by
  unfold comeN
  split
  · rename_i h
    cases hp : d.p with | mk L K => rw [hp] at h; simp only [joinP] at *; rw [h.1, h.2]
  · rfl
theorem comeN_same (hH : (H.map Prod.snd).Nodup) {d : Nd} {q : Pc} (ha : PcOk H d.p) (hb : PcOk H q) (h : Le q d.p) : comeN d q = d := by
  have := join_eq hH ha hb h
  unfold comeN
  rw [if_pos ⟨congrArg Pc.L this, congrArg Pc.K this⟩]
/-- What is known of each node is the first so many. -/
def Gapl (p : Pc) : Prop := ∀ (i k : Int), (i, k) ∈ p.K → 1 ≤ k ∧ ∀ j, 1 ≤ j → j ≤ k → (i, j) ∈ p.K
theorem Gapl.zero : Gapl zPc := fun i k h => by simp [zPc] at h
theorem Gapl.join (ha : Gapl a) (hb : Gapl b) : Gapl (joinP a b) := by
  intro i k h
  rcases (mem_joinKg _ _ _).1 h with h | h
  · exact ⟨(ha i k h).1, fun j h1 h2 => (mem_joinKg _ _ _).2 (Or.inl ((ha i k h).2 j h1 h2))⟩
  · exact ⟨(hb i k h).1, fun j h1 h2 => (mem_joinKg _ _ _).2 (Or.inr ((hb i k h).2 j h1 h2))⟩
theorem Gapl.same (ha : Gapl a) (h : a.K = b.K) : Gapl b := by
  unfold Gapl at *
  rw [← h]
  exact ha
end

/-! The pieces that a node's basket was, number by number. -/
structure MsgJ (B : Nat → Nat → Pc) (W : Wd) (m : Md) : Prop where
  news : m.kind = 1 → ∀ d e, W.nodes[m.frm]? = some d → W.nodes[m.to]? = some e → m.number ≤ d.count ∧ Le m.p (B m.frm m.number) ∧ Le (B m.frm m.number) (joinP e.p m.p)
  ack : m.kind = 2 → ∀ d e, W.nodes[m.frm]? = some d → W.nodes[m.to]? = some e → m.number ≤ e.count ∧ Le (B m.to m.number) d.p
structure NodeJ (H : List Ent) (B : Nat → Pc) (d : Nd) : Prop where
  ok : ∀ n, n ≤ d.count → PcOk H (B n)
  now : B d.count = d.p
  mono : ∀ n m, n ≤ m → m ≤ d.count → Le (B n) (B m)
  gap : ∀ n, n ≤ d.count → Gapl (B n)
  run : ∀ (j : Nat) (k : Nat × Pc), d.kept[j]? = some k → k.1 + d.kept.length = d.count + j
  kept : ∀ k ∈ d.kept, joinP (B k.1) k.2 = B (k.1 + 1)
structure JH (H : List Ent) (B : Nat → Nat → Pc) (W : Wd) : Prop where
  g : WGH H W
  zero : ∀ i, B i 0 = zPc
  node : ∀ i d, W.nodes[i]? = some d → NodeJ H (B i) d
  ack : ∀ i j d e, W.nodes[i]? = some d → W.nodes[j]? = some e → i ≠ j → d.acked.getD j 0 ≤ d.count ∧ Le (B i (d.acked.getD j 0)) e.p
  fly : ∀ m ∈ W.fly, MsgJ B W m
def J (W : Wd) : Prop := ∃ H B, JH H B W
end Go.Proofs.YtnniimfinakioaaGreatDoor
namespace Go.Proofs.YtnniimfinakioaaGreatDoor
open Go.RowKit

section
variable {H H' : List Ent} {B B' : Nat → Nat → Pc} {W W' : Wd}
theorem join_mono (hH : (H.map Prod.snd).Nodup) {a a' q : Pc} (ha : PcOk H a) (ha' : PcOk H a') (hq : PcOk H q) (h : Le a a') : Le (joinP a q) (joinP a' q) :=
  join_le hH ha hq (h.trans (le_left hH ha' hq)) (le_right hH ha' hq)
theorem NodeJ.mono' {B : Nat → Pc} {d : Nd} (h : NodeJ H B d) (hs : ∀ e ∈ H, e ∈ H') : NodeJ H' B d := ⟨fun n hn => (h.ok n hn).mono hs, h.now, h.mono, h.gap, h.run, h.kept⟩

/-- One node is another one, with no less. -/
theorem JH.upd (h : JH H B W) {k : Nat} {d d' : Nd} (hd : W.nodes[k]? = some d) (hs : ∀ e ∈ H, e ∈ H') (g : WGH H' W') (hn : W'.nodes = W.nodes.set k d') (hf : W'.fly = W.fly)
    (hB : ∀ i n, (i ≠ k ∨ n ≤ d.count) → B' i n = B i n) (hc : d.count ≤ d'.count) (hp : Le d.p d'.p) (hN : NodeJ H' (B' k) d')
    (hA : ∀ j e, W.nodes[j]? = some e → k ≠ j → d'.acked.getD j 0 ≤ d'.count ∧ Le (B' k (d'.acked.getD j 0)) e.p) : JH H' B' W' := by
  have hBn : ∀ i, i ≠ k → B' i = B i := fun i hi => funext fun n => hB i n (Or.inl hi)
  refine ⟨g, fun i => (hB i 0 (Or.inr (Nat.zero_le _))).trans (h.zero i), fun i x hx => ?_, fun i j x y hx hy hij => ?_, fun m hm => ?_⟩
  · rw [hn] at hx
    rcases set_at hx with ⟨rfl, rfl⟩ | ⟨hik, hx⟩
    · exact hN
    · rw [hBn i (Ne.symm hik)]
      exact (h.node i x hx).mono' hs
  · rw [hn] at hx hy
    rcases set_at hx with ⟨e1, e2⟩ | ⟨hik, hx2⟩
    · subst e1
      subst e2
      rcases set_at hy with ⟨e1, _⟩ | ⟨hjk, hy2⟩
      · exact absurd e1 hij
      · exact hA j y hy2 hij
    · rw [hBn i (Ne.symm hik)]
      rcases set_at hy with ⟨e1, e2⟩ | ⟨hjk, hy2⟩
      · subst e1
        subst e2
        have := h.ack i k x d hx2 hd hij
        exact ⟨this.1, this.2.trans hp⟩
      · exact h.ack i j x y hx2 hy2 hij
  · rw [hf] at hm
    have hM := h.fly m hm
    have hG := h.g.fly m hm
    refine ⟨fun k1 x y hx hy => ?_, fun k2 x y hx hy => ?_⟩
    · obtain ⟨x0, hx0⟩ := get_some (l := W.nodes) (k := m.frm) hG.frm
      obtain ⟨y0, hy0⟩ := get_some (l := W.nodes) (k := m.to) hG.to
      obtain ⟨q1, q2, q3⟩ := hM.news k1 x0 y0 hx0 hy0
      have eB : B' m.frm m.number = B m.frm m.number := by
        by_cases e : m.frm = k
        · subst e
          rw [hd] at hx0
          cases hx0
          exact hB _ _ (Or.inr q1)
        · exact hB _ _ (Or.inl e)
      have hcx : x0.count ≤ x.count := by
        rw [hn] at hx
        rcases set_at hx with ⟨e, rfl⟩ | ⟨hik, hx⟩
        · subst e
          rw [hd] at hx0
          cases hx0
          exact hc
        · rw [hx0] at hx; cases hx; exact Nat.le_refl _
      have hpy : Le y0.p y.p := by
        have hy' := hy
        rw [hn] at hy'
        rcases set_at hy' with ⟨e, rfl⟩ | ⟨hik, hy'⟩
        · subst e
          rw [hd] at hy0
          cases hy0
          exact hp
        · rw [hy0] at hy'; cases hy'; exact Le.refl _
      rw [eB]
      refine ⟨Nat.le_trans q1 hcx, q2, q3.trans (join_mono g.toks ((h.g.node _ _ hy0).pc.mono hs) (g.node _ _ hy).pc (hG.pc.mono hs) hpy)⟩
    · obtain ⟨x0, hx0⟩ := get_some (l := W.nodes) (k := m.frm) hG.frm
      obtain ⟨y0, hy0⟩ := get_some (l := W.nodes) (k := m.to) hG.to
      obtain ⟨q1, q2⟩ := hM.ack k2 x0 y0 hx0 hy0
      have eB : B' m.to m.number = B m.to m.number := by
        by_cases e : m.to = k
        · subst e
          rw [hd] at hy0
          cases hy0
          exact hB _ _ (Or.inr q1)
        · exact hB _ _ (Or.inl e)
      have hcy : y0.count ≤ y.count := by
        rw [hn] at hy
        rcases set_at hy with ⟨e, rfl⟩ | ⟨hik, hy⟩
        · subst e
          rw [hd] at hy0
          cases hy0
          exact hc
        · rw [hy0] at hy; cases hy; exact Nat.le_refl _
      have hpx : Le x0.p x.p := by
        rw [hn] at hx
        rcases set_at hx with ⟨e, rfl⟩ | ⟨hik, hx⟩
        · subst e
          rw [hd] at hx0
          cases hx0
          exact hp
        · rw [hx0] at hx; cases hx; exact Le.refl _
      rw [eB]
      exact ⟨Nat.le_trans q1 hcy, q2.trans hpx⟩
theorem JH.flies (h : JH H B W) {fl : List Md} (g : WGH H { W with fly := fl }) (hf : ∀ m ∈ fl, MsgJ B W m) : JH H B { W with fly := fl } :=
  ⟨g, h.zero, h.node, h.ack, fun m hm => ⟨(hf m hm).news, (hf m hm).ack⟩⟩

def bump (B : Nat → Nat → Pc) (k c : Nat) (p : Pc) : Nat → Nat → Pc := fun i n => if i = k ∧ n = c + 1 then p else B i n
theorem bump_at (k c : Nat) (p : Pc) : bump B k c p k (c + 1) = p := by simp [bump]
theorem bump_old {k c : Nat} {p : Pc} {i n : Nat} (h : i ≠ k ∨ n ≤ c) : bump B k c p i n = B i n := by
  unfold bump
  rw [if_neg]
  rintro ⟨h1, h2⟩
  rcases h with h | h
  · exact h h1
  · omega
/-- A node takes in a piece. -/
theorem JH.news (h : JH H B W) {k m' : Nat} {d : Nd} {q : Pc} (hd : W.nodes[k]? = some d) (hs : ∀ e ∈ H, e ∈ H') (g : WGH H' W') (hn : W'.nodes = W.nodes.set k (newsM { d with made := m' } q)) (hf : W'.fly = W.fly)
    (hq : PcOk H' q) (hgap : Gapl (joinP d.p q)) : JH H' (bump B k d.count (joinP d.p q)) W' := by
  have hN := h.node k d hd
  have hG := h.g.node k d hd
  have hp := hG.pc.mono hs
  have hle : Le d.p (joinP d.p q) := le_left g.toks hp hq
  have old : ∀ n, n ≤ d.count → bump B k d.count (joinP d.p q) k n = B k n := fun n hn => bump_old (Or.inr hn)
  refine h.upd (d' := newsM { d with made := m' } q) hd hs g hn hf (fun i n hin => bump_old hin) (Nat.le_succ _) hle ?_ ?_
  · refine ⟨fun n hn => ?_, ?_, fun n m hnm hm => ?_, fun n hn => ?_, fun j x hx => ?_, fun x hx => ?_⟩
    · have hn' : n ≤ d.count + 1 := hn
      by_cases e : n ≤ d.count
      · rw [old n e]; exact (hN.ok n e).mono hs
      · have : n = d.count + 1 := by omega
        subst this
        rw [bump_at]
        exact hp.join hq
    · exact bump_at _ _ _
    · have hm' : m ≤ d.count + 1 := hm
      by_cases e : m ≤ d.count
      · rw [old n (by omega), old m e]; exact hN.mono n m hnm e
      · have : m = d.count + 1 := by omega
        subst this
        rw [bump_at]
        by_cases e2 : n ≤ d.count
        · rw [old n e2]
          have := hN.mono n d.count e2 (Nat.le_refl _)
          rw [hN.now] at this
          exact this.trans hle
        · have : n = d.count + 1 := by omega
          subst this
          rw [bump_at]
          exact Le.refl _
    · have hn' : n ≤ d.count + 1 := hn
      by_cases e : n ≤ d.count
      · rw [old n e]; exact hN.gap n e
      · have : n = d.count + 1 := by omega
        subst this
        rw [bump_at]
        exact hgap
    · have hx' : (d.kept ++ [(d.count, q)])[j]? = some x := hx
      show x.1 + (d.kept ++ [(d.count, q)]).length = d.count + 1 + j
      rw [List.length_append, List.length_singleton]
      rw [List.getElem?_append] at hx'
      split at hx'
      · have := hN.run j x hx'
        omega
      · rename_i hj
        have hjl := (List.getElem?_eq_some_iff.1 hx').1
        simp only [List.length_singleton] at hjl
        have : j - d.kept.length = 0 := by omega
        rw [this] at hx'
        simp only [List.getElem?_cons_zero, Option.some.injEq] at hx'
        subst hx'
        show d.count + (d.kept.length + 1) = d.count + 1 + j
        omega
    · have hx' : x ∈ d.kept ++ [(d.count, q)] := hx
      rcases List.mem_append.1 hx' with h1 | h1
      · have := (hG.keptP x h1).2
        rw [old _ (by omega), old _ (by omega)]
        exact hN.kept x h1
      · rw [List.mem_singleton] at h1
        subst h1
        show joinP (bump B k d.count (joinP d.p q) k d.count) q = bump B k d.count (joinP d.p q) k (d.count + 1)
        rw [old _ (Nat.le_refl _), bump_at, hN.now]
  · intro j e he hkj
    have := h.ack k j d e hd he hkj
    show d.acked.getD j 0 ≤ d.count + 1 ∧ Le (bump B k d.count (joinP d.p q) k (d.acked.getD j 0)) e.p
    rw [old _ this.1]
    exact ⟨Nat.le_succ_of_le this.1, this.2⟩
/-- A node hears a piece. -/
theorem JH.come (h : JH H B W) {k : Nat} {d : Nd} {q : Pc} (hd : W.nodes[k]? = some d) (hq : PcOk H q) (hgap : Gapl (joinP d.p q)) : ∃ B', JH H B' { W with nodes := W.nodes.set k (comeN d q) } ∧ ∀ i n x, W.nodes[i]? = some x → n ≤ x.count → B' i n = B i n := by
  have g := h.g.come hd hq
  unfold comeN at g ⊢
  split
  · refine ⟨B, ?_, fun _ _ _ _ _ => rfl⟩
    rw [set_self hd]
    exact h
  · rename_i hne
    rw [if_neg hne] at g
    refine ⟨_, h.news (m' := d.made) hd (fun e he => he) g rfl rfl hq hgap, fun i n x hx hn => ?_⟩
    by_cases e : i = k
    · subst e
      rw [hd] at hx
      cases hx
      exact bump_old (Or.inr hn)
    · exact bump_old (Or.inl e)
/-- A node is acked. -/
theorem JH.acked (h : JH H B W) {k f n : Nat} {d x : Nd} (hd : W.nodes[k]? = some d) (hx : W.nodes[f]? = some x) (hn : n ≤ d.count) (hle : Le (B k n) x.p) : JH H B { W with nodes := W.nodes.set k (ackN d f n) } := by
  have g := h.g.ack hd f n
  have hN := h.node k d hd
  unfold ackN at g ⊢
  split
  · rename_i hlt
    rw [if_pos hlt] at g
    refine h.upd (d' := { d with acked := d.acked.set f n }) hd (fun e he => he) g rfl rfl (fun _ _ _ => rfl) (Nat.le_refl _) (Le.refl _) ⟨hN.ok, hN.now, hN.mono, hN.gap, hN.run, hN.kept⟩ ?_
    intro j e he hkj
    have ha := h.ack k j d e hd he hkj
    show (d.acked.set f n).getD j 0 ≤ d.count ∧ Le (B k ((d.acked.set f n).getD j 0)) e.p
    by_cases e1 : f = j
    · subst e1
      rw [he] at hx
      cases hx
      have hl := (h.g.node k d hd).acked
      have hfl : f < d.acked.length := by rw [hl]; exact (List.getElem?_eq_some_iff.1 he).1
      have : (d.acked.set f n).getD f 0 = n := by rw [List.getD_eq_getElem?_getD, List.getElem?_set_self hfl]; rfl
      rw [this]
      exact ⟨hn, hle⟩
    · have : (d.acked.set f n).getD j 0 = d.acked.getD j 0 := by rw [List.getD_eq_getElem?_getD, List.getElem?_set_ne e1, List.getD_eq_getElem?_getD]
      rw [this]
      exact ha
  · rw [set_self hd]
    exact h

/-- What a node sends makes of the other one's basket at least its own. -/
theorem fold_le (hH : (H.map Prod.snd).Nodup) {Bi : Nat → Pc} {ep : Pc} {c a : Nat} (he : PcOk H ep) (hok : ∀ n, n ≤ c → PcOk H (Bi n)) (hmono : ∀ n m, n ≤ m → m ≤ c → Le (Bi n) (Bi m)) (hac : a ≤ c) :
    ∀ (l : List (Nat × Pc)) (s : Nat) (acc : Pc), (∀ (j : Nat) (k : Nat × Pc), l[j]? = some k → k.1 = s + j) → s + l.length = c → (∀ k ∈ l, PcOk H k.2 ∧ joinP (Bi k.1) k.2 = Bi (k.1 + 1)) → PcOk H acc →
      Le acc (Bi (max a s)) → Le (Bi (max a s)) (joinP ep acc) → Le (l.foldl (stepP a) acc) (Bi c) ∧ Le (Bi c) (joinP ep (l.foldl (stepP a) acc)) := by
  intro l
  induction l with
  | nil =>
    intro s acc _ hsc _ _ h1 h2
    simp only [List.length_nil, Nat.add_zero] at hsc
    subst hsc
    rw [Nat.max_eq_right hac] at h1 h2
    exact ⟨h1, h2⟩
  | cons x l ih =>
    intro s acc hrun hsc hks hacc h1 h2
    have hx : x.1 = s := by simpa using hrun 0 x rfl
    simp only [List.length_cons] at hsc
    obtain ⟨hxo, hxj⟩ := hks x (by simp)
    rw [hx] at hxj
    rw [List.foldl_cons]
    have hrun' : ∀ (j : Nat) (k : Nat × Pc), l[j]? = some k → k.1 = s + 1 + j := fun j k hk => by
      have := hrun (j + 1) k (by simpa using hk)
      omega
    by_cases has : a ≤ s
    · have e1 : stepP a acc x = joinP acc x.2 := by unfold stepP; rw [if_pos (by omega)]
      rw [e1]
      rw [Nat.max_eq_right has] at h1 h2
      have hs1 : PcOk H (Bi s) := hok s (by omega)
      have hs2 : PcOk H (Bi (s + 1)) := hok (s + 1) (by omega)
      refine ih (s + 1) _ hrun' (by omega) (fun k hk => hks k (by simp [hk])) (hacc.join hxo) ?_ ?_
      · rw [Nat.max_eq_right (by omega : a ≤ s + 1), ← hxj]
        exact join_le hH hacc hxo (h1.trans (le_left hH hs1 hxo)) (le_right hH hs1 hxo)
      · rw [Nat.max_eq_right (by omega : a ≤ s + 1), ← hxj, ← join_assoc hH he hacc hxo]
        exact join_mono hH hs1 (he.join hacc) hxo h2
    · have e1 : stepP a acc x = acc := by unfold stepP; rw [if_neg (by omega)]
      rw [e1]
      rw [Nat.max_eq_left (by omega : s ≤ a)] at h1 h2
      refine ih (s + 1) _ hrun' (by omega) (fun k hk => hks k (by simp [hk])) hacc ?_ ?_
      · rw [Nat.max_eq_left (by omega : s + 1 ≤ a)]; exact h1
      · rw [Nat.max_eq_left (by omega : s + 1 ≤ a)]; exact h2
theorem JH.send (h : JH H B W) {i j : Nat} {d e : Nd} (hd : W.nodes[i]? = some d) (he : W.nodes[j]? = some e) (hij : i ≠ j) :
    Le (sendP d (d.acked.getD j 0)) d.p ∧ Le d.p (joinP e.p (sendP d (d.acked.getD j 0))) := by
  have hN := h.node i d hd
  have hG := h.g.node i d hd
  have hE := (h.g.node j e he).pc
  have ha := h.ack i j d e hd he hij
  have whole : Le d.p d.p ∧ Le d.p (joinP e.p d.p) := ⟨Le.refl _, le_right h.g.toks hE hG.pc⟩
  unfold sendP
  split
  · exact whole
  · rename_i k ks hk
    split
    · rename_i hle
      have hrun : ∀ (j : Nat) (x : Nat × Pc), d.kept[j]? = some x → x.1 + d.kept.length = d.count + j := hN.run
      have h0 := hrun 0 k (by rw [hk]; rfl)
      have := fold_le (c := d.count) (a := d.acked.getD j 0) h.g.toks hE hN.ok hN.mono ha.1 d.kept k.1 zPc (fun j x hx => by have := hrun j x hx; omega) (by omega)
        (fun x hx => ⟨(hG.keptP x hx).1, hN.kept x hx⟩) (PcOk.nil H) (Le.zero _) (by rw [Nat.max_eq_left hle]; exact ha.2.trans (le_left h.g.toks hE (PcOk.nil H)))
      rw [hN.now] at this
      exact this
    · exact whole
theorem gap_of (hH : (H.map Prod.snd).Nodup) {p q b : Pc} (hp : PcOk H p) (hq : PcOk H q) (hb : PcOk H b) (h1 : Le q b) (h2 : Le b (joinP p q)) (gp : Gapl p) (gb : Gapl b) : Gapl (joinP p q) := by
  have : joinP p q = joinP p b := Le.anti hH (hp.join hq) (hp.join hb) (join_le hH hp hq (le_left hH hp hb) (h1.trans (le_right hH hp hb))) (join_le hH hp hb (le_left hH hp hq) h2)
  rw [this]
  exact gp.join gb
theorem JH.gapl (h : JH H B W) {i : Nat} {d : Nd} (hd : W.nodes[i]? = some d) : Gapl d.p := by
  have := (h.node i d hd).gap d.count (Nat.le_refl _)
  rw [(h.node i d hd).now] at this
  exact this
end
end Go.Proofs.YtnniimfinakioaaGreatDoor
namespace Go.Proofs.YtnniimfinakioaaGreatDoor
open Go.RowKit

section
variable {H : List Ent} {B : Nat → Nat → Pc} {W : Wd}
theorem Gapl.congr {a b : Pc} (ha : Gapl a) (h : ∀ x, x ∈ b.K ↔ x ∈ a.K) : Gapl b := by
  intro i k hk
  obtain ⟨h1, h2⟩ := ha i k ((h _).1 hk)
  exact ⟨h1, fun j a b => (h _).2 (h2 j a b)⟩
theorem JH.add (h : JH H B W) (i : Int) (s : Nm) : J (addM W i s).2 := by
  obtain ⟨H', hs, g⟩ := h.g.add i s
  unfold addM at g ⊢
  cases hn : nodeAt W i with
  | none => exact ⟨H, B, h⟩
  | some d =>
    rw [hn] at g
    cases hb : nameB s with
    | false => exact ⟨H, B, h⟩
    | true =>
      by_cases h30 : 30 ≤ W.adds
      · simp only [h30, if_true]; exact ⟨H, B, h⟩
      · simp only [h30, if_false] at g ⊢
        simp only [hb] at g
        obtain ⟨_, hd⟩ := nodeAt_is hn
        have hN := h.g.node _ d hd
        have hk := (g.node i.toNat (addN d i.toNat s) (set_get hd)).keptP (d.count, addPc d.p.L i.toNat (d.made + 1) s) (by simp [addN, newsM])
        refine ⟨H', _, h.news (m' := d.made + 1) hd hs g rfl rfl hk.1 ?_⟩
        have gp := h.gapl hd
        have hm : ∀ x, x ∈ (joinP d.p (addPc d.p.L i.toNat (d.made + 1) s)).K ↔ x ∈ d.p.K ∨ x = ((i.toNat : Int), ((d.made + 1 : Nat) : Int)) := by
          intro x
          show x ∈ joinK _ _ ↔ _
          rw [mem_joinKg]
          constructor
          · rintro (h1 | h1)
            · exact Or.inl h1
            · have h1' : x ∈ learnL (ofK (named s d.p.L)) ((i.toNat : Int), ((d.made + 1 : Nat) : Int)) := h1
              rcases (mem_learn _ _ _).1 h1' with h2 | h2
              · obtain ⟨e, he, rfl⟩ := (mem_ofK _ _).1 h2
                exact Or.inl (hN.pc.sub e (mem_flt he))
              · exact Or.inr h2
          · rintro (h1 | h1)
            · exact Or.inl h1
            · exact Or.inr ((mem_learn _ _ _).2 (Or.inr h1))
        intro a k hak
        rcases (hm _).1 hak with h1 | h1
        · exact ⟨(gp a k h1).1, fun j j1 j2 => (hm _).2 (Or.inl ((gp a k h1).2 j j1 j2))⟩
        · simp only [Prod.mk.injEq] at h1
          obtain ⟨rfl, rfl⟩ := h1
          refine ⟨by omega, fun j j1 j2 => (hm _).2 ?_⟩
          by_cases e : j ≤ d.made
          · exact Or.inl ((hN.own j).2 ⟨j1, e⟩)
          · refine Or.inr ?_
            have : j = ((d.made + 1 : Nat) : Int) := by omega
            rw [this]
theorem JH.take (h : JH H B W) {i : Int} {d : Nd} (hn : nodeAt W i = some d) {es : List Ent} (hes : ∀ e ∈ es, e ∈ d.p.L) : J (takeM W i d es).2 := by
  have g := h.g.take hn hes
  unfold takeM at g ⊢
  split
  · exact ⟨H, B, h⟩
  · rename_i hne
    rw [if_neg hne] at g
    obtain ⟨_, hd⟩ := nodeAt_is hn
    have hN := h.g.node _ d hd
    have hk := (g.node i.toNat (newsM d ⟨[], ofK es⟩) (set_get hd)).keptP (d.count, ⟨[], ofK es⟩) (by simp [newsM])
    refine ⟨H, _, h.news (m' := d.made) hd (fun _ h => h) g rfl rfl hk.1 ?_⟩
    refine (h.gapl hd).congr fun x => ?_
    show x ∈ joinK _ _ ↔ _
    rw [mem_joinKg]
    refine ⟨fun h1 => h1.elim id fun h2 => ?_, Or.inl⟩
    obtain ⟨e, he, rfl⟩ := (mem_ofK _ _).1 h2
    exact hN.pc.sub e (hes e he)
theorem JH.remove (h : JH H B W) (i : Int) (s : Nm) : J (removeM W i s).2 := by
  unfold removeM
  cases hn : nodeAt W i with
  | none => exact ⟨H, B, h⟩
  | some d =>
    cases hb : nameB s with
    | false => exact ⟨H, B, h⟩
    | true => exact h.take hn fun e he => mem_flt he
theorem JH.clear (h : JH H B W) (i : Int) : J (clearM W i).2 := by
  unfold clearM
  cases hn : nodeAt W i with
  | none => exact ⟨H, B, h⟩
  | some d => exact h.take hn fun e he => he
theorem JH.sendM (h : JH H B W) (i j : Int) : JH H B (sendM W i j).2 := by
  have g := h.g.send i j
  unfold Go.Proofs.YtnniimfinakioaaGreatDoor.sendM at g ⊢
  split
  · rename_i d e hi hj
    rw [hi, hj] at g
    split
    · exact h
    · rename_i hne
      simp only [hne, if_false] at g
      split
      · exact h
      · rename_i hc
        simp only [hc, if_false] at g
        obtain ⟨i0, hd⟩ := nodeAt_is hi
        obtain ⟨j0, he⟩ := nodeAt_is hj
        have hij : i.toNat ≠ j.toNat := by omega
        refine h.flies g fun m hm => ?_
        rcases flyL_mem hm with h1 | h1
        · exact h.fly m h1
        · subst h1
          refine ⟨fun _ x y hx hy => ?_, fun k2 => by simp [newsMd] at k2⟩
          have hx' : W.nodes[i.toNat]? = some x := hx
          have hy' : W.nodes[j.toNat]? = some y := hy
          rw [hd] at hx'
          cases hx'
          rw [he] at hy'
          cases hy'
          have := h.send hd he hij
          show d.count ≤ d.count ∧ Le (sendP d _) (B i.toNat d.count) ∧ Le (B i.toNat d.count) (joinP e.p (sendP d _))
          rw [(h.node _ d hd).now]
          exact ⟨Nat.le_refl _, this.1, this.2⟩
  · exact h
theorem JH.drop (h : JH H B W) (i : Int) : JH H B (dropM W i).2 := by
  have g := h.g.drop i
  unfold dropM at g ⊢
  cases hm : msgAt W i with
  | none => exact h
  | some m =>
    rw [hm] at g
    exact h.flies g fun x hx => h.fly x (mem_gone hx)
theorem JH.double (h : JH H B W) (i : Int) : JH H B (doubleM W i).2 := by
  have g := h.g.double i
  unfold doubleM at g ⊢
  cases hm : msgAt W i with
  | none => exact h
  | some m =>
    rw [hm] at g
    obtain ⟨_, hi⟩ := msgAt_is hm
    exact h.flies g fun x hx => (flyL_mem hx).elim (h.fly x) fun e => e ▸ h.fly m (List.mem_of_getElem? hi)
theorem JH.deliver (h : JH H B W) (i : Int) : J (deliverM W i).2 := by
  have g := h.g.deliver i
  unfold deliverM at g ⊢
  cases hm : msgAt W i with
  | none => exact ⟨H, B, h⟩
  | some m =>
    rw [hm] at g
    obtain ⟨_, hi⟩ := msgAt_is hm
    have hmem := List.mem_of_getElem? hi
    have hG := h.g.fly m hmem
    have hJ := h.fly m hmem
    obtain ⟨d, hd⟩ := get_some (l := W.nodes) (k := m.to) hG.to
    obtain ⟨x, hx⟩ := get_some (l := W.nodes) (k := m.frm) hG.frm
    simp only [hd] at g ⊢
    by_cases k2 : m.kind = 2
    · simp only [k2, if_true] at g ⊢
      obtain ⟨q1, q2⟩ := hJ.ack k2 x d hx hd
      have := h.acked hd hx q1 q2
      exact ⟨H, B, this.flies g fun y hy => this.fly y (mem_gone hy)⟩
    · simp only [k2, if_false] at g ⊢
      have k1 : m.kind = 1 := hG.kind.resolve_right k2
      obtain ⟨q1, q2, q3⟩ := hJ.news k1 x d hx hd
      have hB := (h.node m.frm x hx).ok _ q1
      obtain ⟨B', hB', hold⟩ := h.come hd hG.pc (gap_of h.g.toks (h.g.node _ d hd).pc hG.pc hB q2 q3 (h.gapl hd) ((h.node m.frm x hx).gap _ q1))
      refine ⟨H, B', hB'.flies g fun y hy => ?_⟩
      rcases flyL_mem hy with h1 | h1
      · exact hB'.fly y (mem_gone (W := W) h1)
      · subst h1
        refine ⟨fun k1 => by simp [ackMd] at k1, fun _ a b ha hb => ?_⟩
        have ha' : (W.nodes.set m.to (comeN d m.p))[m.to]? = some a := ha
        have hb' : (W.nodes.set m.to (comeN d m.p))[m.frm]? = some b := hb
        rw [set_get hd] at ha'
        cases ha'
        rw [List.getElem?_set_ne (Ne.symm hG.ne), hx] at hb'
        cases hb'
        show m.number ≤ x.count ∧ Le (B' m.frm m.number) (comeN d m.p).p
        rw [hold _ _ x hx q1, come_p]
        exact ⟨q1, q3⟩
theorem filter_drop {α : Type} {p : α → Bool} {r : α → α → Prop} : ∀ {l : List α}, l.Pairwise r → (∀ a b, r a b → p a = true → p b = true) → ∃ m, l.filter p = l.drop m := by
  intro l
  induction l with
  | nil => intro _ _; exact ⟨0, rfl⟩
  | cons x l ih =>
    intro h hp
    rw [List.pairwise_cons] at h
    by_cases hx : p x = true
    · refine ⟨0, ?_⟩
      rw [List.drop_zero, List.filter_eq_self]
      intro y hy
      rcases List.mem_cons.1 hy with rfl | hy
      · exact hx
      · exact hp x y (h.1 y hy) hx
    · obtain ⟨m, hm⟩ := ih h.2 hp
      exact ⟨m + 1, by rw [List.filter_cons_of_neg hx, hm, List.drop_succ_cons]⟩
theorem JH.collect (h : JH H B W) (i : Int) : JH H B (collectM W i).2 := by
  have g := h.g.collect i
  unfold collectM at g ⊢
  cases hn : nodeAt W i with
  | none => exact h
  | some d =>
    rw [hn] at g
    obtain ⟨_, hd⟩ := nodeAt_is hn
    have hN := h.node _ d hd
    have hG := h.g.node _ d hd
    obtain ⟨m, hm⟩ := filter_drop (p := needed W.nodes.length i.toNat d) hG.keptS (fun a b hab ha => by
      simp only [needed, List.any_eq_true, Bool.and_eq_true, decide_eq_true_eq] at ha ⊢
      obtain ⟨j, h1, h2, h3⟩ := ha
      exact ⟨j, h1, h2, by omega⟩)
    refine h.upd (d' := { d with kept := d.kept.filter (needed W.nodes.length i.toNat d) }) hd (fun _ h => h) g rfl rfl (fun _ _ _ => rfl) (Nat.le_refl _) (Le.refl _) ⟨hN.ok, hN.now, hN.mono, hN.gap, fun j k hk => ?_, fun k hk => hN.kept k (List.mem_filter.1 hk).1⟩ (fun j e he hij => h.ack _ j d e hd he hij)
    have hk' : (d.kept.filter (needed W.nodes.length i.toNat d))[j]? = some k := hk
    show k.1 + (d.kept.filter (needed W.nodes.length i.toNat d)).length = d.count + j
    rw [hm] at hk' ⊢
    rw [List.getElem?_drop] at hk'
    have := hN.run _ k hk'
    have := (List.getElem?_eq_some_iff.1 hk').1
    rw [List.length_drop]
    omega
theorem JH.crash (h : JH H B W) (i : Int) : JH H B (crashM W i).2 := by
  have g := h.g.crash i
  unfold crashM at g ⊢
  cases hn : nodeAt W i with
  | none => exact h
  | some d =>
    rw [hn] at g
    obtain ⟨_, hd⟩ := nodeAt_is hn
    have hN := h.node _ d hd
    refine h.upd (d' := { d with kept := [], acked := List.replicate W.nodes.length 0 }) hd (fun _ h => h) g rfl rfl (fun _ _ _ => rfl) (Nat.le_refl _) (Le.refl _) ⟨hN.ok, hN.now, hN.mono, hN.gap, fun j k hk => by simp at hk, fun k hk => by simp at hk⟩ (fun j e he hij => ?_)
    have : (List.replicate W.nodes.length 0).getD j 0 = 0 := by
      rw [List.getD_eq_getElem?_getD, List.getElem?_replicate]
      split <;> rfl
    show (List.replicate W.nodes.length 0).getD j 0 ≤ d.count ∧ Le (B i.toNat ((List.replicate W.nodes.length 0).getD j 0)) e.p
    rw [this, h.zero]
    exact ⟨Nat.zero_le _, Le.zero _⟩
/-- One tells another one. -/
theorem JH.talkN (h : JH H B W) {i k : Nat} {d e : Nd} (hd : W.nodes[i]? = some d) (he : W.nodes[k]? = some e) (hne : i ≠ k) : ∃ B', JH H B' (talkN W i k d e) := by
  obtain ⟨s1, s2⟩ := h.send hd he hne
  have hq := (h.g.node i d hd).send (d.acked.getD k 0)
  obtain ⟨B', h1, hold⟩ := h.come he hq (gap_of h.g.toks (h.g.node k e he).pc hq (h.g.node i d hd).pc s1 s2 (h.gapl he) (h.gapl hd))
  have hd' : (W.nodes.set k (comeN e (sendP d (d.acked.getD k 0))))[i]? = some d := by rw [List.getElem?_set_ne (Ne.symm hne)]; exact hd
  refine ⟨B', h1.acked (k := i) (f := k) (n := d.count) hd' (set_get he) (Nat.le_refl _) ?_⟩
  rw [(h1.node i d hd').now, come_p]
  exact s2
end
theorem J.wg {W : Wd} (h : J W) : WG W := h.elim fun H h => h.elim fun _ h => ⟨H, h.g⟩
theorem J.add {W : Wd} (h : J W) (i : Int) (s : Nm) : J (addM W i s).2 := h.elim fun _ h => h.elim fun _ h => h.add i s
theorem J.remove {W : Wd} (h : J W) (i : Int) (s : Nm) : J (removeM W i s).2 := h.elim fun _ h => h.elim fun _ h => h.remove i s
theorem J.clear {W : Wd} (h : J W) (i : Int) : J (clearM W i).2 := h.elim fun _ h => h.elim fun _ h => h.clear i
theorem J.send {W : Wd} (h : J W) (i j : Int) : J (sendM W i j).2 := h.elim fun H h => h.elim fun B h => ⟨H, B, h.sendM i j⟩
theorem J.deliver {W : Wd} (h : J W) (i : Int) : J (deliverM W i).2 := h.elim fun _ h => h.elim fun _ h => h.deliver i
theorem J.drop {W : Wd} (h : J W) (i : Int) : J (dropM W i).2 := h.elim fun H h => h.elim fun B h => ⟨H, B, h.drop i⟩
theorem J.double {W : Wd} (h : J W) (i : Int) : J (doubleM W i).2 := h.elim fun H h => h.elim fun B h => ⟨H, B, h.double i⟩
theorem J.collect {W : Wd} (h : J W) (i : Int) : J (collectM W i).2 := h.elim fun H h => h.elim fun B h => ⟨H, B, h.collect i⟩
theorem J.crash {W : Wd} (h : J W) (i : Int) : J (crashM W i).2 := h.elim fun H h => h.elim fun B h => ⟨H, B, h.crash i⟩
theorem J.talk {s : Nat × Wd} (h : J s.2) (x : Nat × Nat) : J (talk s x).2 := by
  obtain ⟨H, B, h⟩ := h
  unfold Go.Proofs.YtnniimfinakioaaGreatDoor.talk
  split
  · exact ⟨H, B, h⟩
  · rename_i hne
    split
    · rename_i d e hd he
      split
      · exact ⟨H, B, h⟩
      · exact (h.talkN hd he hne).elim fun B' h' => ⟨H, B', h'⟩
    · exact ⟨H, B, h⟩
theorem J.round {W : Wd} (h : J W) : J (roundM W).2 := by
  unfold roundM
  have : ∀ (l : List (Nat × Nat)) (s : Nat × Wd), J s.2 → J (l.foldl Go.Proofs.YtnniimfinakioaaGreatDoor.talk s).2 := by
    intro l
    induction l with
    | nil => intro s hs; exact hs
    | cons x l ih => intro s hs; exact ih _ (hs.talk x)
  exact this _ _ h
theorem J.init {n : Nat} (h1 : 1 ≤ n) (h5 : n ≤ 5) : J (zW n) := by
  obtain ⟨H, g⟩ := WG.zero h1 h5
  refine ⟨H, fun _ _ => zPc, g, fun _ => rfl, fun i d hd => ?_, fun i j d e hd he hij => ?_, fun m hm => by simp [zW] at hm⟩
  · have := List.eq_of_mem_replicate (List.mem_of_getElem? hd)
    subst this
    exact ⟨fun _ _ => PcOk.nil H, rfl, fun _ _ _ _ => Le.refl _, fun _ _ => Gapl.zero, fun j k hk => by simp [zNd] at hk, fun k hk => by simp [zNd] at hk⟩
  · have := List.eq_of_mem_replicate (List.mem_of_getElem? hd)
    subst this
    have : (List.replicate n 0).getD j 0 = 0 := by
      rw [List.getD_eq_getElem?_getD, List.getElem?_replicate]
      split <;> rfl
    exact ⟨by show (List.replicate n 0).getD j 0 ≤ 0; rw [this]; exact Nat.le_refl _, Le.zero _⟩
end Go.Proofs.YtnniimfinakioaaGreatDoor
