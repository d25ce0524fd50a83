import Derived.Test.YtnniimfinakioaaGreatDoorXe
import Derived.Test.YtnniimfinakioaaGreatDoorXg
namespace Go.Proofs.YtnniimfinakioaaGreatDoor
open Go.RowKit

/-! Sorted rows, and how long they are. -/
section
variable {α : Type} {bef : α → α → Bool}
theorem sorted_nodup (O : Ordr bef) {l : List α} (h : Sorted bef l) : l.Nodup := h.imp fun {a b} hab e => by
  subst e
  rw [O.irr] at hab
  cases hab
theorem sub_len [DecidableEq α] : ∀ {l m : List α}, l.Nodup → (∀ x ∈ l, x ∈ m) → l.length ≤ m.length := by
  intro l
  induction l with
  | nil => intro m _ _; simp
  | cons a l ih =>
    intro m hn hs
    have ha := hs a (by simp)
    have hn' := List.nodup_cons.1 hn
    have := ih (m := m.erase a) hn'.2 (fun x hx => (List.mem_erase_of_ne (fun e => by subst e; exact hn'.1 hx)).2 (hs x (by simp [hx])))
    rw [List.length_erase_of_mem ha] at this
    have hp := List.length_pos_of_mem ha
    simp only [List.length_cons]
    omega
theorem map_nodup {β : Type} {f : α → β} : ∀ {l : List α}, l.Nodup → (∀ a ∈ l, ∀ b ∈ l, f a = f b → a = b) → (l.map f).Nodup := by
  intro l
  induction l with
  | nil => intro _ _; simp
  | cons a l ih =>
    intro hn hf
    have hn' := List.nodup_cons.1 hn
    rw [List.map_cons, List.nodup_cons]
    refine ⟨fun hx => ?_, ih hn'.2 fun x hx y hy => hf x (by simp [hx]) y (by simp [hy])⟩
    obtain ⟨b, hb, e⟩ := List.mem_map.1 hx
    have := hf b (by simp [hb]) a (by simp) e
    subst this
    exact hn'.1 hb
theorem sorted_ext (O : Ordr bef) : ∀ {l m : List α}, Sorted bef l → Sorted bef m → (∀ x, x ∈ l ↔ x ∈ m) → l = m := by
  intro l
  induction l with
  | nil =>
    intro m _ _ h
    cases m with
    | nil => rfl
    | cons b m => exact absurd ((h b).2 (by simp)) (by simp)
  | cons a l ih =>
    intro m hl hm h
    cases m with
    | nil => exact absurd ((h a).1 (by simp)) (by simp)
    | cons b m =>
      have hl' := List.pairwise_cons.1 hl
      have hm' := List.pairwise_cons.1 hm
      have hab : a = b := by
        rcases List.mem_cons.1 ((h a).1 (by simp)) with e | e
        · exact e
        · rcases List.mem_cons.1 ((h b).2 (by simp)) with e' | e'
          · exact e'.symm
          · have h1 := O.tr _ _ _ (hm'.1 a e) (hl'.1 b e')
            rw [O.irr] at h1
            cases h1
      subst hab
      rw [ih hl'.2 hm'.2 fun x => ?_]
      constructor
      · intro hx
        rcases List.mem_cons.1 ((h x).1 (by simp [hx])) with e | e
        · subst e
          have := hl'.1 x hx
          rw [O.irr] at this
          cases this
        · exact e
      · intro hx
        rcases List.mem_cons.1 ((h x).2 (by simp [hx])) with e | e
        · subst e
          have := hm'.1 x hx
          rw [O.irr] at this
          cases this
        · exact e
end

/-! Pieces joined. -/
theorem mem_putF (p : Ent → Bool) (l : List Ent) : ∀ (acc : List Ent) (x : Ent), x ∈ l.foldl (putIf p) acc ↔ x ∈ acc ∨ (x ∈ l ∧ p x = true) := by
  induction l with
  | nil => intro acc x; simp
  | cons y l ih =>
    intro acc x
    rw [List.foldl_cons, ih]
    unfold putIf
    cases hp : p y with
    | true =>
      simp only [if_true, mem_insB, List.mem_cons]
      constructor
      · rintro ((h | rfl) | h)
        · exact Or.inl h
        · exact Or.inr ⟨Or.inl rfl, hp⟩
        · exact Or.inr ⟨Or.inr h.1, h.2⟩
      · rintro (h | ⟨rfl | h, h2⟩)
        · exact Or.inl (Or.inl h)
        · exact Or.inl (Or.inr rfl)
        · exact Or.inr ⟨h, h2⟩
    | false =>
      simp only [Bool.false_eq_true, if_false, List.mem_cons]
      constructor
      · rintro (h | h)
        · exact Or.inl h
        · exact Or.inr ⟨Or.inr h.1, h.2⟩
      · rintro (h | ⟨rfl | h, h2⟩)
        · exact Or.inl h
        · rw [hp] at h2; cases h2
        · exact Or.inr ⟨h, h2⟩
theorem mem_joinLg (aL bL : List Ent) (aK bK : List Tok) (x : Ent) : x ∈ joinL aL aK bL bK ↔ (x ∈ aL ∧ keepA bL bK x = true) ∨ (x ∈ bL ∧ ¬ x.2 ∈ aK) := by
  unfold joinL
  rw [mem_putF, mem_putF]
  simp
theorem mem_learnF (l : List Tok) : ∀ (acc : List Tok) (x : Tok), x ∈ l.foldl learnL acc ↔ x ∈ acc ∨ x ∈ l := by
  induction l with
  | nil => intro acc x; simp
  | cons y l ih =>
    intro acc x
    rw [List.foldl_cons, ih, mem_learn]
    simp [or_assoc]
theorem mem_joinKg (aK bK : List Tok) (x : Tok) : x ∈ joinK aK bK ↔ x ∈ aK ∨ x ∈ bK := by
  unfold joinK
  rw [mem_learnF, mem_learnF]
  simp
theorem learnF_sorted (l : List Tok) : ∀ acc, Sorted beforeB acc → Sorted beforeB (l.foldl learnL acc) := by
  induction l with
  | nil => intro acc h; exact h
  | cons y l ih =>
    intro acc h
    rw [List.foldl_cons]
    refine ih _ ?_
    unfold learnL
    split
    · exact h
    · rename_i hn
      exact insB_sorted ord_before _ _ h hn
theorem joinK_sorted (aK bK : List Tok) : Sorted beforeB (joinK aK bK) := by
  unfold joinK
  exact learnF_sorted _ _ (learnF_sorted _ _ (by simp [Sorted]))
theorem putF_sorted (p : Ent → Bool) (l : List Ent) : ∀ acc, Sorted aheadB acc → l.Nodup → (∀ x ∈ l, p x = true → ¬ x ∈ acc) → Sorted aheadB (l.foldl (putIf p) acc) := by
  induction l with
  | nil => intro acc h _ _; exact h
  | cons y l ih =>
    intro acc h hn hx
    have hn' := List.nodup_cons.1 hn
    rw [List.foldl_cons]
    unfold putIf
    cases hp : p y with
    | false =>
      simp only [Bool.false_eq_true, if_false]
      exact ih acc h hn'.2 fun x h1 h2 => hx x (by simp [h1]) h2
    | true =>
      simp only [if_true]
      refine ih _ (insB_sorted ord_ahead _ _ h (hx y (by simp) hp)) hn'.2 fun x h1 h2 => ?_
      rw [mem_insB]
      rintro (h3 | rfl)
      · exact hx x (by simp [h1]) h2 h3
      · exact hn'.1 h1
theorem putF_len (p : Ent → Bool) (l : List Ent) : ∀ acc, (l.foldl (putIf p) acc).length = acc.length + (l.filter p).length := by
  induction l with
  | nil => intro acc; simp
  | cons y l ih =>
    intro acc
    rw [List.foldl_cons, ih, List.filter_cons]
    unfold putIf
    cases p y with
    | false => simp
    | true => simp [insB_length]; omega

/-- A piece of a world whose history, all that was ever put in, is H. -/
structure PcOk (H : List Ent) (p : Pc) : Prop where
  sL : Sorted aheadB p.L
  sK : Sorted beforeB p.K
  sub : ∀ e ∈ p.L, e.2 ∈ p.K
  hL : ∀ e ∈ p.L, e ∈ H
  hK : ∀ t ∈ p.K, t ∈ H.map Prod.snd
theorem PcOk.nil (H : List Ent) : PcOk H ⟨[], []⟩ := ⟨by simp [Sorted], by simp [Sorted], by simp, by simp, by simp⟩
theorem PcOk.mono {H H' : List Ent} {p : Pc} (h : PcOk H p) (hs : ∀ e ∈ H, e ∈ H') : PcOk H' p := ⟨h.sL, h.sK, h.sub, fun e he => hs e (h.hL e he), fun t ht => by
  obtain ⟨e, he, rfl⟩ := List.mem_map.1 (h.hK t ht)
  exact List.mem_map.2 ⟨e, hs e he, rfl⟩⟩
theorem PcOk.join {H : List Ent} {a b : Pc} (ha : PcOk H a) (hb : PcOk H b) : PcOk H (joinP a b) := by
  refine ⟨?_, joinK_sorted _ _, fun e he => ?_, fun e he => ?_, fun t ht => ?_⟩
  · show Sorted aheadB (joinL a.L a.K b.L b.K)
    unfold joinL
    refine putF_sorted _ _ _ (putF_sorted _ _ _ (by simp [Sorted]) (sorted_nodup ord_ahead ha.sL) (by simp)) (sorted_nodup ord_ahead hb.sL) fun x hx hp hin => ?_
    rw [mem_putF] at hin
    rcases hin with h | ⟨h, _⟩
    · simp at h
    · simp [ha.sub x h] at hp
  · show e.2 ∈ joinK a.K b.K
    rw [mem_joinKg]
    rcases (mem_joinLg _ _ _ _ _).1 he with h | h
    · exact Or.inl (ha.sub e h.1)
    · exact Or.inr (hb.sub e h.1)
  · rcases (mem_joinLg _ _ _ _ _).1 he with h | h
    · exact ha.hL e h.1
    · exact hb.hL e h.1
  · rcases (mem_joinKg _ _ _).1 ht with h | h
    · exact ha.hK t h
    · exact hb.hK t h
theorem PcOk.klen {H : List Ent} {p : Pc} (h : PcOk H p) : p.K.length ≤ H.length := by
  have := sub_len (sorted_nodup ord_before h.sK) h.hK
  simpa using this
theorem nodup_inj {β : Type} {γ : Type} {f : β → γ} : ∀ {l : List β}, (l.map f).Nodup → ∀ a ∈ l, ∀ b ∈ l, f a = f b → a = b := by
  intro l
  induction l with
  | nil => intro _ a ha; simp at ha
  | cons x l ih =>
    intro hn a ha b hb e
    rw [List.map_cons, List.nodup_cons] at hn
    rcases List.mem_cons.1 ha with h1 | h1 <;> rcases List.mem_cons.1 hb with h2 | h2
    · rw [h1, h2]
    · exact absurd (List.mem_map.2 ⟨b, h2, by rw [← e, h1]⟩) hn.1
    · exact absurd (List.mem_map.2 ⟨a, h1, by rw [e, h2]⟩) hn.1
    · exact ih hn.2 a h1 b h2 e
/-- Entries of a history go by their tokens. -/
theorem toks_len {H : List Ent} (hH : (H.map Prod.snd).Nodup) {l : List Ent} (hn : l.Nodup) (hl : ∀ e ∈ l, e ∈ H) {K : List Tok} (hK : ∀ e ∈ l, e.2 ∈ K) : l.length ≤ K.length := by
  have h1 := map_nodup (f := Prod.snd) hn fun a ha b hb e => nodup_inj hH a (hl a ha) b (hl b hb) e
  have := sub_len h1 (m := K) fun x hx => by
    obtain ⟨e, he, rfl⟩ := List.mem_map.1 hx
    exact hK e he
  simpa using this
theorem PcOk.llen {H : List Ent} (hH : (H.map Prod.snd).Nodup) {p : Pc} (h : PcOk H p) : p.L.length ≤ p.K.length := toks_len hH (sorted_nodup ord_ahead h.sL) h.hL h.sub

/-- Who learns anything, or loses anything, has gone on. -/
theorem join_len {H : List Ent} (hH : (H.map Prod.snd).Nodup) {a b : Pc} (ha : PcOk H a) (hb : PcOk H b) (hne : joinP a b ≠ a) : (joinP a b).L.length + 1 + 2 * a.K.length ≤ 2 * (joinP a b).K.length + a.L.length := by
  have hJ := ha.join hb
  have eL : (joinP a b).L.length = (a.L.filter (keepA b.L b.K)).length + (b.L.filter fun e => !decide (e.2 ∈ a.K)).length := by
    show (joinL a.L a.K b.L b.K).length = _
    unfold joinL
    rw [putF_len, putF_len]
    simp
  have hf := List.length_filter_le (keepA b.L b.K) a.L
  -- the new entries have new tokens
  have hnew : (b.L.filter fun e => !decide (e.2 ∈ a.K)).length ≤ ((joinP a b).K.filter fun t => !decide (t ∈ a.K)).length := by
    refine toks_len hH ((sorted_nodup ord_ahead hb.sL).filter _) (fun e he => hb.hL e (mem_flt he)) fun e he => ?_
    have he' := List.mem_filter.1 he
    refine List.mem_filter.2 ⟨?_, he'.2⟩
    show e.2 ∈ joinK a.K b.K
    rw [mem_joinKg]
    exact Or.inr (hb.sub e he'.1)
  have hold : a.K.length ≤ ((joinP a b).K.filter fun t => decide (t ∈ a.K)).length := by
    refine sub_len (sorted_nodup ord_before ha.sK) fun t ht => List.mem_filter.2 ⟨?_, by simpa using ht⟩
    show t ∈ joinK a.K b.K
    rw [mem_joinKg]
    exact Or.inl ht
  have hsum : ((joinP a b).K.filter fun t => decide (t ∈ a.K)).length + ((joinP a b).K.filter fun t => !decide (t ∈ a.K)).length = (joinP a b).K.length := by
    generalize (joinP a b).K = l
    induction l with
    | nil => simp
    | cons x l ih =>
      simp only [List.filter_cons]
      cases decide (x ∈ a.K) <;> simp <;> omega
  by_cases h0 : ((joinP a b).K.filter fun t => !decide (t ∈ a.K)).length = 0
  · have hK : (joinP a b).K = a.K := by
      refine sorted_ext ord_before hJ.sK ha.sK fun x => ⟨fun hx => ?_, fun hx => (mem_joinKg _ _ _).2 (Or.inl hx)⟩
      have e := List.filter_eq_nil_iff.1 (List.eq_nil_of_length_eq_zero h0) x hx
      simpa using e
    have h1 : (b.L.filter fun e => !decide (e.2 ∈ a.K)).length = 0 := by omega
    have hlt : (a.L.filter (keepA b.L b.K)).length < a.L.length := by
      rcases Nat.lt_or_ge (a.L.filter (keepA b.L b.K)).length a.L.length with h | h
      · exact h
      · exfalso
        have hall := List.length_filter_eq_length_iff.1 (Nat.le_antisymm hf h)
        refine hne ?_
        have hL : (joinP a b).L = a.L := by
          refine sorted_ext ord_ahead hJ.sL ha.sL fun x => ⟨fun hx => ?_, fun hx => (mem_joinLg _ _ _ _ _).2 (Or.inl ⟨hx, hall x hx⟩)⟩
          rcases (mem_joinLg _ _ _ _ _).1 hx with h | h
          · exact h.1
          · have e := List.filter_eq_nil_iff.1 (List.eq_nil_of_length_eq_zero h1) x h.1
            simp [h.2] at e
        rcases hj : joinP a b with ⟨l, k⟩
        rw [hj] at hL hK
        cases a
        simp only at hL hK
        rw [hL, hK]
    rw [hK]
    omega
  · omega
end Go.Proofs.YtnniimfinakioaaGreatDoor
namespace Go.Proofs.YtnniimfinakioaaGreatDoor
open Go.RowKit

/-! The document's answers to the calls of P6 to P9. -/
def ackMd (m : Md) : Md := ⟨2, m.to, m.frm, m.number, [], ⟨[], []⟩⟩
def newsMd (d : Nd) (i j a : Nat) : Md := ⟨1, i, j, d.count, pieceT (sendP d a).L (sendP d a).K, sendP d a⟩
def sendM (W : Wd) (i j : Int) : Int × Wd := match nodeAt W i, nodeAt W j with
  | some d, some _ => if i = j then (1, W) else if d.count ≤ d.acked.getD j.toNat 0 then (3, W) else (0, { W with fly := flyL W.fly (newsMd d i.toNat j.toNat (d.acked.getD j.toNat 0)) })
  | _, _ => (1, W)
def flyingM (W : Wd) : List Tm := W.fly.map Md.t
def msgAt (W : Wd) (i : Int) : Option Md := if i < 0 then none else W.fly[i.toNat]?
def gone (W : Wd) (i : Nat) : List Md := W.fly.take i ++ W.fly.drop (i + 1)
def dropM (W : Wd) (i : Int) : Int × Wd := match msgAt W i with
  | none => (3, W)
  | some _ => (0, { W with fly := gone W i.toNat })
def doubleM (W : Wd) (i : Int) : Int × Wd := match msgAt W i with
  | none => (3, W)
  | some m => (0, { W with fly := flyL W.fly m })
def deliverM (W : Wd) (i : Int) : Int × Wd := match msgAt W i with
  | none => (3, W)
  | some m => match W.nodes[m.to]? with
    | none => (0, W)
    | some d => if m.kind = 2 then (0, { W with nodes := W.nodes.set m.to (ackN d m.frm m.number), fly := gone W i.toNat })
      else (0, { W with nodes := W.nodes.set m.to (comeN d m.p), fly := flyL (gone W i.toNat) (ackMd m) })
def needed (n i : Nat) (d : Nd) (k : Nat × Pc) : Bool := (List.range n).any fun j => decide (j ≠ i) && decide (d.acked.getD j 0 ≤ k.1)
def collectM (W : Wd) (i : Int) : Int × Wd := match nodeAt W i with
  | none => (1, W)
  | some d => (0, { W with nodes := W.nodes.set i.toNat { d with kept := d.kept.filter (needed W.nodes.length i.toNat d) } })
def crashM (W : Wd) (i : Int) : Int × Wd := match nodeAt W i with
  | none => (1, W)
  | some d => (0, { W with nodes := W.nodes.set i.toNat { d with kept := [], acked := List.replicate W.nodes.length 0 } })
/-- One tells another one, and is acked at once. -/
def talkN (W : Wd) (i k : Nat) (d e : Nd) : Wd := { W with nodes := (W.nodes.set k (comeN e (sendP d (d.acked.getD k 0)))).set i (ackN d k d.count) }
def talk (s : Nat × Wd) (x : Nat × Nat) : Nat × Wd := if x.1 = x.2 then s else match s.2.nodes[x.1]?, s.2.nodes[x.2]? with
  | some d, some e => if d.count ≤ d.acked.getD x.2 0 then s else (s.1 + 1, talkN s.2 x.1 x.2 d e)
  | _, _ => s
def pairsOf (n : Nat) : List (Nat × Nat) := (List.range n).flatMap fun i => (List.range n).map fun k => (i, k)
def roundM (W : Wd) : Nat × Wd := (pairsOf W.nodes.length).foldl talk (0, W)

/-! What always holds. -/
structure NodeG (H : List Ent) (n i : Nat) (d : Nd) : Prop where
  pc : PcOk H d.p
  own : ∀ k : Int, ((i : Int), k) ∈ d.p.K ↔ 1 ≤ k ∧ k ≤ d.made
  len : d.count + d.p.L.length ≤ 2 * d.p.K.length
  kept : d.kept.length ≤ d.count
  keptP : ∀ k ∈ d.kept, PcOk H k.2 ∧ k.1 < d.count
  keptS : d.kept.Pairwise fun a b => a.1 < b.1
  acked : d.acked.length = n
structure MsgG (H : List Ent) (n : Nat) (m : Md) : Prop where
  kind : m.kind = 1 ∨ m.kind = 2
  frm : m.frm < n
  to : m.to < n
  ne : m.frm ≠ m.to
  num : m.number ≤ 60
  pc : PcOk H m.p
  text : m.text = if m.kind = 1 then pieceT m.p.L m.p.K else []
structure WGH (H : List Ent) (W : Wd) : Prop where
  one : 1 ≤ W.nodes.length
  five : W.nodes.length ≤ 5
  adds : W.adds ≤ 30
  sum : (W.nodes.map Nd.made).sum = W.adds
  toks : (H.map Prod.snd).Nodup
  len : H.length = W.adds
  nm : ∀ e ∈ H, nameB e.1 = true
  tok : ∀ e ∈ H, ∃ (i : Nat) (d : Nd), W.nodes[i]? = some d ∧ e.2.1 = (i : Int) ∧ 1 ≤ e.2.2 ∧ e.2.2 ≤ (d.made : Int)
  node : ∀ (i : Nat) (d : Nd), W.nodes[i]? = some d → NodeG H W.nodes.length i d
  fly : ∀ m ∈ W.fly, MsgG H W.nodes.length m
  forty : W.fly.length ≤ 40
def WG (W : Wd) : Prop := ∃ H, WGH H W

section
variable {H : List Ent} {W : Wd}
theorem NodeG.mono {H' : List Ent} {n i : Nat} {d : Nd} (h : NodeG H n i d) (hs : ∀ e ∈ H, e ∈ H') : NodeG H' n i d :=
  ⟨h.pc.mono hs, h.own, h.len, h.kept, fun k hk => ⟨(h.keptP k hk).1.mono hs, (h.keptP k hk).2⟩, h.keptS, h.acked⟩
theorem MsgG.mono {H' : List Ent} {n : Nat} {m : Md} (h : MsgG H n m) (hs : ∀ e ∈ H, e ∈ H') : MsgG H' n m :=
  ⟨h.kind, h.frm, h.to, h.ne, h.num, h.pc.mono hs, h.text⟩
theorem WGH.klen (h : WGH H W) {p : Pc} (hp : PcOk H p) : p.K.length ≤ 30 := by
  have := hp.klen
  have := h.len
  have := h.adds
  omega
theorem WGH.llen (h : WGH H W) {p : Pc} (hp : PcOk H p) : p.L.length ≤ 30 := Nat.le_trans (hp.llen h.toks) (h.klen hp)
theorem WGH.count (h : WGH H W) {i : Nat} {d : Nd} (hd : W.nodes[i]? = some d) : d.count ≤ 60 := by
  have := (h.node i d hd).len
  have := h.klen (h.node i d hd).pc
  omega
theorem WGH.small (h : WGH H W) {p : Pc} (hp : PcOk H p) : SmallP p := ⟨Nat.le_trans (h.llen hp) (by decide), Nat.le_trans (h.klen hp) (by decide)⟩
theorem WGH.made (h : WGH H W) {i : Nat} {d : Nd} (hd : W.nodes[i]? = some d) : d.made ≤ 30 := by
  have := made_le (W.nodes.map Nd.made) i d.made (by rw [List.getElem?_map, hd]; rfl)
  rw [h.sum] at this
  exact Nat.le_trans this h.adds
theorem WGH.tokOk (h : WGH H W) {t : Tok} (ht : t ∈ H.map Prod.snd) : TokOk t := by
  obtain ⟨e, he, rfl⟩ := List.mem_map.1 ht
  obtain ⟨i, d, hd, h1, h2, h3⟩ := h.tok e he
  have hm := h.made hd
  have hi := (List.getElem?_eq_some_iff.1 hd).1
  have h5 := h.five
  exact ⟨by rw [h1]; omega, by rw [h1]; omega, by omega, by omega⟩
theorem nameB_len {s : Nm} (h : nameB s = true) : s.length ≤ 8 := by
  simp only [nameB, Bool.and_eq_true, decide_eq_true_eq] at h
  exact h.2.2
theorem WGH.entOk (h : WGH H W) {e : Ent} (he : e ∈ H) : EntOk e := ⟨nameB_len (h.nm e he), h.tokOk (List.mem_map.2 ⟨e, he, rfl⟩)⟩
theorem WGH.own (h : WGH H W) {i : Nat} {d : Nd} (hd : W.nodes[i]? = some d) {k : Int} (ht : ((i : Int), k) ∈ H.map Prod.snd) : 1 ≤ k ∧ k ≤ d.made := by
  obtain ⟨e, he, e2⟩ := List.mem_map.1 ht
  obtain ⟨j, d', hd', h1, h2, h3⟩ := h.tok e he
  rw [e2] at h1 h2 h3
  have : i = j := by
    have h4 : (i : Int) = (j : Int) := h1
    omega
  subst this
  rw [hd] at hd'
  cases hd'
  exact ⟨h2, h3⟩

/-- A node has news. -/
theorem NodeG.news {H' : List Ent} {n i m' : Nat} {d : Nd} {q : Pc} (h : NodeG H n i d) (hs : ∀ e ∈ H, e ∈ H') (hH : (H'.map Prod.snd).Nodup) (hq : PcOk H' q) (own : ∀ k : Int, ((i : Int), k) ∈ joinK d.p.K q.K ↔ 1 ≤ k ∧ k ≤ m') (hne : joinP d.p q ≠ d.p) : NodeG H' n i (newsM { d with made := m' } q) := by
  have hp := h.pc.mono hs
  refine ⟨hp.join hq, own, ?_, ?_, ?_, ?_, h.acked⟩
  · have := join_len hH hp hq hne
    have := h.len
    show d.count + 1 + (joinP d.p q).L.length ≤ 2 * (joinP d.p q).K.length
    omega
  · have := h.kept
    show (d.kept ++ [(d.count, q)]).length ≤ d.count + 1
    simp; omega
  · intro k hk
    have hk' : k ∈ d.kept ++ [(d.count, q)] := hk
    rcases List.mem_append.1 hk' with h1 | h1
    · have := h.keptP k h1
      exact ⟨this.1.mono hs, Nat.lt_succ_of_lt this.2⟩
    · rw [List.mem_singleton] at h1
      subst h1
      exact ⟨hq, Nat.lt_succ_self _⟩
  · show (d.kept ++ [(d.count, q)]).Pairwise _
    refine List.pairwise_append.2 ⟨h.keptS, by simp, fun a ha b hb => ?_⟩
    rw [List.mem_singleton] at hb
    subst hb
    exact (h.keptP a ha).2
theorem NodeG.come {n i : Nat} {d : Nd} {q : Pc} (h : NodeG H n i d) (hH : (H.map Prod.snd).Nodup) (hq : PcOk H q) (ho : ∀ k : Int, ((i : Int), k) ∈ q.K → 1 ≤ k ∧ k ≤ d.made) : NodeG H n i (comeN d q) ∧ (comeN d q).made = d.made := by
  unfold comeN
  split
  · exact ⟨h, rfl⟩
  · rename_i hne
    refine ⟨h.news (fun e he => he) hH hq (fun k => ?_) (fun e => hne ⟨congrArg Pc.L e, congrArg Pc.K e⟩), rfl⟩
    rw [mem_joinKg, h.own]
    exact ⟨fun hx => hx.elim id (ho k), Or.inl⟩
theorem NodeG.ack {n i : Nat} {d : Nd} (h : NodeG H n i d) (f k : Nat) : NodeG H n i (ackN d f k) ∧ (ackN d f k).made = d.made := by
  unfold ackN
  split
  · exact ⟨⟨h.pc, h.own, h.len, h.kept, h.keptP, h.keptS, by show (d.acked.set f k).length = n; rw [List.length_set]; exact h.acked⟩, rfl⟩
  · exact ⟨h, rfl⟩
theorem WGH.set (h : WGH H W) {k : Nat} {d d' : Nd} (hd : W.nodes[k]? = some d) (hn : NodeG H W.nodes.length k d') (hm : d'.made = d.made) : WGH H { W with nodes := W.nodes.set k d' } := by
  refine ⟨by simpa using h.one, by simpa using h.five, h.adds, ?_, h.toks, h.len, h.nm, ?_, ?_, ?_, h.forty⟩
  · show ((W.nodes.set k d').map Nd.made).sum = W.adds
    rw [List.map_set]
    have := sum_set (W.nodes.map Nd.made) k d.made d'.made (by rw [List.getElem?_map, hd]; rfl)
    rw [h.sum] at this
    omega
  · intro e he
    obtain ⟨i, x, hx, h1, h2, h3⟩ := h.tok e he
    by_cases hik : k = i
    · subst hik
      rw [hd] at hx
      cases hx
      exact ⟨k, d', set_get hd, h1, h2, by rw [hm]; exact h3⟩
    · refine ⟨i, x, ?_, h1, h2, h3⟩
      show (W.nodes.set k d')[i]? = some x
      rw [List.getElem?_set_ne hik]
      exact hx
  · intro i x hx
    show NodeG H (W.nodes.set k d').length i x
    rw [List.length_set]
    rcases set_at hx with ⟨rfl, rfl⟩ | ⟨_, hx⟩
    · exact hn
    · exact h.node i x hx
  · intro m hm'
    show MsgG H (W.nodes.set k d').length m
    rw [List.length_set]
    exact h.fly m hm'
theorem WGH.flies (h : WGH H W) {fl : List Md} (hf : ∀ m ∈ fl, MsgG H W.nodes.length m) (h40 : fl.length ≤ 40) : WGH H { W with fly := fl } :=
  ⟨h.one, h.five, h.adds, h.sum, h.toks, h.len, h.nm, h.tok, h.node, hf, h40⟩
theorem flyL_len {α : Type} {l : List α} {m : α} (h : l.length ≤ 40) : (flyL l m).length ≤ 40 := by
  unfold flyL
  split
  · simp; omega
  · exact h
theorem flyL_mem {α : Type} {l : List α} {m x : α} (h : x ∈ flyL l m) : x ∈ l ∨ x = m := by
  unfold flyL at h
  split at h
  · simpa using h
  · exact Or.inl h
theorem WGH.flown (h : WGH H W) {m : Md} (hm : MsgG H W.nodes.length m) : WGH H { W with fly := flyL W.fly m } :=
  h.flies (fun x hx => (flyL_mem hx).elim (h.fly x) fun e => e ▸ hm) (flyL_len h.forty)
theorem mem_gone {i : Nat} {x : Md} (h : x ∈ gone W i) : x ∈ W.fly := by
  unfold gone at h
  rcases List.mem_append.1 h with h | h
  · exact List.mem_of_mem_take h
  · exact List.mem_of_mem_drop h
theorem gone_len (i : Nat) (h : W.fly.length ≤ 40) : (gone W i).length ≤ 40 := by
  unfold gone
  simp
  omega
theorem nodeAt_is {i : Int} {d : Nd} (hn : nodeAt W i = some d) : 0 ≤ i ∧ W.nodes[i.toNat]? = some d := by
  unfold nodeAt at hn
  split at hn
  · cases hn
  · exact ⟨by omega, hn⟩
theorem msgAt_is {i : Int} {m : Md} (hn : msgAt W i = some m) : 0 ≤ i ∧ W.fly[i.toNat]? = some m := by
  unfold msgAt at hn
  split at hn
  · cases hn
  · exact ⟨by omega, hn⟩

/-! Each call keeps it. -/
theorem foldP_ok (a : Nat) : ∀ (l : List (Nat × Pc)) (p : Pc), PcOk H p → (∀ k ∈ l, PcOk H k.2) → PcOk H (l.foldl (stepP a) p) := by
  intro l
  induction l with
  | nil => intro p h _; exact h
  | cons x l ih =>
    intro p h hl
    rw [List.foldl_cons]
    refine ih _ ?_ fun k hk => hl k (by simp [hk])
    unfold stepP
    split
    · exact h.join (hl x (by simp))
    · exact h
theorem NodeG.send {n i : Nat} {d : Nd} (h : NodeG H n i d) (a : Nat) : PcOk H (sendP d a) := by
  unfold sendP
  split
  · exact h.pc
  · split
    · exact foldP_ok a _ _ (PcOk.nil H) fun k hk => (h.keptP k hk).1
    · exact h.pc
theorem WGH.newsMd (h : WGH H W) {i j : Nat} {d : Nd} (hd : W.nodes[i]? = some d) (hj : j < W.nodes.length) (hne : i ≠ j) (a : Nat) : MsgG H W.nodes.length (newsMd d i j a) :=
  ⟨Or.inl rfl, (List.getElem?_eq_some_iff.1 hd).1, hj, hne, h.count hd, (h.node i d hd).send a, rfl⟩
theorem WGH.send (h : WGH H W) (i j : Int) : WGH H (sendM W i j).2 := by
  unfold sendM
  cases hn : nodeAt W i with
  | none => exact h
  | some d =>
    cases hn2 : nodeAt W j with
    | none => exact h
    | some e =>
      obtain ⟨h0, hd⟩ := nodeAt_is hn
      obtain ⟨h1, he⟩ := nodeAt_is hn2
      by_cases hij : i = j
      · simp only [hij, if_true]
        exact h
      · simp only [hij, if_false]
        split
        · exact h
        · exact h.flown (h.newsMd hd (List.getElem?_eq_some_iff.1 he).1 (by omega) _)
theorem WGH.drop (h : WGH H W) (i : Int) : WGH H (dropM W i).2 := by
  unfold dropM
  cases hn : msgAt W i with
  | none => exact h
  | some m => exact h.flies (fun x hx => h.fly x (mem_gone hx)) (gone_len _ h.forty)
theorem WGH.double (h : WGH H W) (i : Int) : WGH H (doubleM W i).2 := by
  unfold doubleM
  cases hn : msgAt W i with
  | none => exact h
  | some m => exact h.flown (h.fly m (List.mem_of_getElem? (msgAt_is hn).2))
theorem WGH.come (h : WGH H W) {k : Nat} {d : Nd} (hd : W.nodes[k]? = some d) {q : Pc} (hq : PcOk H q) : WGH H { W with nodes := W.nodes.set k (comeN d q) } := by
  obtain ⟨h1, h2⟩ := (h.node k d hd).come h.toks hq fun x hx => h.own hd (hq.hK _ hx)
  exact h.set hd h1 h2
theorem WGH.ack (h : WGH H W) {k : Nat} {d : Nd} (hd : W.nodes[k]? = some d) (f m : Nat) : WGH H { W with nodes := W.nodes.set k (ackN d f m) } :=
  h.set hd ((h.node k d hd).ack f m).1 ((h.node k d hd).ack f m).2
theorem WGH.deliver (h : WGH H W) (i : Int) : WGH H (deliverM W i).2 := by
  unfold deliverM
  cases hn : msgAt W i with
  | none => exact h
  | some m =>
    have hm := h.fly m (List.mem_of_getElem? (msgAt_is hn).2)
    cases hd : W.nodes[m.to]? with
    | none => simp only [hd]; exact h
    | some d =>
      simp only [hd]
      split
      · have := h.ack hd m.frm m.number
        exact this.flies (fun x hx => by rw [List.length_set]; exact h.fly x (mem_gone hx)) (gone_len _ h.forty)
      · have := h.come hd hm.pc
        refine this.flies (fun x hx => ?_) (flyL_len (gone_len _ h.forty))
        rw [List.length_set]
        rcases flyL_mem hx with hx | rfl
        · exact h.fly x (mem_gone hx)
        · exact ⟨Or.inr rfl, hm.to, hm.frm, Ne.symm hm.ne, hm.num, PcOk.nil H, rfl⟩
theorem WGH.collect (h : WGH H W) (i : Int) : WGH H (collectM W i).2 := by
  unfold collectM
  cases hn : nodeAt W i with
  | none => exact h
  | some d =>
    obtain ⟨_, hd⟩ := nodeAt_is hn
    have hN := h.node _ d hd
    refine h.set hd ⟨hN.pc, hN.own, hN.len, ?_, fun k hk => hN.keptP k (List.mem_filter.1 hk).1, hN.keptS.filter _, hN.acked⟩ rfl
    exact Nat.le_trans (List.length_filter_le _ _) hN.kept
theorem WGH.crash (h : WGH H W) (i : Int) : WGH H (crashM W i).2 := by
  unfold crashM
  cases hn : nodeAt W i with
  | none => exact h
  | some d =>
    obtain ⟨_, hd⟩ := nodeAt_is hn
    have hN := h.node _ d hd
    exact h.set hd ⟨hN.pc, hN.own, hN.len, by simp, by simp, by simp, by simp⟩ rfl
theorem WGH.talkN (h : WGH H W) {i k : Nat} {d e : Nd} (hd : W.nodes[i]? = some d) (he : W.nodes[k]? = some e) (hne : i ≠ k) : WGH H (talkN W i k d e) := by
  have h1 := h.come he ((h.node i d hd).send (d.acked.getD k 0))
  have h2 : (W.nodes.set k (comeN e (sendP d (d.acked.getD k 0))))[i]? = some d := by rw [List.getElem?_set_ne (Ne.symm hne)]; exact hd
  exact h1.ack h2 k d.count
theorem WGH.talk {s : Nat × Wd} (h : WGH H s.2) (x : Nat × Nat) : WGH H (talk s x).2 := by
  unfold Go.Proofs.YtnniimfinakioaaGreatDoor.talk
  split
  · exact h
  · rename_i hne
    split
    · rename_i d e hd he
      split
      · exact h
      · exact h.talkN hd he hne
    · exact h
theorem WGH.round (h : WGH H W) : WGH H (roundM W).2 := by
  unfold roundM
  have : ∀ (l : List (Nat × Nat)) (s : Nat × Wd), WGH H s.2 → WGH H (l.foldl Go.Proofs.YtnniimfinakioaaGreatDoor.talk s).2 := by
    intro l
    induction l with
    | nil => intro s hs; exact hs
    | cons x l ih => intro s hs; exact ih _ (hs.talk x)
  exact this _ _ h
theorem ofK_sorted (L : List Ent) : Sorted beforeB (ofK L) := by
  have : ∀ (l : List Ent) (acc : List Tok), Sorted beforeB acc → Sorted beforeB (l.foldl lrnE acc) := by
    intro l
    induction l with
    | nil => intro acc h; exact h
    | cons x l ih =>
      intro acc h
      rw [List.foldl_cons]
      refine ih _ ?_
      unfold lrnE learnL
      split
      · exact h
      · rename_i hn
        exact insB_sorted ord_before _ _ h hn
  exact this L [] (by simp [Sorted])
theorem WGH.take (h : WGH H W) {i : Int} {d : Nd} (hn : nodeAt W i = some d) {es : List Ent} (hes : ∀ e ∈ es, e ∈ d.p.L) : WGH H (takeM W i d es).2 := by
  unfold takeM
  split
  · exact h
  · rename_i hne
    obtain ⟨_, hd⟩ := nodeAt_is hn
    have hN := h.node _ d hd
    have hq : PcOk H ⟨[], ofK es⟩ := ⟨by simp [Sorted], ofK_sorted es, by simp, by simp, fun t ht => by
      obtain ⟨e, he, rfl⟩ := (mem_ofK _ _).1 ht
      exact List.mem_map.2 ⟨e, hN.pc.hL e (hes e he), rfl⟩⟩
    have hne2 : joinP d.p ⟨[], ofK es⟩ ≠ d.p := fun e => by
      obtain ⟨x, hx⟩ := List.exists_mem_of_ne_nil es hne
      have h1 : x ∈ (joinP d.p ⟨[], ofK es⟩).L := by rw [e]; exact hes x hx
      rcases (mem_joinLg _ _ _ _ _).1 h1 with h2 | h2
      · have h3 : x.2 ∈ ofK es := (mem_ofK _ _).2 ⟨x, hx, rfl⟩
        simp [keepA, h3] at h2
      · simp at h2
    refine h.set hd (hN.news (fun e he => he) h.toks hq (fun k => ?_) hne2) rfl
    rw [mem_joinKg, hN.own]
    refine ⟨fun hx => hx.elim id fun hx => ?_, Or.inl⟩
    obtain ⟨e, he, e2⟩ := (mem_ofK _ _).1 hx
    exact (hN.own k).1 (e2 ▸ hN.pc.sub e (hes e he))
theorem WGH.remove (h : WGH H W) (i : Int) (s : Nm) : WGH H (removeM W i s).2 := by
  unfold removeM
  cases hn : nodeAt W i with
  | none => exact h
  | some d =>
    cases hb : nameB s with
    | false => exact h
    | true => exact h.take hn fun e he => mem_flt he
theorem WGH.clear (h : WGH H W) (i : Int) : WGH H (clearM W i).2 := by
  unfold clearM
  cases hn : nodeAt W i with
  | none => exact h
  | some d => exact h.take hn fun e he => he
theorem WGH.add (h : WGH H W) (i : Int) (s : Nm) : ∃ H', (∀ e ∈ H, e ∈ H') ∧ WGH H' (addM W i s).2 := by
  unfold addM
  cases hn : nodeAt W i with
  | none => exact ⟨H, fun _ h => h, h⟩
  | some d =>
    cases hb : nameB s with
    | false => exact ⟨H, fun _ h => h, h⟩
    | true =>
      by_cases h30 : 30 ≤ W.adds
      · simp only [h30, if_true]; exact ⟨H, fun _ h => h, h⟩
      · simp only [h30, if_false]
        obtain ⟨_, hd⟩ := nodeAt_is hn
        have hN := h.node _ d hd
        obtain ⟨t, ht⟩ : ∃ t : Tok, t = ((i.toNat : Int), ((d.made + 1 : Nat) : Int)) := ⟨_, rfl⟩
        have hnew : ¬ t ∈ d.p.K := fun hx => by
          rw [ht] at hx
          have := ((hN.own _).1 hx).2
          omega
        have hnewH : ¬ t ∈ H.map Prod.snd := fun hx => by
          rw [ht] at hx
          have := (h.own hd hx).2
          omega
        have hs : ∀ e ∈ H, e ∈ H ++ [(s, t)] := fun e he => List.mem_append_left _ he
        have toks' : ((H ++ [(s, t)]).map Prod.snd).Nodup := by
          rw [List.map_append, List.nodup_append]
          refine ⟨h.toks, by simp, fun a ha b hb e => ?_⟩
          simp only [List.map_cons, List.map_nil, List.mem_singleton] at hb
          subst hb
          subst e
          exact hnewH ha
        have hq : PcOk (H ++ [(s, t)]) (addPc d.p.L i.toNat (d.made + 1) s) := by
          refine ⟨by simp [addPc, Sorted], ?_, ?_, ?_, ?_⟩
          · show Sorted beforeB (learnL (ofK (named s d.p.L)) _)
            unfold learnL
            split
            · exact ofK_sorted _
            · rename_i hx
              exact insB_sorted ord_before _ _ (ofK_sorted _) hx
          · intro e he
            simp only [addPc, List.mem_singleton] at he
            subst he
            exact (mem_learn _ _ _).2 (Or.inr rfl)
          · intro e he
            simp only [addPc, List.mem_singleton] at he
            subst he
            rw [← ht]
            simp
          · intro x hx
            rcases (mem_learn _ _ _).1 hx with h1 | h1
            · obtain ⟨e, he, rfl⟩ := (mem_ofK _ _).1 h1
              exact List.mem_map.2 ⟨e, hs e (hN.pc.hL e (mem_flt he)), rfl⟩
            · rw [← ht] at h1
              subst h1
              simp
        have hne : joinP d.p (addPc d.p.L i.toNat (d.made + 1) s) ≠ d.p := fun e => hnew (by
          rw [← e]
          refine (mem_joinKg _ _ _).2 (Or.inr ((mem_learn _ _ _).2 (Or.inr ?_)))
          exact ht)
        have hN' : NodeG (H ++ [(s, t)]) W.nodes.length i.toNat (addN d i.toNat s) := by
          refine hN.news (m' := d.made + 1) hs toks' hq (fun k => ?_) hne
          rw [mem_joinKg, hN.own]
          constructor
          · rintro (h1 | h1)
            · omega
            · rcases (mem_learn _ _ _).1 h1 with h2 | h2
              · obtain ⟨e, he, e2⟩ := (mem_ofK _ _).1 h2
                have := (hN.own k).1 (e2 ▸ hN.pc.sub e (mem_flt he))
                omega
              · simp only [Prod.mk.injEq, true_and] at h2
                omega
          · rintro ⟨h1, h2⟩
            by_cases hk : k ≤ d.made
            · exact Or.inl ⟨h1, hk⟩
            · refine Or.inr ((mem_learn _ _ _).2 (Or.inr ?_))
              have : k = ((d.made + 1 : Nat) : Int) := by omega
              rw [this]
        have hm : (addN d i.toNat s).made = d.made + 1 := rfl
        refine ⟨H ++ [(s, t)], hs, ⟨by simpa using h.one, by simpa using h.five, by show W.adds + 1 ≤ 30; omega, ?_, toks', by simp [h.len], ?_, ?_, ?_, ?_, h.forty⟩⟩
        · show ((W.nodes.set i.toNat (addN d i.toNat s)).map Nd.made).sum = W.adds + 1
          rw [List.map_set]
          have := sum_set (W.nodes.map Nd.made) i.toNat d.made (addN d i.toNat s).made (by rw [List.getElem?_map, hd]; rfl)
          rw [h.sum, hm] at this
          rw [hm]
          omega
        · intro e he
          rcases List.mem_append.1 he with h1 | h1
          · exact h.nm e h1
          · rw [List.mem_singleton] at h1
            subst h1
            exact hb
        · intro e he
          rcases List.mem_append.1 he with h1 | h1
          · obtain ⟨j, x, hx, q1, q2, q3⟩ := h.tok e h1
            by_cases hij : i.toNat = j
            · subst hij
              rw [hd] at hx
              cases hx
              exact ⟨_, _, set_get hd, q1, q2, by rw [hm]; omega⟩
            · refine ⟨j, x, ?_, q1, q2, q3⟩
              show (W.nodes.set i.toNat _)[j]? = some x
              rw [List.getElem?_set_ne hij]
              exact hx
          · rw [List.mem_singleton] at h1
            subst h1
            refine ⟨_, _, set_get hd, by rw [ht], by rw [ht]; show (1 : Int) ≤ ((d.made + 1 : Nat) : Int); omega, by rw [ht, hm]; exact Int.le_refl _⟩
        · intro j x hx
          show NodeG _ (W.nodes.set i.toNat _).length j x
          rw [List.length_set]
          rcases set_at hx with ⟨rfl, rfl⟩ | ⟨_, hx⟩
          · exact hN'
          · exact (h.node j x hx).mono hs
        · intro m hm'
          show MsgG _ (W.nodes.set i.toNat _).length m
          rw [List.length_set]
          exact (h.fly m hm').mono hs
end
theorem WG.zero {n : Nat} (h1 : 1 ≤ n) (h5 : n ≤ 5) : WG (zW n) := by
  refine ⟨[], by simpa [zW] using h1, by simpa [zW] using h5, by simp [zW], by simp [zW, zNd], by simp, by simp [zW], by simp, by simp, ?_, by simp [zW], by simp [zW]⟩
  intro i d hd
  have := List.eq_of_mem_replicate (List.mem_of_getElem? hd)
  subst this
  refine ⟨PcOk.nil [], fun k => ?_, by simp [zNd], by simp [zNd], by simp [zNd], by simp [zNd], by simp [zNd, zW]⟩
  simp [zNd]
  omega
theorem WG.add {W : Wd} (h : WG W) (i : Int) (s : Nm) : WG (addM W i s).2 := h.elim fun _ h => (h.add i s).elim fun H' x => ⟨H', x.2⟩
theorem WG.remove {W : Wd} (h : WG W) (i : Int) (s : Nm) : WG (removeM W i s).2 := h.elim fun H h => ⟨H, h.remove i s⟩
theorem WG.clear {W : Wd} (h : WG W) (i : Int) : WG (clearM W i).2 := h.elim fun H h => ⟨H, h.clear i⟩
theorem WG.send {W : Wd} (h : WG W) (i j : Int) : WG (sendM W i j).2 := h.elim fun H h => ⟨H, h.send i j⟩
theorem WG.deliver {W : Wd} (h : WG W) (i : Int) : WG (deliverM W i).2 := h.elim fun H h => ⟨H, h.deliver i⟩
theorem WG.drop {W : Wd} (h : WG W) (i : Int) : WG (dropM W i).2 := h.elim fun H h => ⟨H, h.drop i⟩
theorem WG.double {W : Wd} (h : WG W) (i : Int) : WG (doubleM W i).2 := h.elim fun H h => ⟨H, h.double i⟩
theorem WG.collect {W : Wd} (h : WG W) (i : Int) : WG (collectM W i).2 := h.elim fun H h => ⟨H, h.collect i⟩
theorem WG.crash {W : Wd} (h : WG W) (i : Int) : WG (crashM W i).2 := h.elim fun H h => ⟨H, h.crash i⟩
theorem WG.round {W : Wd} (h : WG W) : WG (roundM W).2 := h.elim fun H h => ⟨H, h.round⟩
end Go.Proofs.YtnniimfinakioaaGreatDoor
namespace Go.Proofs.YtnniimfinakioaaGreatDoor
open Go.RowKit

/-- The calls of a world, of either kind, that lies in memory by the relation R. -/
structure OpsG (fNew fAdd fRemove fClear fItems fText fStatus fSend fFlying fDeliver fDrop fDouble fCollect fCrash fRound : FuncId) (late : Prop) (R : World → (Nat → Prop) → Nat → Wd → Prop) : Prop where
  lt : ∀ {w : World} {S : Nat → Prop} {p : Nat} {W : Wd}, R w S p W → ∀ b, S b → b < w.heap.size
  kp : ∀ {w w' : World} {S S' : Nat → Prop} {B p : Nat} {W : Wd}, R w S p W → Kp B S' w w' → Off S B S' → R w' S p W
  newNo : ∀ (n : Int) (w : World), n < 1 ∨ 5 < n → Calls Tryz.prog fNew #[.int .i64 n] w fun e w' => e = .returned (.tuple #[.pointer none, err 1]) ∧ Below w.heap.size w w'
  newYes : ∀ (n : Nat) (w : World), 1 ≤ n → n ≤ 5 → Calls Tryz.prog fNew #[.int .i64 n] w fun e w' => ∃ q, e = .returned (.tuple #[ptr q, err 0]) ∧ R w' (Ext NoS w w') q (zW n) ∧ Below w.heap.size w w'
  add : ∀ (w : World) (S : Nat → Prop) (p : Nat) (W : Wd) (i : Int) (s : Nm), R w S p W → WG W → s.length ≤ 2000000 →
    Calls Tryz.prog fAdd #[ptr p, .int .i64 i, strV s] w fun e w' => e = .returned (err (addM W i s).1) ∧ R w' (Ext S w w') p (addM W i s).2 ∧ Kp w.heap.size S w w'
  remove : ∀ (w : World) (S : Nat → Prop) (p : Nat) (W : Wd) (i : Int) (s : Nm), R w S p W → WG W → s.length ≤ 2000000 →
    Calls Tryz.prog fRemove #[ptr p, .int .i64 i, strV s] w fun e w' => e = .returned (err (removeM W i s).1) ∧ R w' (Ext S w w') p (removeM W i s).2 ∧ Kp w.heap.size S w w'
  clear : ∀ (w : World) (S : Nat → Prop) (p : Nat) (W : Wd) (i : Int), R w S p W → WG W →
    Calls Tryz.prog fClear #[ptr p, .int .i64 i] w fun e w' => e = .returned (err (clearM W i).1) ∧ R w' (Ext S w w') p (clearM W i).2 ∧ Kp w.heap.size S w w'
  items : ∀ (w : World) (S : Nat → Prop) (p : Nat) (W : Wd) (i : Int), R w S p W → WG W →
    Calls Tryz.prog fItems #[ptr p, .int .i64 i] w fun e w' => ∃ v, e = .returned (.tuple #[v, err (itemsM W i).1]) ∧ StrR w' v (itemsM W i).2 ∧ (∀ g, v.ownBlock = some g → w.heap.size ≤ g) ∧ Below w.heap.size w w'
  text : ∀ (w : World) (S : Nat → Prop) (p : Nat) (W : Wd) (i : Int), R w S p W → WG W →
    Calls Tryz.prog fText #[ptr p, .int .i64 i] w fun e w' => e = .returned (.tuple #[strV (textM W i).2, err (textM W i).1]) ∧ Below w.heap.size w w'
  status : ∀ (w : World) (S : Nat → Prop) (p : Nat) (W : Wd) (i : Int), R w S p W → WG W →
    Calls Tryz.prog fStatus #[ptr p, .int .i64 i] w fun e w' => ∃ vK vA vT, e = .returned (.tuple #[.agg #[.int .i64 (statusM W i).count, vK, vA, vT], err (statusM W i).err]) ∧
      IntR w' vK (statusM W i).kept ∧ IntR w' vA (statusM W i).acked ∧ IntR w' vT (statusM W i).tokens ∧
      (∀ g, vK.ownBlock = some g → w.heap.size ≤ g) ∧ (∀ g, vA.ownBlock = some g → w.heap.size ≤ g) ∧ (∀ g, vT.ownBlock = some g → w.heap.size ≤ g) ∧
      (∀ g, vK.ownBlock = some g → vA.ownBlock = some g → False) ∧ (∀ g, vK.ownBlock = some g → vT.ownBlock = some g → False) ∧ (∀ g, vA.ownBlock = some g → vT.ownBlock = some g → False) ∧ Below w.heap.size w w'
  send : ∀ (w : World) (S : Nat → Prop) (p : Nat) (W : Wd) (i j : Int), R w S p W → WG W →
    Calls Tryz.prog fSend #[ptr p, .int .i64 i, .int .i64 j] w fun e w' => e = .returned (err (sendM W i j).1) ∧ R w' (Ext S w w') p (sendM W i j).2 ∧ Kp w.heap.size S w w'
  flying : ∀ (w : World) (S : Nat → Prop) (p : Nat) (W : Wd), R w S p W → WG W →
    Calls Tryz.prog fFlying #[ptr p] w fun e w' => ∃ v, e = .returned v ∧ TmR w' v (flyingM W) ∧ (∀ g, v.ownBlock = some g → w.heap.size ≤ g) ∧ Below w.heap.size w w'
  deliver : ∀ (w : World) (S : Nat → Prop) (p : Nat) (W : Wd) (i : Int), R w S p W → WG W →
    Calls Tryz.prog fDeliver #[ptr p, .int .i64 i] w fun e w' => e = .returned (err (deliverM W i).1) ∧ R w' (Ext S w w') p (deliverM W i).2 ∧ Kp w.heap.size S w w'
  drop : ∀ (w : World) (S : Nat → Prop) (p : Nat) (W : Wd) (i : Int), R w S p W → WG W →
    Calls Tryz.prog fDrop #[ptr p, .int .i64 i] w fun e w' => e = .returned (err (dropM W i).1) ∧ R w' (Ext S w w') p (dropM W i).2 ∧ Kp w.heap.size S w w'
  double : ∀ (w : World) (S : Nat → Prop) (p : Nat) (W : Wd) (i : Int), R w S p W → WG W →
    Calls Tryz.prog fDouble #[ptr p, .int .i64 i] w fun e w' => e = .returned (err (doubleM W i).1) ∧ R w' (Ext S w w') p (doubleM W i).2 ∧ Kp w.heap.size S w w'
  collect : late → ∀ (w : World) (S : Nat → Prop) (p : Nat) (W : Wd) (i : Int), R w S p W → WG W →
    Calls Tryz.prog fCollect #[ptr p, .int .i64 i] w fun e w' => e = .returned (err (collectM W i).1) ∧ R w' (Ext S w w') p (collectM W i).2 ∧ Kp w.heap.size S w w'
  crash : late → ∀ (w : World) (S : Nat → Prop) (p : Nat) (W : Wd) (i : Int), R w S p W → WG W →
    Calls Tryz.prog fCrash #[ptr p, .int .i64 i] w fun e w' => e = .returned (err (crashM W i).1) ∧ R w' (Ext S w w') p (crashM W i).2 ∧ Kp w.heap.size S w w'
  round : late → ∀ (w : World) (S : Nat → Prop) (p : Nat) (W : Wd), R w S p W → WG W →
    Calls Tryz.prog fRound #[ptr p] w fun e w' => e = .returned (.int .i64 ((roundM W).1 : Int)) ∧ R w' (Ext S w w') p (roundM W).2 ∧ Kp w.heap.size S w w'
end Go.Proofs.YtnniimfinakioaaGreatDoor
namespace Go.Proofs.YtnniimfinakioaaGreatDoor
open Go.RowKit

/-- Of its own tokens a node knows exactly those that it has made. -/
theorem NodeG.ownToks {H : List Ent} {n i : Nat} {d : Nd} (h : NodeG H n i d) : d.p.K.filter (fun t => t.1 == (i : Int)) = tokR i d.made := by
  refine sorted_ext ord_before (h.pc.sK.filter _) (tokR_sorted i d.made) fun x => ?_
  rw [List.mem_filter]
  constructor
  · rintro ⟨h1, h2⟩
    have e : x.1 = (i : Int) := by simpa using h2
    have hx : x = ((i : Int), x.2) := by rw [← e]
    rw [hx] at h1
    obtain ⟨g1, g2⟩ := (h.own x.2).1 h1
    rw [hx]
    refine List.mem_map.2 ⟨(x.2 - 1).toNat, List.mem_range.2 (by omega), ?_⟩
    have : (((x.2 - 1).toNat : Nat) : Int) + 1 = x.2 := by omega
    rw [this]
  · intro hx
    obtain ⟨k, hk, rfl⟩ := List.mem_map.1 hx
    have := List.mem_range.1 hk
    exact ⟨(h.own _).2 ⟨by omega, by omega⟩, by simp⟩
theorem NodeG.ownCount {H : List Ent} {n i : Nat} {d : Nd} (h : NodeG H n i d) : (d.p.K.filter (fun t => t.1 == (i : Int))).length = d.made := by
  rw [h.ownToks]
  simp [tokR]
end Go.Proofs.YtnniimfinakioaaGreatDoor
