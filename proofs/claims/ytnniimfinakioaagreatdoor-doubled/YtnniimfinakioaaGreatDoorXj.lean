import Derived.Test.YtnniimfinakioaaGreatDoorXe
import Derived.Test.YtnniimfinakioaaGreatDoorXa
import Derived.Test.YtnniimfinakioaaGreatDoorXg
namespace Go.Proofs.YtnniimfinakioaaGreatDoor
open Go.RowKit
attribute [local go_sem ↓] eqTok eqEnt
attribute [local go_sem] toList_nm app_nm size_nm

def pairC (x : Nat × Nat) : List Value := [ptr x.1, ptr x.2]
theorem pairW : FW pairC 2 := fun _ => rfl

/-- A list all of whose elements are u, in a block of ST. -/
def AllIs (w : World) (ST : Nat → Prop) (v u : Value) : Prop := ∃ o n c, v = .slice o n c ∧ n ≤ 1000000000 ∧ ∀ k, k < n → ∃ g, o = some ⟨g, 0, none⟩ ∧ ST g ∧ w.cell? ⟨g, k, none⟩ = some u

/-- A list of messages, all of which are the mark m. -/
def mkM (m : Int) : Tm := ⟨m, m, m, m, []⟩
def AllMs (w : World) (ST : Nat → Prop) (v : Value) (m : Int) : Prop := ∃ o n c, v = .slice o n c ∧ n ≤ 1000000000 ∧ ∀ k, k < n → ∃ g, o = some ⟨g, 0, none⟩ ∧ ST g ∧ ∀ j, j < 5 → w.cell? ⟨g, k * 5 + j, none⟩ = (tmC (mkM m))[j]?
theorem AllMs.kp {w w' : World} {ST S' : Nat → Prop} {B : Nat} {v : Value} {m : Int} (h : AllMs w ST v m) (k : Kp B S' w w') (o : Off ST B S') : AllMs w' ST v m := by
  obtain ⟨oo, n, c, rfl, hn, hk⟩ := h
  refine ⟨oo, n, c, rfl, hn, fun j hj => ?_⟩
  obtain ⟨g, rfl, hg, hc⟩ := hk j hj
  exact ⟨g, rfl, hg, fun t ht => (k.cell (p := ⟨g, j * 5 + t, none⟩) (o g hg).1 (o g hg).2).trans (hc t ht)⟩
theorem AllMs.mono {w : World} {ST ST' : Nat → Prop} {v : Value} {m : Int} (h : AllMs w ST v m) (hS : ∀ b, ST b → ST' b) : AllMs w ST' v m := by
  obtain ⟨oo, n, c, rfl, hn, hk⟩ := h
  refine ⟨oo, n, c, rfl, hn, fun j hj => ?_⟩
  obtain ⟨g, rfl, hg, hc⟩ := hk j hj
  exact ⟨g, rfl, hS g hg, hc⟩
theorem marks_get (m : Int) : ∀ (r t : Nat), t < r * 5 → ((List.replicate r (mkM m)).flatMap tmC)[t]? = (tmC (mkM m))[t % 5]? := by
  intro r t ht
  have hm : t % 5 < 5 := Nat.mod_lt _ (by decide)
  have hd : t / 5 < r := by omega
  have e := flat_get tmW (List.replicate r (mkM m)) (t / 5) (t % 5) (mkM m) (by rw [List.getElem?_replicate, if_pos hd]) hm
  rw [← e]
  congr 1
  omega
theorem AllMs.over {w w' : World} {ST : Nat → Prop} {v : Value} {m : Int} {n r : Nat} (h : AllMs w ST v m) (ho : OverAt w w' (n * 5) ((List.replicate r (mkM m)).flatMap tmC)) : AllMs w' ST v m := by
  obtain ⟨oo, n', c, rfl, hle, hk⟩ := h
  refine ⟨oo, n', c, rfl, hle, fun j hj => ?_⟩
  obtain ⟨g, rfl, hg, hc⟩ := hk j hj
  refine ⟨g, rfl, hg, fun t ht => ?_⟩
  have hx := hc t ht
  have hlen : t < (tmC (mkM m)).length := by rw [tmW]; exact ht
  rw [List.getElem?_eq_getElem hlen] at hx ⊢
  rcases ho g (j * 5 + t) _ hx with h | ⟨h1, h2, h3⟩
  · exact h
  · rw [flat_len tmW, List.length_replicate] at h3
    rw [h2, marks_get m r _ h3]
    have : (j * 5 + t - n * 5) % 5 = t := by omega
    rw [this, List.getElem?_eq_getElem hlen]
theorem AllMs.of {w : World} {ST : Nat → Prop} {v : Value} {m : Int} {e n : Nat} (h : w.ownsRow 0 e 5 v n ((List.replicate n (mkM m)).flatMap tmC)) (hS : ∀ g, v.ownBlock = some g → ST g) (hn : n ≤ 1000000000) : AllMs w ST v m := by
  obtain ⟨o, c, rfl, _, _⟩ := own_form h
  refine ⟨o, n, c, rfl, hn, fun j hj => ?_⟩
  rcases h.2 with ⟨hx, h0⟩ | ⟨g, cap, cur, hx, hb, hgg, h1, h2, h3, h4⟩
  · omega
  · simp only [Value.slice.injEq] at hx
    obtain ⟨rfl, _, rfl⟩ := hx
    refine ⟨g, rfl, hS g rfl, fun t ht => ?_⟩
    have hlen : t < (tmC (mkM m)).length := by rw [tmW]; exact ht
    rw [List.getElem?_eq_getElem hlen]
    refine own_cell h rfl ?_
    rw [marks_get m n _ (by omega)]
    have : (j * 5 + t) % 5 = t := by omega
    rw [this, List.getElem?_eq_getElem hlen]

/-- What the law has made: its own rows. -/
structure LawC (w : World) (SL : Nat → Prop) (q : Nat) (vW : Value) (ws : List (Nat × Nat)) (vTx : Value) (tx : List Value) (vNu : Value) (nu : List Value) (vM0 : Value) (m0 : List Int) (vM1 : Value) (m1 : List Int) (vMs : Value) (mz : List Value) (vM2 : Value) (m2 : List Int) : Prop where
  lt : ∀ b, SL b → b < w.heap.size
  self : w.heap[q]? = some (.cells #[vW, vTx, vNu, vMs, vM0, vM1, vM2] 75 (0, 0))
  rW : w.ownsRow 0 128 2 vW ws.length (ws.flatMap pairC)
  rTx : w.ownsRow 0 53 1 vTx tx.length tx
  rNu : w.ownsRow 0 44 1 vNu nu.length nu
  rM0 : IntR w vM0 m0
  rM1 : IntR w vM1 m1
  rMs : w.ownsRow 0 34 1 vMs mz.length mz
  rM2 : IntR w vM2 m2
  sq : SL q
  sW : InS SL vW
  sTx : InS SL vTx
  sNu : InS SL vNu
  sM0 : InS SL vM0
  sM1 : InS SL vM1
  sMs : InS SL vMs
  sM2 : InS SL vM2
  d01 : ∀ g, vM0.ownBlock = some g → vM1.ownBlock = some g → False
  d02 : ∀ g, vM0.ownBlock = some g → vM2.ownBlock = some g → False
  d12 : ∀ g, vM1.ownBlock = some g → vM2.ownBlock = some g → False

/-- And the lists that came out. -/
structure LawR (w : World) (SL ST : Nat → Prop) (q : Nat) (vW : Value) (ws : List (Nat × Nat)) (vTx : Value) (tx : List Value) (vNu : Value) (nu : List Value) (vM0 : Value) (m0 : List Nat) (vM1 : Value) (m1 : List Int) (vMs : Value) (mz : List Value) (vM2 : Value) (m2 : List Int) : Prop extends LawC w SL q vW ws vTx tx vNu nu vM0 (m0.map fun (n : Nat) => (n : Int)) vM1 m1 vMs mz vM2 m2 where
  ltT : ∀ b, ST b → b < w.heap.size
  apart : ∀ b, SL b → ST b → False
  len0 : tx.length = m0.length
  len1 : nu.length = m1.length
  len2 : mz.length = m2.length
  txt : ∀ (i : Nat) (v : Value) (m : Nat), tx[i]? = some v → m0[i]? = some m → AllIs w ST v (strV (markT m))
  num : ∀ (i : Nat) (v : Value) (m : Int), nu[i]? = some v → m1[i]? = some m → AllIs w ST v (.int .i64 m)
  msg : ∀ (i : Nat) (v : Value) (m : Int), mz[i]? = some v → m2[i]? = some m → AllMs w ST v m

theorem AllIs.kp {w w' : World} {ST S' : Nat → Prop} {B : Nat} {v u : Value} (h : AllIs w ST v u) (k : Kp B S' w w') (o : Off ST B S') : AllIs w' ST v u := by
  obtain ⟨oo, n, c, rfl, hn, hk⟩ := h
  refine ⟨oo, n, c, rfl, hn, fun j hj => ?_⟩
  obtain ⟨g, rfl, hg, hc⟩ := hk j hj
  exact ⟨g, rfl, hg, (k.cell (p := ⟨g, j, none⟩) (o g hg).1 (o g hg).2).trans hc⟩
theorem AllIs.mono {w : World} {ST ST' : Nat → Prop} {v u : Value} (h : AllIs w ST v u) (hS : ∀ b, ST b → ST' b) : AllIs w ST' v u := by
  obtain ⟨oo, n, c, rfl, hn, hk⟩ := h
  refine ⟨oo, n, c, rfl, hn, fun j hj => ?_⟩
  obtain ⟨g, rfl, hg, hc⟩ := hk j hj
  exact ⟨g, rfl, hS g hg, hc⟩
theorem AllIs.over {w w' : World} {ST : Nat → Prop} {v u : Value} {news : List Value} (h : AllIs w ST v u) (ho : Over w w' news) (hn : ∀ x ∈ news, x = u) : AllIs w' ST v u := by
  obtain ⟨oo, n, c, rfl, hle, hk⟩ := h
  refine ⟨oo, n, c, rfl, hle, fun j hj => ?_⟩
  obtain ⟨g, rfl, hg, hc⟩ := hk j hj
  refine ⟨g, rfl, hg, ?_⟩
  rcases ho g j u hc with h | ⟨x, hx, h⟩
  · exact h
  · rw [h, hn x hx]
theorem AllIs.of {w : World} {ST : Nat → Prop} {v u : Value} {e n : Nat} {xs : List Value} (h : w.ownsRow 0 e 1 v n xs) (hx : ∀ x ∈ xs, x = u) (hS : ∀ g, v.ownBlock = some g → ST g) (hn : n ≤ 1000000000) : AllIs w ST v u := by
  obtain ⟨o, c, rfl, _, _⟩ := own_form h
  refine ⟨o, n, c, rfl, hn, fun j hj => ?_⟩
  have hl : j < xs.length := by have := h.1; omega
  obtain ⟨g, rfl, _, hc, _⟩ := own1_at h (List.getElem?_eq_getElem hl)
  exact ⟨g, rfl, hS g rfl, by rw [hc, hx _ (List.getElem_mem hl)]⟩

theorem LawC.kp {w w' : World} {SL S' : Nat → Prop} {B q : Nat} {vW vTx vNu vM0 vM1 vMs vM2 : Value} {ws : List (Nat × Nat)} {tx nu mz : List Value} {m0 m1 m2 : List Int} (h : LawC w SL q vW ws vTx tx vNu nu vM0 m0 vM1 m1 vMs mz vM2 m2)
    (k : Kp B S' w w') (o1 : Off SL B S') : LawC w' SL q vW ws vTx tx vNu nu vM0 m0 vM1 m1 vMs mz vM2 m2 :=
  ⟨fun b hb => Nat.lt_of_lt_of_le (h.lt b hb) k.size, (k.block q (o1 q h.sq).1 (o1 q h.sq).2).trans h.self, own_off h.rW h.sW k o1, own_off h.rTx h.sTx k o1, own_off h.rNu h.sNu k o1, own_off h.rM0 h.sM0 k o1, own_off h.rM1 h.sM1 k o1, own_off h.rMs h.sMs k o1, own_off h.rM2 h.sM2 k o1, h.sq, h.sW, h.sTx, h.sNu, h.sM0, h.sM1, h.sMs, h.sM2, h.d01, h.d02, h.d12⟩
theorem LawR.kp {w w' : World} {SL ST S' : Nat → Prop} {B q : Nat} {vW vTx vNu vM0 vM1 vMs vM2 : Value} {ws : List (Nat × Nat)} {tx nu mz : List Value} {m0 : List Nat} {m1 m2 : List Int} (h : LawR w SL ST q vW ws vTx tx vNu nu vM0 m0 vM1 m1 vMs mz vM2 m2)
    (k : Kp B S' w w') (o1 : Off SL B S') (o2 : Off ST B S') : LawR w' SL ST q vW ws vTx tx vNu nu vM0 m0 vM1 m1 vMs mz vM2 m2 :=
  ⟨h.toLawC.kp k o1, fun b hb => Nat.lt_of_lt_of_le (h.ltT b hb) k.size, h.apart, h.len0, h.len1, h.len2, fun i v m a b => (h.txt i v m a b).kp k o2, fun i v m a b => (h.num i v m a b).kp k o2, fun i v m a b => (h.msg i v m a b).kp k o2⟩
theorem LawR.below {w w' : World} {SL ST : Nat → Prop} {q : Nat} {vW vTx vNu vM0 vM1 vMs vM2 : Value} {ws : List (Nat × Nat)} {tx nu mz : List Value} {m0 : List Nat} {m1 m2 : List Int} (h : LawR w SL ST q vW ws vTx tx vNu nu vM0 m0 vM1 m1 vMs mz vM2 m2) (k : Below w.heap.size w w') : LawR w' SL ST q vW ws vTx tx vNu nu vM0 m0 vM1 m1 vMs mz vM2 m2 :=
  h.kp (Kp.ofBelow k) (Off.none h.lt) (Off.none h.ltT)

set_option maxHeartbeats 2000000 in
set_option maxRecDepth 100000 in
theorem looks_any (w : World) (SL ST : Nat → Prop) (q : Nat) (vW : Value) (ws : List (Nat × Nat)) (vTx : Value) (tx : List Value) (vNu : Value) (nu : List Value) (vM0 : Value) (m0 : List Nat) (vM1 : Value) (m1 : List Int) (vMs : Value) (mz : List Value) (vM2 : Value) (m2 : List Int) (h : LawR w SL ST q vW ws vTx tx vNu nu vM0 m0 vM1 m1 vMs mz vM2 m2)
    (ht : tx.length ≤ 1000000000) (hn : nu.length ≤ 1000000000) (hz : mz.length ≤ 1000000000) (hm : ∀ m ∈ m0, m ≤ 1000000000000) :
    Calls Tryz.prog 41 #[ptr q] w fun e w' => e = .returned (.bool true) ∧ Below w.heap.size w w' := by
  obtain ⟨oTx, cTx, rfl, _, _⟩ := own_form h.rTx
  obtain ⟨oNu, cNu, rfl, _, _⟩ := own_form h.rNu
  obtain ⟨o0, c0, rfl, _, _⟩ := h.rM0.form
  obtain ⟨o1, c1, rfl, _, _⟩ := h.rM1.form
  obtain ⟨oMs, cMs, rfl, _, _⟩ := own_form h.rMs
  obtain ⟨o2, c2, rfl, _, _⟩ := h.rM2.form
  have hqlt := lt_of_heap h.self
  have Hm := hide hm
  clear hm
  have hl0 : (m0.map fun (n : Nat) => (n : Int)).length = tx.length := by rw [List.length_map]; exact h.len0.symm
  have hl1 : m1.length = nu.length := h.len1.symm
  have hl2 : m2.length = mz.length := h.len2.symm
  rw [hl0, hl1, hl2] at h
  have Hl2 := hide hl2
  clear hl2
  have Hl0 := hide hl0
  have Hl1 := hide hl1
  clear hl0 hl1
  obtain ⟨e1, _⟩ := row_facts h.self
  go_enter Tryz.func41, Tryz.ntmps41
  go_wp2_with fail
  go_loopw [3] (fun j wr => ∃ k : Nat, k ≤ tx.length ∧ j = .int .i64 k ∧ Below w.heap.size w wr) (fun j _ => tx.length - (intOf j).toNat)
  case atStart => exact ⟨0, Nat.zero_le _, rfl, Below.refl _ _⟩
  case round =>
    obtain ⟨k, hk, rfl, hb⟩ := hrel
    have hcl : ∀ b j, b < w.heap.size → wr.cell? ⟨b, j, none⟩ = w.cell? ⟨b, j, none⟩ := fun b j hbb => hb.cell (p := ⟨b, j, none⟩) hbb
    by_cases hlt : k < tx.length
    · obtain ⟨v, hv⟩ := get_some hlt
      obtain ⟨m, hmm⟩ := get_some (l := m0) (k := k) (by rw [← h.len0]; exact hlt)
      have hA := h.txt k v m hv hmm
      obtain ⟨gT, rfl, hgT, cT, _⟩ := own1_at h.rTx hv
      obtain ⟨g0, rfl, hg0, cM, _⟩ := own1_at (xs := (m0.map fun (n : Nat) => (n : Int)).map fun n => .int .i64 n) (n := tx.length) (by have := h.rM0; unfold IntR at this; rw [Hl0.out] at this; exact this) (k := k) (u := .int .i64 (m : Int)) (by simp [hmm])
      have hmle := Hm.out m (List.mem_of_getElem? hmm)
      obtain ⟨ol, nl, cl, rfl, hnl, hall⟩ := hA
      have HAll := hide hall
      clear hall hv hmm
      go_wp2_with fail
      refine (mark_any m wr hmle).mono ?_
      rintro e w1 ⟨rfl, hb1⟩
      have hb2 : Below w.heap.size w w1 := hb.trans (hb1.mono hb.size)
      generalize markT m = X at *
      clear hcl hb hb1
      have hcl : ∀ b j, b < w.heap.size → w1.cell? ⟨b, j, none⟩ = w.cell? ⟨b, j, none⟩ := fun b j hbb => hb2.cell (p := ⟨b, j, none⟩) hbb
      go_wp2_with fail
      go_loopw [5] (fun j wr => ∃ k : Nat, k ≤ nl ∧ j = .int .i64 k ∧ Below w.heap.size w wr) (fun j _ => nl - (intOf j).toNat)
      case atStart => exact ⟨0, Nat.zero_le _, rfl, hb2⟩
      case round =>
        obtain ⟨i, hi, rfl, hb⟩ := hrel
        have hcl : ∀ b j, b < w.heap.size → wr.cell? ⟨b, j, none⟩ = w.cell? ⟨b, j, none⟩ := fun b j hbb => hb.cell (p := ⟨b, j, none⟩) hbb
        by_cases hli : i < nl
        · obtain ⟨g, rfl, hg, cE⟩ := HAll.out i hli
          have hglt := h.ltT g hg
          go_wp2_with fail
          exact ⟨⟨i + 1, by omega, by go_num, ⟨hb.os, hb.tape, hb.output, hb.size, hb.block⟩⟩, by simp [intOf]; omega⟩
        · go_wp2_with fail
          exact ⟨⟨k + 1, by omega, by go_num, ⟨hb.os, hb.tape, hb.output, hb.size, hb.block⟩⟩, by simp [intOf]; omega⟩
    · go_wp2_with fail
      go_loopw [6] (fun j wr => ∃ k : Nat, k ≤ nu.length ∧ j = .int .i64 k ∧ Below w.heap.size w wr) (fun j _ => nu.length - (intOf j).toNat)
      case atStart => exact ⟨0, Nat.zero_le _, rfl, hb⟩
      case round =>
        clear hcl hb
        obtain ⟨k2, hk2, rfl, hb⟩ := hrel
        have hcl : ∀ b j, b < w.heap.size → wr.cell? ⟨b, j, none⟩ = w.cell? ⟨b, j, none⟩ := fun b j hbb => hb.cell (p := ⟨b, j, none⟩) hbb
        by_cases hlt : k2 < nu.length
        · obtain ⟨v, hv⟩ := get_some hlt
          obtain ⟨m, hmm⟩ := get_some (l := m1) (k := k2) (by rw [← h.len1]; exact hlt)
          have hA := h.num k2 v m hv hmm
          obtain ⟨gT, rfl, hgT, cT, _⟩ := own1_at h.rNu hv
          obtain ⟨g0, rfl, hg0, cM, _⟩ := own1_at (xs := m1.map fun n => .int .i64 n) (n := nu.length) (by have := h.rM1; unfold IntR at this; rw [Hl1.out] at this; exact this) (k := k2) (u := .int .i64 m) (by simp [hmm])
          obtain ⟨ol, nl, cl, rfl, hnl, hall⟩ := hA
          have HAll := hide hall
          clear hall hv hmm
          go_wp2_with fail
          go_loopw [7] (fun j wr => ∃ k : Nat, k ≤ nl ∧ j = .int .i64 k ∧ Below w.heap.size w wr) (fun j _ => nl - (intOf j).toNat)
          case atStart => exact ⟨0, Nat.zero_le _, rfl, hb⟩
          case round =>
            clear hcl hb
            obtain ⟨i, hi, rfl, hb⟩ := hrel
            have hcl : ∀ b j, b < w.heap.size → wr.cell? ⟨b, j, none⟩ = w.cell? ⟨b, j, none⟩ := fun b j hbb => hb.cell (p := ⟨b, j, none⟩) hbb
            by_cases hli : i < nl
            · obtain ⟨g, rfl, hg, cE⟩ := HAll.out i hli
              have hglt := h.ltT g hg
              go_wp2_with fail
              go_quiet (fail)
              go_wp2_with fail
              exact ⟨⟨i + 1, by omega, by go_num, ⟨hb.os, hb.tape, hb.output, hb.size, hb.block⟩⟩, by simp [intOf]; omega⟩
            · go_wp2_with fail
              exact ⟨⟨k2 + 1, by omega, by go_num, ⟨hb.os, hb.tape, hb.output, hb.size, hb.block⟩⟩, by simp [intOf]; omega⟩
        · go_wp2_with fail
          go_loopw [8] (fun j wr => ∃ k : Nat, k ≤ mz.length ∧ j = .int .i64 k ∧ Below w.heap.size w wr) (fun j _ => mz.length - (intOf j).toNat)
          case atStart => exact ⟨0, Nat.zero_le _, rfl, hb⟩
          case round =>
            clear hcl hb
            obtain ⟨k3, hk3, rfl, hb⟩ := hrel
            have hcl : ∀ b j, b < w.heap.size → wr.cell? ⟨b, j, none⟩ = w.cell? ⟨b, j, none⟩ := fun b j hbb => hb.cell (p := ⟨b, j, none⟩) hbb
            by_cases hlt : k3 < mz.length
            · obtain ⟨v, hv⟩ := get_some hlt
              obtain ⟨m, hmm⟩ := get_some (l := m2) (k := k3) (by rw [← h.len2]; exact hlt)
              have hA := h.msg k3 v m hv hmm
              obtain ⟨gT, rfl, hgT, cT, _⟩ := own1_at h.rMs hv
              obtain ⟨g0, rfl, hg0, cM, _⟩ := own1_at (xs := m2.map fun n => .int .i64 n) (n := mz.length) (by have := h.rM2; unfold IntR at this; rw [Hl2.out] at this; exact this) (k := k3) (u := .int .i64 m) (by simp [hmm])
              obtain ⟨ol, nl, cl, rfl, hnl, hall⟩ := hA
              have HAll := hide hall
              clear hall hv hmm
              go_wp2_with fail
              go_loopw [10] (fun j wr => ∃ k : Nat, k ≤ nl ∧ j = .int .i64 k ∧ Below w.heap.size w wr) (fun j _ => nl - (intOf j).toNat)
              case atStart => exact ⟨0, Nat.zero_le _, rfl, hb⟩
              case round =>
                clear hcl hb
                obtain ⟨i, hi, rfl, hb⟩ := hrel
                have hcl : ∀ b j, b < w.heap.size → wr.cell? ⟨b, j, none⟩ = w.cell? ⟨b, j, none⟩ := fun b j hbb => hb.cell (p := ⟨b, j, none⟩) hbb
                by_cases hli : i < nl
                · obtain ⟨g, rfl, hg, cE⟩ := HAll.out i hli
                  have hglt := h.ltT g hg
                  have z0 := cE 0 (by decide)
                  have z1 := cE 1 (by decide)
                  have z2 := cE 2 (by decide)
                  have z3 := cE 3 (by decide)
                  have z4 := cE 4 (by decide)
                  simp only [tmC, mkM, List.getElem?_cons_zero, List.getElem?_cons_succ, Nat.add_zero] at z0 z1 z2 z3 z4
                  clear cE
                  go_wp2_with fail
                  exact ⟨⟨i + 1, by omega, by go_num, ⟨hb.os, hb.tape, hb.output, hb.size, hb.block⟩⟩, by simp [intOf]; omega⟩
                · go_wp2_with fail
                  exact ⟨⟨k3 + 1, by omega, by go_num, ⟨hb.os, hb.tape, hb.output, hb.size, hb.block⟩⟩, by simp [intOf]; omega⟩
            · go_wp2_with fail
              go_ret
              exact ⟨rfl, hb⟩
end Go.Proofs.YtnniimfinakioaaGreatDoor
namespace Go.Proofs.YtnniimfinakioaaGreatDoor
open Go.RowKit
attribute [local go_sem ↓] eqTok eqEnt
attribute [local go_sem] toList_nm app_nm size_nm

theorem eTexts : ElemT Tryz.prog 70 53 1 24 := ElemT.mk' (z := .slice none 0 0) (by kernel_rfl) (by kernel_rfl) rfl (by decide)
theorem eMessages : ElemT Tryz.prog 72 34 1 24 := ElemT.mk' (z := .slice none 0 0) (by kernel_rfl) (by kernel_rfl) rfl (by decide)
theorem eNumbers : ElemT Tryz.prog 71 44 1 24 := ElemT.mk' (z := .slice none 0 0) (by kernel_rfl) (by kernel_rfl) rfl (by decide)


section
variable {w wa w1 : World} {SL : Nat → Prop} {q : Nat} {vW vTx vNu vM0 vM1 vMs vM2 v' : Value} {ws : List (Nat × Nat)} {tx nu mz : List Value} {m0 m1 m2 : List Int}
theorem LawC.putTx {tx' : List Value} (h : LawC w SL q vW ws vTx tx vNu nu vM0 m0 vM1 m1 vMs mz vM2 m2) (ha : Below w.heap.size w wa) (hg : wa.grownBy w1 vTx.ownBlock)
    (hv : w1.ownsRow 0 53 1 v' tx'.length tx') (hat : v'.ownBlock = vTx.ownBlock ∨ v'.ownBlock = some wa.heap.size) :
    LawC (w1.setCell ⟨q, 1, none⟩ v') (Ext SL w w1) q vW ws v' tx' vNu nu vM0 m0 vM1 m1 vMs mz vM2 m2 ∧ Kp w.heap.size SL w (w1.setCell ⟨q, 1, none⟩ v') := by
  have r0 := own_below h.rTx ha
  have k1 := Kp.ofGrown hg
  have hT := OfT.own r0
  have hq0 : wa.heap[q]? = _ := (ha.block q (lt_of_heap h.self)).trans h.self
  have hq1 : w1.heap[q]? = _ := (k1.block q (lt_of_heap hq0) (own_ne r0 hq0 (by decide))).trans hq0
  have hK : ∀ {e size n : Nat} {v : Value} {xs : List Value}, w1.ownsRow 0 e size v n xs → e ≠ 75 → (w1.setCell ⟨q, 1, none⟩ v').ownsRow 0 e size v n xs := fun hr hne =>
    own_kpE hr (Kp.set1 w1 q 1 v') (Nat.le_refl _) (fun b hb => ⟨_, _, hb ▸ hq1⟩) hne
  have hE : ∀ {e size n : Nat} {v : Value} {xs : List Value}, w.ownsRow 0 e size v n xs → e ≠ 53 → e ≠ 75 → (w1.setCell ⟨q, 1, none⟩ v').ownsRow 0 e size v n xs := fun hr h1 h2 =>
    hK (own_kpE (own_below hr ha) k1 (Nat.le_refl _) hT h1) h2
  have hD : ∀ {e size n : Nat} {v : Value} {xs : List Value}, w.ownsRow 0 e size v n xs → (∀ g, v.ownBlock = some g → vTx.ownBlock = some g → False) → e ≠ 75 → (w1.setCell ⟨q, 1, none⟩ v').ownsRow 0 e size v n xs := fun hr hd h2 =>
    hK (own_kp (own_below hr ha) k1 (fun g hgb => ⟨(World.ownsRow.lt (own_below hr ha) g hgb).2, fun e => hd g hgb e⟩)) h2
  have hs1 := ha.size
  have hs2 := k1.size
  have hs' : InS (Ext SL w w1) v' := fun g hgb => by
    rcases hat with e | e
    · exact Or.inl (h.sTx g (e ▸ hgb))
    · have := (World.ownsRow.lt hv g hgb).2
      rw [e] at hgb; simp only [Option.some.injEq] at hgb
      exact Or.inr ⟨by omega, this⟩
  have hnew : ∀ {e size n g : Nat} {v : Value} {xs : List Value}, w.ownsRow 0 e size v n xs → v.ownBlock = some g → (∀ g, v.ownBlock = some g → vTx.ownBlock = some g → False) → v'.ownBlock = some g → False := fun hr hgb hd hg' => by
    rcases hat with e | e
    · exact hd _ hgb (e ▸ hg')
    · have := (World.ownsRow.lt hr _ hgb).2
      rw [e] at hg'; simp only [Option.some.injEq] at hg'; omega
  have hm : ∀ {v : Value}, InS SL v → InS (Ext SL w w1) v := fun hv => hv.mono fun _ hb => Ext.of hb
  have hkp : Kp w.heap.size SL w (w1.setCell ⟨q, 1, none⟩ v') :=
    (((Kp.ofBelow (S := SL) ha).trans ((k1.mono hs1 fun b _ hb => h.sTx b hb)))).setCell (p := ⟨q, 1, none⟩) (Or.inr h.sq) v'
  have hlt : ∀ b, Ext SL w w1 b → b < (w1.setCell ⟨q, 1, none⟩ v').heap.size := fun b hb => by
    have : (w1.setCell ⟨q, 1, none⟩ v').heap.size = w1.heap.size := by simp [World.setCell]
    rcases hb with hb | hb
    · have := h.lt b hb; omega
    · omega
  exact ⟨⟨hlt, setCell_row hq1 v', hE h.rW (by decide) (by decide), hK hv (by decide), hE h.rNu (by decide) (by decide), hE h.rM0 (by decide) (by decide), hE h.rM1 (by decide) (by decide), hE h.rMs (by decide) (by decide), hE h.rM2 (by decide) (by decide), Ext.of h.sq, hm h.sW, hs', hm h.sNu, hm h.sM0, hm h.sM1, hm h.sMs, hm h.sM2, h.d01, h.d02, h.d12⟩, hkp⟩
theorem LawC.putNu {nu' : List Value} (h : LawC w SL q vW ws vTx tx vNu nu vM0 m0 vM1 m1 vMs mz vM2 m2) (ha : Below w.heap.size w wa) (hg : wa.grownBy w1 vNu.ownBlock)
    (hv : w1.ownsRow 0 44 1 v' nu'.length nu') (hat : v'.ownBlock = vNu.ownBlock ∨ v'.ownBlock = some wa.heap.size) :
    LawC (w1.setCell ⟨q, 2, none⟩ v') (Ext SL w w1) q vW ws vTx tx v' nu' vM0 m0 vM1 m1 vMs mz vM2 m2 ∧ Kp w.heap.size SL w (w1.setCell ⟨q, 2, none⟩ v') := by
  have r0 := own_below h.rNu ha
  have k1 := Kp.ofGrown hg
  have hT := OfT.own r0
  have hq0 : wa.heap[q]? = _ := (ha.block q (lt_of_heap h.self)).trans h.self
  have hq1 : w1.heap[q]? = _ := (k1.block q (lt_of_heap hq0) (own_ne r0 hq0 (by decide))).trans hq0
  have hK : ∀ {e size n : Nat} {v : Value} {xs : List Value}, w1.ownsRow 0 e size v n xs → e ≠ 75 → (w1.setCell ⟨q, 2, none⟩ v').ownsRow 0 e size v n xs := fun hr hne =>
    own_kpE hr (Kp.set1 w1 q 2 v') (Nat.le_refl _) (fun b hb => ⟨_, _, hb ▸ hq1⟩) hne
  have hE : ∀ {e size n : Nat} {v : Value} {xs : List Value}, w.ownsRow 0 e size v n xs → e ≠ 44 → e ≠ 75 → (w1.setCell ⟨q, 2, none⟩ v').ownsRow 0 e size v n xs := fun hr h1 h2 =>
    hK (own_kpE (own_below hr ha) k1 (Nat.le_refl _) hT h1) h2
  have hD : ∀ {e size n : Nat} {v : Value} {xs : List Value}, w.ownsRow 0 e size v n xs → (∀ g, v.ownBlock = some g → vNu.ownBlock = some g → False) → e ≠ 75 → (w1.setCell ⟨q, 2, none⟩ v').ownsRow 0 e size v n xs := fun hr hd h2 =>
    hK (own_kp (own_below hr ha) k1 (fun g hgb => ⟨(World.ownsRow.lt (own_below hr ha) g hgb).2, fun e => hd g hgb e⟩)) h2
  have hs1 := ha.size
  have hs2 := k1.size
  have hs' : InS (Ext SL w w1) v' := fun g hgb => by
    rcases hat with e | e
    · exact Or.inl (h.sNu g (e ▸ hgb))
    · have := (World.ownsRow.lt hv g hgb).2
      rw [e] at hgb; simp only [Option.some.injEq] at hgb
      exact Or.inr ⟨by omega, this⟩
  have hnew : ∀ {e size n g : Nat} {v : Value} {xs : List Value}, w.ownsRow 0 e size v n xs → v.ownBlock = some g → (∀ g, v.ownBlock = some g → vNu.ownBlock = some g → False) → v'.ownBlock = some g → False := fun hr hgb hd hg' => by
    rcases hat with e | e
    · exact hd _ hgb (e ▸ hg')
    · have := (World.ownsRow.lt hr _ hgb).2
      rw [e] at hg'; simp only [Option.some.injEq] at hg'; omega
  have hm : ∀ {v : Value}, InS SL v → InS (Ext SL w w1) v := fun hv => hv.mono fun _ hb => Ext.of hb
  have hkp : Kp w.heap.size SL w (w1.setCell ⟨q, 2, none⟩ v') :=
    (((Kp.ofBelow (S := SL) ha).trans ((k1.mono hs1 fun b _ hb => h.sNu b hb)))).setCell (p := ⟨q, 2, none⟩) (Or.inr h.sq) v'
  have hlt : ∀ b, Ext SL w w1 b → b < (w1.setCell ⟨q, 2, none⟩ v').heap.size := fun b hb => by
    have : (w1.setCell ⟨q, 2, none⟩ v').heap.size = w1.heap.size := by simp [World.setCell]
    rcases hb with hb | hb
    · have := h.lt b hb; omega
    · omega
  exact ⟨⟨hlt, setCell_row hq1 v', hE h.rW (by decide) (by decide), hE h.rTx (by decide) (by decide), hK hv (by decide), hE h.rM0 (by decide) (by decide), hE h.rM1 (by decide) (by decide), hE h.rMs (by decide) (by decide), hE h.rM2 (by decide) (by decide), Ext.of h.sq, hm h.sW, hm h.sTx, hs', hm h.sM0, hm h.sM1, hm h.sMs, hm h.sM2, h.d01, h.d02, h.d12⟩, hkp⟩
theorem LawC.putW {ws' : List (Nat × Nat)} (h : LawC w SL q vW ws vTx tx vNu nu vM0 m0 vM1 m1 vMs mz vM2 m2) (ha : Below w.heap.size w wa) (hg : wa.grownBy w1 vW.ownBlock)
    (hv : w1.ownsRow 0 128 2 v' ws'.length (ws'.flatMap pairC)) (hat : v'.ownBlock = vW.ownBlock ∨ v'.ownBlock = some wa.heap.size) :
    LawC (w1.setCell ⟨q, 0, none⟩ v') (Ext SL w w1) q v' ws' vTx tx vNu nu vM0 m0 vM1 m1 vMs mz vM2 m2 ∧ Kp w.heap.size SL w (w1.setCell ⟨q, 0, none⟩ v') := by
  have r0 := own_below h.rW ha
  have k1 := Kp.ofGrown hg
  have hT := OfT.own r0
  have hq0 : wa.heap[q]? = _ := (ha.block q (lt_of_heap h.self)).trans h.self
  have hq1 : w1.heap[q]? = _ := (k1.block q (lt_of_heap hq0) (own_ne r0 hq0 (by decide))).trans hq0
  have hK : ∀ {e size n : Nat} {v : Value} {xs : List Value}, w1.ownsRow 0 e size v n xs → e ≠ 75 → (w1.setCell ⟨q, 0, none⟩ v').ownsRow 0 e size v n xs := fun hr hne =>
    own_kpE hr (Kp.set1 w1 q 0 v') (Nat.le_refl _) (fun b hb => ⟨_, _, hb ▸ hq1⟩) hne
  have hE : ∀ {e size n : Nat} {v : Value} {xs : List Value}, w.ownsRow 0 e size v n xs → e ≠ 128 → e ≠ 75 → (w1.setCell ⟨q, 0, none⟩ v').ownsRow 0 e size v n xs := fun hr h1 h2 =>
    hK (own_kpE (own_below hr ha) k1 (Nat.le_refl _) hT h1) h2
  have hD : ∀ {e size n : Nat} {v : Value} {xs : List Value}, w.ownsRow 0 e size v n xs → (∀ g, v.ownBlock = some g → vW.ownBlock = some g → False) → e ≠ 75 → (w1.setCell ⟨q, 0, none⟩ v').ownsRow 0 e size v n xs := fun hr hd h2 =>
    hK (own_kp (own_below hr ha) k1 (fun g hgb => ⟨(World.ownsRow.lt (own_below hr ha) g hgb).2, fun e => hd g hgb e⟩)) h2
  have hs1 := ha.size
  have hs2 := k1.size
  have hs' : InS (Ext SL w w1) v' := fun g hgb => by
    rcases hat with e | e
    · exact Or.inl (h.sW g (e ▸ hgb))
    · have := (World.ownsRow.lt hv g hgb).2
      rw [e] at hgb; simp only [Option.some.injEq] at hgb
      exact Or.inr ⟨by omega, this⟩
  have hnew : ∀ {e size n g : Nat} {v : Value} {xs : List Value}, w.ownsRow 0 e size v n xs → v.ownBlock = some g → (∀ g, v.ownBlock = some g → vW.ownBlock = some g → False) → v'.ownBlock = some g → False := fun hr hgb hd hg' => by
    rcases hat with e | e
    · exact hd _ hgb (e ▸ hg')
    · have := (World.ownsRow.lt hr _ hgb).2
      rw [e] at hg'; simp only [Option.some.injEq] at hg'; omega
  have hm : ∀ {v : Value}, InS SL v → InS (Ext SL w w1) v := fun hv => hv.mono fun _ hb => Ext.of hb
  have hkp : Kp w.heap.size SL w (w1.setCell ⟨q, 0, none⟩ v') :=
    (((Kp.ofBelow (S := SL) ha).trans ((k1.mono hs1 fun b _ hb => h.sW b hb)))).setCell (p := ⟨q, 0, none⟩) (Or.inr h.sq) v'
  have hlt : ∀ b, Ext SL w w1 b → b < (w1.setCell ⟨q, 0, none⟩ v').heap.size := fun b hb => by
    have : (w1.setCell ⟨q, 0, none⟩ v').heap.size = w1.heap.size := by simp [World.setCell]
    rcases hb with hb | hb
    · have := h.lt b hb; omega
    · omega
  exact ⟨⟨hlt, setCell_row hq1 v', hK hv (by decide), hE h.rTx (by decide) (by decide), hE h.rNu (by decide) (by decide), hE h.rM0 (by decide) (by decide), hE h.rM1 (by decide) (by decide), hE h.rMs (by decide) (by decide), hE h.rM2 (by decide) (by decide), Ext.of h.sq, hs', hm h.sTx, hm h.sNu, hm h.sM0, hm h.sM1, hm h.sMs, hm h.sM2, h.d01, h.d02, h.d12⟩, hkp⟩
theorem LawC.putM0 {m0' : List Int} (h : LawC w SL q vW ws vTx tx vNu nu vM0 m0 vM1 m1 vMs mz vM2 m2) (ha : Below w.heap.size w wa) (hg : wa.grownBy w1 vM0.ownBlock)
    (hv : IntR w1 v' m0') (hat : v'.ownBlock = vM0.ownBlock ∨ v'.ownBlock = some wa.heap.size) :
    LawC (w1.setCell ⟨q, 4, none⟩ v') (Ext SL w w1) q vW ws vTx tx vNu nu v' m0' vM1 m1 vMs mz vM2 m2 ∧ Kp w.heap.size SL w (w1.setCell ⟨q, 4, none⟩ v') := by
  have r0 := own_below h.rM0 ha
  have k1 := Kp.ofGrown hg
  have hT := OfT.own r0
  have hq0 : wa.heap[q]? = _ := (ha.block q (lt_of_heap h.self)).trans h.self
  have hq1 : w1.heap[q]? = _ := (k1.block q (lt_of_heap hq0) (own_ne r0 hq0 (by decide))).trans hq0
  have hK : ∀ {e size n : Nat} {v : Value} {xs : List Value}, w1.ownsRow 0 e size v n xs → e ≠ 75 → (w1.setCell ⟨q, 4, none⟩ v').ownsRow 0 e size v n xs := fun hr hne =>
    own_kpE hr (Kp.set1 w1 q 4 v') (Nat.le_refl _) (fun b hb => ⟨_, _, hb ▸ hq1⟩) hne
  have hE : ∀ {e size n : Nat} {v : Value} {xs : List Value}, w.ownsRow 0 e size v n xs → e ≠ 3 → e ≠ 75 → (w1.setCell ⟨q, 4, none⟩ v').ownsRow 0 e size v n xs := fun hr h1 h2 =>
    hK (own_kpE (own_below hr ha) k1 (Nat.le_refl _) hT h1) h2
  have hD : ∀ {e size n : Nat} {v : Value} {xs : List Value}, w.ownsRow 0 e size v n xs → (∀ g, v.ownBlock = some g → vM0.ownBlock = some g → False) → e ≠ 75 → (w1.setCell ⟨q, 4, none⟩ v').ownsRow 0 e size v n xs := fun hr hd h2 =>
    hK (own_kp (own_below hr ha) k1 (fun g hgb => ⟨(World.ownsRow.lt (own_below hr ha) g hgb).2, fun e => hd g hgb e⟩)) h2
  have hs1 := ha.size
  have hs2 := k1.size
  have hs' : InS (Ext SL w w1) v' := fun g hgb => by
    rcases hat with e | e
    · exact Or.inl (h.sM0 g (e ▸ hgb))
    · have := (World.ownsRow.lt hv g hgb).2
      rw [e] at hgb; simp only [Option.some.injEq] at hgb
      exact Or.inr ⟨by omega, this⟩
  have hnew : ∀ {e size n g : Nat} {v : Value} {xs : List Value}, w.ownsRow 0 e size v n xs → v.ownBlock = some g → (∀ g, v.ownBlock = some g → vM0.ownBlock = some g → False) → v'.ownBlock = some g → False := fun hr hgb hd hg' => by
    rcases hat with e | e
    · exact hd _ hgb (e ▸ hg')
    · have := (World.ownsRow.lt hr _ hgb).2
      rw [e] at hg'; simp only [Option.some.injEq] at hg'; omega
  have hm : ∀ {v : Value}, InS SL v → InS (Ext SL w w1) v := fun hv => hv.mono fun _ hb => Ext.of hb
  have hkp : Kp w.heap.size SL w (w1.setCell ⟨q, 4, none⟩ v') :=
    (((Kp.ofBelow (S := SL) ha).trans ((k1.mono hs1 fun b _ hb => h.sM0 b hb)))).setCell (p := ⟨q, 4, none⟩) (Or.inr h.sq) v'
  have hlt : ∀ b, Ext SL w w1 b → b < (w1.setCell ⟨q, 4, none⟩ v').heap.size := fun b hb => by
    have : (w1.setCell ⟨q, 4, none⟩ v').heap.size = w1.heap.size := by simp [World.setCell]
    rcases hb with hb | hb
    · have := h.lt b hb; omega
    · omega
  exact ⟨⟨hlt, setCell_row hq1 v', hE h.rW (by decide) (by decide), hE h.rTx (by decide) (by decide), hE h.rNu (by decide) (by decide), hK hv (by decide), hD h.rM1 (fun g a b => h.d01 g b a) (by decide), hE h.rMs (by decide) (by decide), hD h.rM2 (fun g a b => h.d02 g b a) (by decide), Ext.of h.sq, hm h.sW, hm h.sTx, hm h.sNu, hs', hm h.sM1, hm h.sMs, hm h.sM2, fun g a b => hnew h.rM1 b (fun g a b => h.d01 g b a) a, fun g a b => hnew h.rM2 b (fun g a b => h.d02 g b a) a, h.d12⟩, hkp⟩
theorem LawC.putM1 {m1' : List Int} (h : LawC w SL q vW ws vTx tx vNu nu vM0 m0 vM1 m1 vMs mz vM2 m2) (ha : Below w.heap.size w wa) (hg : wa.grownBy w1 vM1.ownBlock)
    (hv : IntR w1 v' m1') (hat : v'.ownBlock = vM1.ownBlock ∨ v'.ownBlock = some wa.heap.size) :
    LawC (w1.setCell ⟨q, 5, none⟩ v') (Ext SL w w1) q vW ws vTx tx vNu nu vM0 m0 v' m1' vMs mz vM2 m2 ∧ Kp w.heap.size SL w (w1.setCell ⟨q, 5, none⟩ v') := by
  have r0 := own_below h.rM1 ha
  have k1 := Kp.ofGrown hg
  have hT := OfT.own r0
  have hq0 : wa.heap[q]? = _ := (ha.block q (lt_of_heap h.self)).trans h.self
  have hq1 : w1.heap[q]? = _ := (k1.block q (lt_of_heap hq0) (own_ne r0 hq0 (by decide))).trans hq0
  have hK : ∀ {e size n : Nat} {v : Value} {xs : List Value}, w1.ownsRow 0 e size v n xs → e ≠ 75 → (w1.setCell ⟨q, 5, none⟩ v').ownsRow 0 e size v n xs := fun hr hne =>
    own_kpE hr (Kp.set1 w1 q 5 v') (Nat.le_refl _) (fun b hb => ⟨_, _, hb ▸ hq1⟩) hne
  have hE : ∀ {e size n : Nat} {v : Value} {xs : List Value}, w.ownsRow 0 e size v n xs → e ≠ 3 → e ≠ 75 → (w1.setCell ⟨q, 5, none⟩ v').ownsRow 0 e size v n xs := fun hr h1 h2 =>
    hK (own_kpE (own_below hr ha) k1 (Nat.le_refl _) hT h1) h2
  have hD : ∀ {e size n : Nat} {v : Value} {xs : List Value}, w.ownsRow 0 e size v n xs → (∀ g, v.ownBlock = some g → vM1.ownBlock = some g → False) → e ≠ 75 → (w1.setCell ⟨q, 5, none⟩ v').ownsRow 0 e size v n xs := fun hr hd h2 =>
    hK (own_kp (own_below hr ha) k1 (fun g hgb => ⟨(World.ownsRow.lt (own_below hr ha) g hgb).2, fun e => hd g hgb e⟩)) h2
  have hs1 := ha.size
  have hs2 := k1.size
  have hs' : InS (Ext SL w w1) v' := fun g hgb => by
    rcases hat with e | e
    · exact Or.inl (h.sM1 g (e ▸ hgb))
    · have := (World.ownsRow.lt hv g hgb).2
      rw [e] at hgb; simp only [Option.some.injEq] at hgb
      exact Or.inr ⟨by omega, this⟩
  have hnew : ∀ {e size n g : Nat} {v : Value} {xs : List Value}, w.ownsRow 0 e size v n xs → v.ownBlock = some g → (∀ g, v.ownBlock = some g → vM1.ownBlock = some g → False) → v'.ownBlock = some g → False := fun hr hgb hd hg' => by
    rcases hat with e | e
    · exact hd _ hgb (e ▸ hg')
    · have := (World.ownsRow.lt hr _ hgb).2
      rw [e] at hg'; simp only [Option.some.injEq] at hg'; omega
  have hm : ∀ {v : Value}, InS SL v → InS (Ext SL w w1) v := fun hv => hv.mono fun _ hb => Ext.of hb
  have hkp : Kp w.heap.size SL w (w1.setCell ⟨q, 5, none⟩ v') :=
    (((Kp.ofBelow (S := SL) ha).trans ((k1.mono hs1 fun b _ hb => h.sM1 b hb)))).setCell (p := ⟨q, 5, none⟩) (Or.inr h.sq) v'
  have hlt : ∀ b, Ext SL w w1 b → b < (w1.setCell ⟨q, 5, none⟩ v').heap.size := fun b hb => by
    have : (w1.setCell ⟨q, 5, none⟩ v').heap.size = w1.heap.size := by simp [World.setCell]
    rcases hb with hb | hb
    · have := h.lt b hb; omega
    · omega
  exact ⟨⟨hlt, setCell_row hq1 v', hE h.rW (by decide) (by decide), hE h.rTx (by decide) (by decide), hE h.rNu (by decide) (by decide), hD h.rM0 (fun g a b => h.d01 g a b) (by decide), hK hv (by decide), hE h.rMs (by decide) (by decide), hD h.rM2 (fun g a b => h.d12 g b a) (by decide), Ext.of h.sq, hm h.sW, hm h.sTx, hm h.sNu, hm h.sM0, hs', hm h.sMs, hm h.sM2, fun g a b => hnew h.rM0 a (fun g a b => h.d01 g a b) b, h.d02, fun g a b => hnew h.rM2 b (fun g a b => h.d12 g b a) a⟩, hkp⟩
theorem LawC.putMs {mz' : List Value} (h : LawC w SL q vW ws vTx tx vNu nu vM0 m0 vM1 m1 vMs mz vM2 m2) (ha : Below w.heap.size w wa) (hg : wa.grownBy w1 vMs.ownBlock)
    (hv : w1.ownsRow 0 34 1 v' mz'.length mz') (hat : v'.ownBlock = vMs.ownBlock ∨ v'.ownBlock = some wa.heap.size) :
    LawC (w1.setCell ⟨q, 3, none⟩ v') (Ext SL w w1) q vW ws vTx tx vNu nu vM0 m0 vM1 m1 v' mz' vM2 m2 ∧ Kp w.heap.size SL w (w1.setCell ⟨q, 3, none⟩ v') := by
  have r0 := own_below h.rMs ha
  have k1 := Kp.ofGrown hg
  have hT := OfT.own r0
  have hq0 : wa.heap[q]? = _ := (ha.block q (lt_of_heap h.self)).trans h.self
  have hq1 : w1.heap[q]? = _ := (k1.block q (lt_of_heap hq0) (own_ne r0 hq0 (by decide))).trans hq0
  have hK : ∀ {e size n : Nat} {v : Value} {xs : List Value}, w1.ownsRow 0 e size v n xs → e ≠ 75 → (w1.setCell ⟨q, 3, none⟩ v').ownsRow 0 e size v n xs := fun hr hne =>
    own_kpE hr (Kp.set1 w1 q 3 v') (Nat.le_refl _) (fun b hb => ⟨_, _, hb ▸ hq1⟩) hne
  have hE : ∀ {e size n : Nat} {v : Value} {xs : List Value}, w.ownsRow 0 e size v n xs → e ≠ 34 → e ≠ 75 → (w1.setCell ⟨q, 3, none⟩ v').ownsRow 0 e size v n xs := fun hr h1 h2 =>
    hK (own_kpE (own_below hr ha) k1 (Nat.le_refl _) hT h1) h2
  have hD : ∀ {e size n : Nat} {v : Value} {xs : List Value}, w.ownsRow 0 e size v n xs → (∀ g, v.ownBlock = some g → vMs.ownBlock = some g → False) → e ≠ 75 → (w1.setCell ⟨q, 3, none⟩ v').ownsRow 0 e size v n xs := fun hr hd h2 =>
    hK (own_kp (own_below hr ha) k1 (fun g hgb => ⟨(World.ownsRow.lt (own_below hr ha) g hgb).2, fun e => hd g hgb e⟩)) h2
  have hs1 := ha.size
  have hs2 := k1.size
  have hs' : InS (Ext SL w w1) v' := fun g hgb => by
    rcases hat with e | e
    · exact Or.inl (h.sMs g (e ▸ hgb))
    · have := (World.ownsRow.lt hv g hgb).2
      rw [e] at hgb; simp only [Option.some.injEq] at hgb
      exact Or.inr ⟨by omega, this⟩
  have hnew : ∀ {e size n g : Nat} {v : Value} {xs : List Value}, w.ownsRow 0 e size v n xs → v.ownBlock = some g → (∀ g, v.ownBlock = some g → vMs.ownBlock = some g → False) → v'.ownBlock = some g → False := fun hr hgb hd hg' => by
    rcases hat with e | e
    · exact hd _ hgb (e ▸ hg')
    · have := (World.ownsRow.lt hr _ hgb).2
      rw [e] at hg'; simp only [Option.some.injEq] at hg'; omega
  have hm : ∀ {v : Value}, InS SL v → InS (Ext SL w w1) v := fun hv => hv.mono fun _ hb => Ext.of hb
  have hkp : Kp w.heap.size SL w (w1.setCell ⟨q, 3, none⟩ v') :=
    (((Kp.ofBelow (S := SL) ha).trans ((k1.mono hs1 fun b _ hb => h.sMs b hb)))).setCell (p := ⟨q, 3, none⟩) (Or.inr h.sq) v'
  have hlt : ∀ b, Ext SL w w1 b → b < (w1.setCell ⟨q, 3, none⟩ v').heap.size := fun b hb => by
    have : (w1.setCell ⟨q, 3, none⟩ v').heap.size = w1.heap.size := by simp [World.setCell]
    rcases hb with hb | hb
    · have := h.lt b hb; omega
    · omega
  exact ⟨⟨hlt, setCell_row hq1 v', hE h.rW (by decide) (by decide), hE h.rTx (by decide) (by decide), hE h.rNu (by decide) (by decide), hE h.rM0 (by decide) (by decide), hE h.rM1 (by decide) (by decide), hK hv (by decide), hE h.rM2 (by decide) (by decide), Ext.of h.sq, hm h.sW, hm h.sTx, hm h.sNu, hm h.sM0, hm h.sM1, hs', hm h.sM2, h.d01, h.d02, h.d12⟩, hkp⟩
theorem LawC.putM2 {m2' : List Int} (h : LawC w SL q vW ws vTx tx vNu nu vM0 m0 vM1 m1 vMs mz vM2 m2) (ha : Below w.heap.size w wa) (hg : wa.grownBy w1 vM2.ownBlock)
    (hv : IntR w1 v' m2') (hat : v'.ownBlock = vM2.ownBlock ∨ v'.ownBlock = some wa.heap.size) :
    LawC (w1.setCell ⟨q, 6, none⟩ v') (Ext SL w w1) q vW ws vTx tx vNu nu vM0 m0 vM1 m1 vMs mz v' m2' ∧ Kp w.heap.size SL w (w1.setCell ⟨q, 6, none⟩ v') := by
  have r0 := own_below h.rM2 ha
  have k1 := Kp.ofGrown hg
  have hT := OfT.own r0
  have hq0 : wa.heap[q]? = _ := (ha.block q (lt_of_heap h.self)).trans h.self
  have hq1 : w1.heap[q]? = _ := (k1.block q (lt_of_heap hq0) (own_ne r0 hq0 (by decide))).trans hq0
  have hK : ∀ {e size n : Nat} {v : Value} {xs : List Value}, w1.ownsRow 0 e size v n xs → e ≠ 75 → (w1.setCell ⟨q, 6, none⟩ v').ownsRow 0 e size v n xs := fun hr hne =>
    own_kpE hr (Kp.set1 w1 q 6 v') (Nat.le_refl _) (fun b hb => ⟨_, _, hb ▸ hq1⟩) hne
  have hE : ∀ {e size n : Nat} {v : Value} {xs : List Value}, w.ownsRow 0 e size v n xs → e ≠ 3 → e ≠ 75 → (w1.setCell ⟨q, 6, none⟩ v').ownsRow 0 e size v n xs := fun hr h1 h2 =>
    hK (own_kpE (own_below hr ha) k1 (Nat.le_refl _) hT h1) h2
  have hD : ∀ {e size n : Nat} {v : Value} {xs : List Value}, w.ownsRow 0 e size v n xs → (∀ g, v.ownBlock = some g → vM2.ownBlock = some g → False) → e ≠ 75 → (w1.setCell ⟨q, 6, none⟩ v').ownsRow 0 e size v n xs := fun hr hd h2 =>
    hK (own_kp (own_below hr ha) k1 (fun g hgb => ⟨(World.ownsRow.lt (own_below hr ha) g hgb).2, fun e => hd g hgb e⟩)) h2
  have hs1 := ha.size
  have hs2 := k1.size
  have hs' : InS (Ext SL w w1) v' := fun g hgb => by
    rcases hat with e | e
    · exact Or.inl (h.sM2 g (e ▸ hgb))
    · have := (World.ownsRow.lt hv g hgb).2
      rw [e] at hgb; simp only [Option.some.injEq] at hgb
      exact Or.inr ⟨by omega, this⟩
  have hnew : ∀ {e size n g : Nat} {v : Value} {xs : List Value}, w.ownsRow 0 e size v n xs → v.ownBlock = some g → (∀ g, v.ownBlock = some g → vM2.ownBlock = some g → False) → v'.ownBlock = some g → False := fun hr hgb hd hg' => by
    rcases hat with e | e
    · exact hd _ hgb (e ▸ hg')
    · have := (World.ownsRow.lt hr _ hgb).2
      rw [e] at hg'; simp only [Option.some.injEq] at hg'; omega
  have hm : ∀ {v : Value}, InS SL v → InS (Ext SL w w1) v := fun hv => hv.mono fun _ hb => Ext.of hb
  have hkp : Kp w.heap.size SL w (w1.setCell ⟨q, 6, none⟩ v') :=
    (((Kp.ofBelow (S := SL) ha).trans ((k1.mono hs1 fun b _ hb => h.sM2 b hb)))).setCell (p := ⟨q, 6, none⟩) (Or.inr h.sq) v'
  have hlt : ∀ b, Ext SL w w1 b → b < (w1.setCell ⟨q, 6, none⟩ v').heap.size := fun b hb => by
    have : (w1.setCell ⟨q, 6, none⟩ v').heap.size = w1.heap.size := by simp [World.setCell]
    rcases hb with hb | hb
    · have := h.lt b hb; omega
    · omega
  exact ⟨⟨hlt, setCell_row hq1 v', hE h.rW (by decide) (by decide), hE h.rTx (by decide) (by decide), hE h.rNu (by decide) (by decide), hD h.rM0 (fun g a b => h.d02 g a b) (by decide), hD h.rM1 (fun g a b => h.d12 g a b) (by decide), hE h.rMs (by decide) (by decide), hK hv (by decide), Ext.of h.sq, hm h.sW, hm h.sTx, hm h.sNu, hm h.sM0, hm h.sM1, hm h.sMs, hs', h.d01, fun g a b => hnew h.rM0 a (fun g a b => h.d02 g a b) b, fun g a b => hnew h.rM1 a (fun g a b => h.d12 g a b) b⟩, hkp⟩
end
end Go.Proofs.YtnniimfinakioaaGreatDoor
namespace Go.Proofs.YtnniimfinakioaaGreatDoor
open Go.RowKit
attribute [local go_sem ↓] eqTok eqEnt
attribute [local go_sem] toList_nm app_nm size_nm

theorem src_row (w : World) (cs : Array Value) (h1 : ∀ u ∈ cs.toList, u.oneCell' = true) {c n : Nat} (hn : cs.size = n) {ty : TypeId} : Src (w.alloc (.cells cs ty)) 1 (.slice (some ⟨w.heap.size, 0, none⟩) n c) n cs.toList :=
  ⟨by simpa using hn, h1, Or.inr ⟨_, _, rfl, World.news_of_block (cs := cs) (heap_alloc_new w _)⟩⟩

/-- How the law's rows and lists stand behind a list more. -/
structure Owned (w : World) (SL ST : Nat → Prop) (own : Option Nat) (SL' ST' : Nat → Prop) (w' : World) : Prop where
  sl : ∀ b, SL' b → SL b ∨ w.heap.size ≤ b
  st : ∀ b, ST' b → ST b ∨ own = some b ∨ w.heap.size ≤ b
  kp : Kp w.heap.size (fun b => SL b ∨ own = some b) w w'

/-- The lists' set behind a list more. -/
def STx (w w3 : World) (ST : Nat → Prop) (own : Option Nat) : Nat → Prop := fun b => ST b ∨ (own = some b ∨ (w.heap.size ≤ b ∧ b < w3.heap.size))

theorem own_up {w w3 w4 w5 w6 w7 : World} {SL ST : Nat → Prop} {own : Option Nat} (hlt : ∀ b, SL b → b < w.heap.size) (hltT : ∀ b, ST b → b < w.heap.size) (hap : ∀ b, SL b → ST b → False)
    (hsep : ∀ b, own = some b → ¬ SL b ∧ ¬ ST b) (hov : ∀ b, own = some b → b < w.heap.size) (kp3 : Kp w.heap.size (fun b => own = some b) w w3) (kp5 : Kp w3.heap.size SL w3 w5) (kp7 : Kp w5.heap.size (Ext SL w3 w4) w5 w7) (h5 : w5.heap.size = w4.heap.size) (_h56 : w5.heap.size ≤ w6.heap.size) :
    (∀ v u, AllIs w ST v u → AllIs w7 (STx w w3 ST own) v u) ∧ (∀ v u, AllIs w3 (fun b => own = some b ∨ (w.heap.size ≤ b ∧ b < w3.heap.size)) v u → AllIs w7 (STx w w3 ST own) v u) ∧
    (∀ b, STx w w3 ST own b → b < w7.heap.size) ∧ (∀ b, Ext (Ext SL w3 w4) w5 w6 b → STx w w3 ST own b → False) ∧ Owned w SL ST own (Ext (Ext SL w3 w4) w5 w6) (STx w w3 ST own) w7 := by
  have s3 := kp3.size
  have s5 := kp5.size
  have s7 := kp7.size
  have hin : ∀ b, STx w w3 ST own b → b < w3.heap.size ∧ ¬ SL b := by
    rintro b (hb | hb | hb)
    · exact ⟨by have := hltT b hb; omega, fun h => hap b h hb⟩
    · exact ⟨by have := hov b hb; omega, (hsep b hb).1⟩
    · exact ⟨hb.2, fun h => by have := hlt b h; omega⟩
  have hin2 : ∀ b, STx w w3 ST own b → ¬ Ext SL w3 w4 b := by
    rintro b hb (h | h)
    · exact (hin b hb).2 h
    · have := (hin b hb).1; omega
  have up3 : ∀ v u, AllIs w3 (STx w w3 ST own) v u → AllIs w7 (STx w w3 ST own) v u := fun v u h =>
    (h.kp kp5 (fun b hb => hin b hb)).kp kp7 (fun b hb => ⟨by have := (hin b hb).1; omega, hin2 b hb⟩)
  refine ⟨fun v u h => up3 v u ((h.kp kp3 (fun b hb => ⟨hltT b hb, fun e => (hsep b e).2 hb⟩)).mono fun b hb => Or.inl hb), fun v u h => up3 v u (h.mono fun b hb => Or.inr hb), fun b hb => by have := (hin b hb).1; omega, ?_, ?_, ?_, ?_⟩
  · rintro b (hb | hb) ht
    · exact hin2 b ht hb
    · have := (hin b ht).1; omega
  · rintro b ((hb | hb) | hb)
    · exact Or.inl hb
    · exact Or.inr (by omega)
    · exact Or.inr (by omega)
  · rintro b (hb | hb | hb)
    · exact Or.inl hb
    · exact Or.inr (Or.inl hb)
    · exact Or.inr (Or.inr hb.1)
  · refine ((kp3.mono (Nat.le_refl _) fun b _ h => Or.inr h).trans (kp5.mono s3 fun b _ h => Or.inl h)).trans (kp7.mono (by omega) fun b hb h => ?_)
    rcases h with h | h
    · exact Or.inl h
    · omega

theorem own_upM {w w3 w4 w5 w7 : World} {SL ST : Nat → Prop} {own : Option Nat} (hlt : ∀ b, SL b → b < w.heap.size) (hltT : ∀ b, ST b → b < w.heap.size) (hap : ∀ b, SL b → ST b → False)
    (hsep : ∀ b, own = some b → ¬ SL b ∧ ¬ ST b) (hov : ∀ b, own = some b → b < w.heap.size) (kp3 : Kp w.heap.size (fun b => own = some b) w w3) (kp5 : Kp w3.heap.size SL w3 w5) (kp7 : Kp w5.heap.size (Ext SL w3 w4) w5 w7) :
    (∀ v m, AllMs w ST v m → AllMs w7 (STx w w3 ST own) v m) ∧ (∀ v m, AllMs w3 (fun b => own = some b ∨ (w.heap.size ≤ b ∧ b < w3.heap.size)) v m → AllMs w7 (STx w w3 ST own) v m) := by
  have s3 := kp3.size
  have s5 := kp5.size
  have hin : ∀ b, STx w w3 ST own b → b < w3.heap.size ∧ ¬ SL b := by
    rintro b (hb | hb | hb)
    · exact ⟨by have := hltT b hb; omega, fun h => hap b h hb⟩
    · exact ⟨by have := hov b hb; omega, (hsep b hb).1⟩
    · exact ⟨hb.2, fun h => by have := hlt b h; omega⟩
  have hin2 : ∀ b, STx w w3 ST own b → ¬ Ext SL w3 w4 b := by
    rintro b hb (h | h)
    · exact (hin b hb).2 h
    · have := (hin b hb).1; omega
  have up3 : ∀ v m, AllMs w3 (STx w w3 ST own) v m → AllMs w7 (STx w w3 ST own) v m := fun v m h =>
    (h.kp kp5 (fun b hb => hin b hb)).kp kp7 (fun b hb => ⟨by have := (hin b hb).1; omega, hin2 b hb⟩)
  exact ⟨fun v m h => up3 v m ((h.kp kp3 (fun b hb => ⟨hltT b hb, fun e => (hsep b e).2 hb⟩)).mono fun b hb => Or.inl hb), fun v m h => up3 v m (h.mono fun b hb => Or.inr hb)⟩

set_option maxHeartbeats 2000000 in
set_option maxRecDepth 100000 in
theorem ownTexts_any (w : World) (SL ST : Nat → Prop) (q : Nat) (vW : Value) (ws : List (Nat × Nat)) (vTx : Value) (tx : List Value) (vNu : Value) (nu : List Value) (vM0 : Value) (m0 : List Nat) (vM1 : Value) (m1 : List Int) (vMs : Value) (mz : List Value) (vM2 : Value) (m2 : List Int) (h : LawR w SL ST q vW ws vTx tx vNu nu vM0 m0 vM1 m1 vMs mz vM2 m2)
    (ht : tx.length ≤ 1000000000) (v : Value) (l : List Nm) (hv : StrR w v l) (hl : l.length ≤ 1000000) (hsep : ∀ g, v.ownBlock = some g → ¬ SL g ∧ ¬ ST g) :
    Calls Tryz.prog 99 #[ptr q, v] w fun e w' => e = .returned (.tuple #[]) ∧ ∃ SL' ST' vTx' v1 v2 v3 vM0',
      LawR w' SL' ST' q vW ws vTx' (tx ++ [v, v1, v2, v3]) vNu nu vM0' (m0 ++ List.replicate 4 m0.length) vM1 m1 vMs mz vM2 m2 ∧ Owned w SL ST v.ownBlock SL' ST' w' := by
  obtain ⟨o0, c0, rfl, _, _⟩ := h.rM0.form
  obtain ⟨oTx, cTx, rfl, _, _⟩ := own_form h.rTx
  obtain ⟨o, c, rfl, _, _⟩ := hv.form
  have hqlt := lt_of_heap h.self
  have hl0 : (m0.map fun (n : Nat) => (n : Int)).length = tx.length := by rw [List.length_map]; exact h.len0.symm
  rw [hl0] at h
  have Hl0 := hide hl0
  have Hm0 : Hid (m0.length = tx.length) := h.len0.symm
  clear hl0
  obtain ⟨e1, _⟩ := row_facts h.self
  obtain ⟨xs, hxs, Hlen⟩ : ∃ xs, StrR w (.slice o l.length c) l = w.ownsRow 0 9 1 (.slice o l.length c) l.length xs ∧ Hid (xs.length = l.length) := ⟨strC l, rfl, by show (strC l).length = _; simp [strC]⟩
  rw [hxs] at hv
  clear hxs
  go_enter Tryz.func99, Tryz.ntmps99
  go_wp2_with fail
  refine (mark_any tx.length w (by omega)).mono ?_
  rintro e w0 ⟨rfl, hb0⟩
  generalize hX : markT tx.length = X at *
  have HX := hide hX
  clear hX
  go_wp2_with fail
  go_loopw [6] (fun j wr => ∃ (k : Nat) (ys : List Value), k ≤ l.length ∧ j = .int .i64 k ∧ Hid (∀ i, i < k → ys[i]? = some (strV X)) ∧ wr.ownsRow 0 9 1 (.slice o l.length c) l.length ys ∧ Kp w.heap.size (fun b => (Value.slice o l.length c).ownBlock = some b) w wr) (fun j _ => l.length - (intOf j).toNat)
  case atStart => exact ⟨0, xs, Nat.zero_le _, rfl, fun i hi => absurd hi (by omega), own_below hv hb0, Kp.ofBelow hb0⟩
  case round =>
    obtain ⟨k, ys, hk, rfl, HY, hrow, kp⟩ := hrel
    by_cases hlt : k < l.length
    · have hly : k < ys.length := by have := hrow.1; omega
      obtain ⟨g, rfl, hg, cy, fy⟩ := own1_at hrow (List.getElem?_eq_getElem hly)
      have hst := own_set (u := strV X) hrow (g := g) rfl hly
      have kp2 := kp.setCell (p := ⟨g, k, none⟩) (Or.inr rfl) (strV X)
      have HY2 : Hid (∀ i, i < k + 1 → (ys.set k (strV X))[i]? = some (strV X)) := fun i hi => by
        by_cases hik : k = i
        · subst hik; simp [hly]
        · rw [List.getElem?_set_ne hik]; exact HY.out i (by omega)
      have K2 := hide kp2
      have Hst := hide hst
      clear kp2 hst
      go_wp2_with fail
      exact ⟨⟨k + 1, _, by omega, by go_num, HY2, Hst.out, K2.out⟩, by simp [intOf]; omega⟩
    · have hkl : k = l.length := by omega
      subst hkl
      have hu : ∀ x ∈ ys, x = strV X := by
        intro x hx
        obtain ⟨i, hi⟩ := List.mem_iff_getElem?.1 hx
        have h1 := HY.out i (by have := hrow.1; have := (List.getElem?_eq_some_iff.1 hi).1; omega)
        rw [hi] at h1
        simpa using h1
      have Hu := hide hu
      have Hsep := hide hsep
      have HOv : Hid (∀ b, (Value.slice o l.length c).ownBlock = some b → b < w.heap.size) := fun b hb => (World.ownsRow.lt hv b hb).2
      have Hh := hide h
      clear hu hsep HY
      have hB0 := kp.size
      go_wp2_with (first | (at_builtin; refine wpList_app3 (t := 53) _ eStr (by rfl) _ _ (by rfl) (.slice o l.length c) l.length ys (by rfl) ?own _ 1 [strV X] (by rfl) ?src ?h63 ?hby ?next))
      case own => exact hrow.alloc _
      case src => exact src_row _ #[strV X] (by simp [Value.oneCell']) rfl
      case h63 => simp only [maxLen]; omega
      case hby => omega
      case next =>
        intro v1 w1 own1 gr1 at1 old1 ov1
        have kp1 := (kp.alloc hB0 _).grown gr1 (by simp; omega) (fun k hk => Or.inr hk)
        have hB1 := kp1.size
        have ai1 : AllIs w1 (fun b => (Value.slice o l.length c).ownBlock = some b ∨ (w.heap.size ≤ b ∧ b < w1.heap.size)) v1 (strV X) := by
          refine AllIs.of own1 (fun x hx => ?_) (fun g hg => ?_) (by omega)
          · rcases List.mem_append.1 hx with hx | hx
            · exact Hu.out x hx
            · simpa using hx
          · rcases at1 with e | e
            · exact Or.inl (e ▸ hg)
            · have := (World.ownsRow.lt own1 g hg).2
              rw [e] at hg; simp only [Option.some.injEq] at hg
              exact Or.inr ⟨by omega, this⟩
        obtain ⟨o1, c1, rfl, _, _⟩ := own_form own1
        have A1 := hide ai1
        clear own1 gr1 at1 ov1 ai1 kp hB0
        go_wp2_with (first | (at_builtin; refine wpList_app3 (t := 53) _ eStr (by rfl) _ _ (by rfl) (.slice o l.length c) l.length ys (by rfl) ?own _ 2 [strV X, strV X] (by rfl) ?src ?h63 ?hby ?next))
        case own => exact old1.alloc _
        case src => exact src_row _ #[strV X, strV X] (by simp [Value.oneCell']) rfl
        case h63 => simp only [maxLen]; omega
        case hby => omega
        case next =>
          intro v2 w2 own2 gr2 at2 old2 ov2
          have kp2 := (kp1.alloc hB1 _).grown gr2 (by simp; omega) (fun k hk => Or.inr hk)
          have hB2 := kp2.size
          have hs12 : w1.heap.size ≤ w2.heap.size := by have := gr2.size; simp at this; omega
          have bi2 : AllIs w2 (fun b => (Value.slice o l.length c).ownBlock = some b ∨ (w.heap.size ≤ b ∧ b < w2.heap.size)) (.slice o1 (l.length + 1) c1) (strV X) := by
            have h1 := A1.out.kp (Kp.ofBelow (S := NoS) (((Below.refl w1.heap.size w1)).alloc (Nat.le_refl _) (.cells #[strV X, strV X] 9))) (Off.none fun b hb => by
              rcases hb with hb | hb
              · exact (World.ownsRow.lt old1 b hb).2
              · exact hb.2)
            exact (h1.over ov2 (by simp)).mono fun b hb => hb.imp_right fun ⟨a, b⟩ => ⟨a, by omega⟩
          have ai2 : AllIs w2 (fun b => (Value.slice o l.length c).ownBlock = some b ∨ (w.heap.size ≤ b ∧ b < w2.heap.size)) v2 (strV X) := by
            refine AllIs.of own2 (fun x hx => ?_) (fun g hg => ?_) (by omega)
            · rcases List.mem_append.1 hx with hx | hx
              · exact Hu.out x hx
              · simpa using hx
            · rcases at2 with e | e
              · exact Or.inl (e ▸ hg)
              · have := (World.ownsRow.lt own2 g hg).2
                rw [e] at hg; simp only [Option.some.injEq] at hg
                exact Or.inr ⟨by omega, this⟩
          obtain ⟨o2, c2, rfl, _, _⟩ := own_form own2
          have A2 := hide ai2
          have B2 := hide bi2
          clear own2 gr2 at2 ov2 ai2 bi2 kp1 hB1 A1 old1 hrow
          go_wp2_with (first | (at_builtin; refine wpList_app3 (t := 53) _ eStr (by rfl) _ _ (by rfl) (.slice o l.length c) l.length ys (by rfl) ?own _ 3 [strV X, strV X, strV X] (by rfl) ?src ?h63 ?hby ?next))
          case own => exact old2.alloc _
          case src => exact src_row _ #[strV X, strV X, strV X] (by simp [Value.oneCell']) rfl
          case h63 => simp only [maxLen]; omega
          case hby => omega
          case next =>
            intro v3 w3 own3 gr3 at3 old3 ov3
            have kp3 := (kp2.alloc hB2 _).grown gr3 (by simp; omega) (fun k hk => Or.inr hk)
            have hB3 := kp3.size
            have hs23 : w2.heap.size ≤ w3.heap.size := by have := gr3.size; simp at this; omega
            have hup : ∀ v, AllIs w2 (fun b => (Value.slice o l.length c).ownBlock = some b ∨ (w.heap.size ≤ b ∧ b < w2.heap.size)) v (strV X) → AllIs w3 (fun b => (Value.slice o l.length c).ownBlock = some b ∨ (w.heap.size ≤ b ∧ b < w3.heap.size)) v (strV X) := fun v hv => by
              have h1 := hv.kp (Kp.ofBelow (S := NoS) (((Below.refl w2.heap.size w2)).alloc (Nat.le_refl _) (.cells #[strV X, strV X, strV X] 9))) (Off.none fun b hb => by
                rcases hb with hb | hb
                · exact (World.ownsRow.lt old2 b hb).2
                · exact hb.2)
              exact (h1.over ov3 (by simp)).mono fun b hb => hb.imp_right fun ⟨a, b⟩ => ⟨a, by omega⟩
            have bi3 := hup _ B2.out
            have ci3 := hup _ A2.out
            have ai3 : AllIs w3 (fun b => (Value.slice o l.length c).ownBlock = some b ∨ (w.heap.size ≤ b ∧ b < w3.heap.size)) v3 (strV X) := by
              refine AllIs.of own3 (fun x hx => ?_) (fun g hg => ?_) (by omega)
              · rcases List.mem_append.1 hx with hx | hx
                · exact Hu.out x hx
                · simpa using hx
              · rcases at3 with e | e
                · exact Or.inl (e ▸ hg)
                · have := (World.ownsRow.lt own3 g hg).2
                  rw [e] at hg; simp only [Option.some.injEq] at hg
                  exact Or.inr ⟨by omega, this⟩
            have di3 : AllIs w3 (fun b => (Value.slice o l.length c).ownBlock = some b ∨ (w.heap.size ≤ b ∧ b < w3.heap.size)) (.slice o l.length c) (strV X) :=
              AllIs.of old3 Hu.out (fun g hg => Or.inl hg) (by omega)
            obtain ⟨o3, c3, rfl, _, _⟩ := own_form own3
            have hoff : Off SL w.heap.size (fun b => (Value.slice o l.length c).ownBlock = some b) := fun b hb => ⟨Hh.out.lt b hb, fun e => (Hsep.out b e).1 hb⟩
            have hc3 := Hh.out.toLawC.kp kp3 hoff
            have L3 := hide (And.intro ai3 (And.intro bi3 (And.intro ci3 di3)))
            clear own3 gr3 at3 ov3 ai3 bi3 ci3 di3 kp2 hB2 A2 B2 old2 hup e1
            obtain ⟨e3, f3⟩ := row_facts hc3.self
            have hq3 := lt_of_heap hc3.self
            go_wp2_with (first | (at_builtin; refine wpList_app (t := 70) _ eTexts (by rfl) _ _ (by rfl) (.slice oTx tx.length cTx) tx.length tx (by rfl) ?own _ 4 [.slice o l.length c, .slice o1 (l.length + 1) c1, .slice o2 (l.length + 2) c2, .slice o3 (l.length + 3) c3] (by rfl) ?src ?h63 ?hby ?next))
            case own => exact hc3.rTx.alloc _
            case src => exact src_row _ #[.slice o l.length c, .slice o1 (l.length + 1) c1, .slice o2 (l.length + 2) c2, .slice o3 (l.length + 3) c3] (by simp [Value.oneCell']) rfl
            case h63 => simp only [maxLen]; omega
            case hby => omega
            case next =>
              intro v4 w4 own4 gr4 at4
              have hba : Below w3.heap.size w3 (w3.alloc (.cells #[.slice o l.length c, .slice o1 (l.length + 1) c1, .slice o2 (l.length + 2) c2, .slice o3 (l.length + 3) c3] 53)) := (Below.refl _ _).alloc (Nat.le_refl _) _
              obtain ⟨hc5, kp5⟩ := hc3.putTx hba gr4 (tx' := tx ++ [.slice o l.length c, .slice o1 (l.length + 1) c1, .slice o2 (l.length + 2) c2, .slice o3 (l.length + 3) c3]) (by rw [List.length_append]; exact own4) (by rw [World.size_alloc]; exact at4)
              have hq4 : w4.heap[q]? = _ := ((Kp.ofGrown gr4).block q (by have := hba.size; omega) (own_ne (own_below hc3.rTx hba) ((hba.block q hq3).trans hc3.self) (by decide))).trans ((hba.block q hq3).trans hc3.self)
              have hs34 : w3.heap.size ≤ w4.heap.size := by have := gr4.size; have := hba.size; omega
              obtain ⟨e4, f4⟩ := row_facts hq4
              obtain ⟨o4, c4, rfl, _, _⟩ := own_form own4
              have K5 := hide kp5
              clear own4 gr4 at4 kp5 e3 f3 hba hq4
              go_wp2_with fail
              have hs5 : (w4.setCell ⟨q, 1, none⟩ (.slice o4 (tx.length + 4) c4)).heap.size = w4.heap.size := by simp [World.setCell]
              generalize w4.setCell ⟨q, 1, none⟩ (.slice o4 (tx.length + 4) c4) = w5 at *
              obtain ⟨e5, f5⟩ := row_facts hc5.self
              have hq5 := lt_of_heap hc5.self
              have e54 := e5 4
              simp only [List.getElem?_toArray, List.getElem?_cons_succ, List.getElem?_cons_zero] at e54
              have Hs5 := hide hs5
              clear hs5 e5
              clear e4 f4
              have hn0 := own_ne hc5.rM0 hc5.self (by decide)
              obtain ⟨Sx, hSx⟩ : ∃ Sx : Nat → Prop, Sx = fun b => (Value.slice o0 tx.length c0).ownBlock = some b := ⟨_, rfl⟩
              have hqS : ¬ Sx q := by rw [hSx]; exact hn0
              have HSx := hide hSx
              clear hSx
              have hG := GrS.cell w5 Sx
              have hGn := GrS.some w5 Sx
              refine wp_region_flt [0, 1, 2, 3, 4, 5, 6, 7, 8, 9, 12, 13] [10, 11, 14, 15] (fun w' => ∃ x : GrS w5 Sx, w' = x.w) (by kernel_rfl) (by kernel_rfl) (fun _ _ d _ _ h => by cases d <;> exact h) ⟨⟨w5.drew, (Kp.refl _ _ _).drew⟩, rfl⟩ ?_
              simp only [pickOps, List.getElem?_cons_zero, List.getElem?_cons_succ]
              repeat (go_big_quiet_step (fail))
              refine wpQuiet_nil ?_
              refine ⟨_, rfl, ?_⟩
              go_wp2_with fail
              refine ⟨fun _ => ⟨⟨_, ((Kp.refl _ _ _).alloc (Nat.le_refl _) _).drew⟩, rfl⟩, _, rfl, ?_⟩
              refine wpList_app (t := 44) _ eInt (by rfl) _ _ (by rfl) (.slice o0 tx.length c0) tx.length ((m0.map fun (n : Nat) => (n : Int)).map fun n => .int .i64 n) (by rfl) ?own _ 4 [.int .i64 tx.length, .int .i64 tx.length, .int .i64 tx.length, .int .i64 tx.length] (by rfl) ?src ?h63 ?hby ?next
              case own =>
                have := hc5.rM0
                unfold IntR at this
                rw [Hl0.out] at this
                exact this.alloc _
              case src => exact src_row w5 #[.int .i64 tx.length, .int .i64 tx.length, .int .i64 tx.length, .int .i64 tx.length] (by simp [Value.oneCell']) rfl
              case h63 => simp only [maxLen]; omega
              case hby => omega
              case next =>
                intro v6 w6 own6 gr6 at6
                have hba : Below w5.heap.size w5 (w5.alloc (.cells #[.int .i64 tx.length, .int .i64 tx.length, .int .i64 tx.length, .int .i64 tx.length] 3)).drew := ((Below.refl _ _).alloc (Nat.le_refl _) _).drew
                have kp6 : Kp w5.heap.size Sx w5 w6 := (Kp.ofBelow (S := Sx) hba).grown gr6 hba.size (fun k hk => Or.inr (by rw [HSx.out]; exact hk))
                obtain ⟨hc7, kp7⟩ := hc5.putM0 hba gr6 (m0' := (m0 ++ List.replicate 4 m0.length).map fun (n : Nat) => (n : Int)) (by
                  unfold IntR
                  have hlen : ((m0 ++ List.replicate 4 m0.length).map fun (n : Nat) => (n : Int)).length = tx.length + 4 := by simp [Hm0.out]
                  rw [hlen, List.map_append, List.map_append, List.map_replicate, List.map_replicate, Hm0.out]
                  exact own6) at6
                have hq6 : w6.heap[q]? = _ := (kp6.block q hq5 hqS).trans hc5.self
                obtain ⟨e6, f6⟩ := row_facts hq6
                obtain ⟨o6, c6, rfl, _, _⟩ := own_form own6
                have K7 := hide kp7
                clear own6 gr6 at6 kp7
                go_wp2_with fail
                refine ⟨fun _ => ⟨⟨w6, kp6⟩, rfl⟩, _, rfl, ?_⟩
                go_wp2_with fail
                refine ⟨fun _ => ⟨⟨w6, kp6⟩, rfl⟩, _, rfl, ?_⟩
                go_wp2_with fail
                refine ⟨fun h => absurd rfl h, ?_⟩
                unfold wpFin
                go_wp2_with fail
                go_end0
                have up := own_up (w3 := w3) (w4 := w4) (w5 := w5) (w6 := w6) (own := (Value.slice o l.length c).ownBlock) Hh.out.lt Hh.out.ltT Hh.out.apart Hsep.out HOv.out kp3 K5.out K7.out Hs5.out (by have := kp6.size; omega)
                have upM := own_upM (w3 := w3) (w4 := w4) (w5 := w5) (own := (Value.slice o l.length c).ownBlock) Hh.out.lt Hh.out.ltT Hh.out.apart Hsep.out HOv.out kp3 K5.out K7.out
                refine ⟨rfl, Ext (Ext SL w3 w4) w5 w6, STx w w3 ST (Value.slice o l.length c).ownBlock, .slice o4 (tx.length + 4) c4, .slice o1 (l.length + 1) c1, .slice o2 (l.length + 2) c2, .slice o3 (l.length + 3) c3, .slice o6 (tx.length + 4) c6, ?_, ?_⟩
                · obtain ⟨u1, u2, u3, u4, _⟩ := up
                  obtain ⟨i3, i1, i2, i0⟩ := L3.out
                  refine ⟨hc7, u3, u4, by simp [Hm0.out], Hh.out.len1, Hh.out.len2, ?_, fun i v m a b => u1 _ _ (Hh.out.num i v m a b), fun i v m a b => upM.1 _ _ (Hh.out.msg i v m a b)⟩
                  intro i v m hv hm
                  rcases Nat.lt_or_ge i tx.length with hi | hi
                  · rw [List.getElem?_append_left hi] at hv
                    rw [List.getElem?_append_left (by rw [Hm0.out]; exact hi)] at hm
                    exact u1 _ _ (Hh.out.txt i v m hv hm)
                  · rw [List.getElem?_append_right hi] at hv
                    rw [List.getElem?_append_right (by rw [Hm0.out]; exact hi)] at hm
                    have hm' := (List.mem_replicate.1 (List.mem_of_getElem? hm)).2
                    rw [hm', Hm0.out, HX.out]
                    have hv' := List.mem_of_getElem? hv
                    simp only [List.mem_cons, List.not_mem_nil, or_false] at hv'
                    rcases hv' with rfl | rfl | rfl | rfl
                    · exact u2 _ _ i0
                    · exact u2 _ _ i1
                    · exact u2 _ _ i2
                    · exact u2 _ _ i3
                · exact up.2.2.2.2
end Go.Proofs.YtnniimfinakioaaGreatDoor
namespace Go.Proofs.YtnniimfinakioaaGreatDoor
open Go.RowKit
attribute [local go_sem ↓] eqTok eqEnt
attribute [local go_sem] toList_nm app_nm size_nm

set_option maxHeartbeats 2000000 in
set_option maxRecDepth 100000 in
theorem ownNumbers_any (w : World) (SL ST : Nat → Prop) (q : Nat) (vW : Value) (ws : List (Nat × Nat)) (vTx : Value) (tx : List Value) (vNu : Value) (nu : List Value) (vM0 : Value) (m0 : List Nat) (vM1 : Value) (m1 : List Int) (vMs : Value) (mz : List Value) (vM2 : Value) (m2 : List Int) (h : LawR w SL ST q vW ws vTx tx vNu nu vM0 m0 vM1 m1 vMs mz vM2 m2)
    (ht : nu.length ≤ 1000000000) (v : Value) (l : List Int) (hv : IntR w v l) (hl : l.length ≤ 1000000) (hsep : ∀ g, v.ownBlock = some g → ¬ SL g ∧ ¬ ST g) :
    Calls Tryz.prog 103 #[ptr q, v] w fun e w' => e = .returned (.tuple #[]) ∧ ∃ SL' ST' vNu' v1 v2 v3 vM1',
      LawR w' SL' ST' q vW ws vTx tx vNu' (nu ++ [v, v1, v2, v3]) vM0 m0 vM1' (m1 ++ List.replicate 4 (-1 - (m1.length : Int))) vMs mz vM2 m2 ∧ Owned w SL ST v.ownBlock SL' ST' w' := by
  obtain ⟨o0, c0, rfl, _, _⟩ := h.rM1.form
  obtain ⟨oTx, cTx, rfl, _, _⟩ := own_form h.rNu
  obtain ⟨o, c, rfl, _, _⟩ := hv.form
  have hqlt := lt_of_heap h.self
  have hl0 : m1.length = nu.length := h.len1.symm
  rw [hl0] at h
  have Hm0 : Hid (m1.length = nu.length) := h.len1.symm
  clear hl0
  obtain ⟨e1, _⟩ := row_facts h.self
  obtain ⟨xs, hxs, Hlen⟩ : ∃ xs, IntR w (.slice o l.length c) l = w.ownsRow 0 3 1 (.slice o l.length c) l.length xs ∧ Hid (xs.length = l.length) := ⟨l.map fun n => .int .i64 n, rfl, by show List.length _ = _; simp⟩
  rw [hxs] at hv
  clear hxs
  go_enter Tryz.func103, Tryz.ntmps103
  go_wp2_with fail
  generalize hX : -1 - (nu.length : Int) = X at *
  have HX := hide hX
  clear hX
  go_loopw [5] (fun j wr => ∃ (k : Nat) (ys : List Value), k ≤ l.length ∧ j = .int .i64 k ∧ Hid (∀ i, i < k → ys[i]? = some (Value.int .i64 X)) ∧ wr.ownsRow 0 3 1 (.slice o l.length c) l.length ys ∧ Kp w.heap.size (fun b => (Value.slice o l.length c).ownBlock = some b) w wr) (fun j _ => l.length - (intOf j).toNat)
  case atStart => exact ⟨0, xs, Nat.zero_le _, rfl, fun i hi => absurd hi (by omega), hv, Kp.refl _ _ _⟩
  case round =>
    obtain ⟨k, ys, hk, rfl, HY, hrow, kp⟩ := hrel
    by_cases hlt : k < l.length
    · have hly : k < ys.length := by have := hrow.1; omega
      obtain ⟨g, rfl, hg, cy, fy⟩ := own1_at hrow (List.getElem?_eq_getElem hly)
      have hst := own_set (u := Value.int .i64 X) hrow (g := g) rfl hly
      have kp2 := kp.setCell (p := ⟨g, k, none⟩) (Or.inr rfl) (Value.int .i64 X)
      have HY2 : Hid (∀ i, i < k + 1 → (ys.set k (Value.int .i64 X))[i]? = some (Value.int .i64 X)) := fun i hi => by
        by_cases hik : k = i
        · subst hik; simp [hly]
        · rw [List.getElem?_set_ne hik]; exact HY.out i (by omega)
      have K2 := hide kp2
      have Hst := hide hst
      clear kp2 hst
      go_wp2_with fail
      exact ⟨⟨k + 1, _, by omega, by go_num, HY2, Hst.out, K2.out⟩, by simp [intOf]; omega⟩
    · have hkl : k = l.length := by omega
      subst hkl
      have hu : ∀ x ∈ ys, x = Value.int .i64 X := by
        intro x hx
        obtain ⟨i, hi⟩ := List.mem_iff_getElem?.1 hx
        have h1 := HY.out i (by have := hrow.1; have := (List.getElem?_eq_some_iff.1 hi).1; omega)
        rw [hi] at h1
        simpa using h1
      have Hu := hide hu
      have Hsep := hide hsep
      have HOv : Hid (∀ b, (Value.slice o l.length c).ownBlock = some b → b < w.heap.size) := fun b hb => (World.ownsRow.lt hv b hb).2
      have Hh := hide h
      clear hu hsep HY
      have hB0 := kp.size
      go_wp2_with (first | (at_builtin; refine wpList_app3 (t := 44) _ eInt (by rfl) _ _ (by rfl) (.slice o l.length c) l.length ys (by rfl) ?own _ 1 [Value.int .i64 X] (by rfl) ?src ?h63 ?hby ?next))
      case own => exact hrow.alloc _
      case src => exact src_row _ #[Value.int .i64 X] (by simp [Value.oneCell']) rfl
      case h63 => simp only [maxLen]; omega
      case hby => omega
      case next =>
        intro v1 w1 own1 gr1 at1 old1 ov1
        have kp1 := (kp.alloc hB0 _).grown gr1 (by simp; omega) (fun k hk => Or.inr hk)
        have hB1 := kp1.size
        have ai1 : AllIs w1 (fun b => (Value.slice o l.length c).ownBlock = some b ∨ (w.heap.size ≤ b ∧ b < w1.heap.size)) v1 (Value.int .i64 X) := by
          refine AllIs.of own1 (fun x hx => ?_) (fun g hg => ?_) (by omega)
          · rcases List.mem_append.1 hx with hx | hx
            · exact Hu.out x hx
            · simpa using hx
          · rcases at1 with e | e
            · exact Or.inl (e ▸ hg)
            · have := (World.ownsRow.lt own1 g hg).2
              rw [e] at hg; simp only [Option.some.injEq] at hg
              exact Or.inr ⟨by omega, this⟩
        obtain ⟨o1, c1, rfl, _, _⟩ := own_form own1
        have A1 := hide ai1
        clear own1 gr1 at1 ov1 ai1 kp hB0
        go_wp2_with (first | (at_builtin; refine wpList_app3 (t := 44) _ eInt (by rfl) _ _ (by rfl) (.slice o l.length c) l.length ys (by rfl) ?own _ 2 [Value.int .i64 X, Value.int .i64 X] (by rfl) ?src ?h63 ?hby ?next))
        case own => exact old1.alloc _
        case src => exact src_row _ #[Value.int .i64 X, Value.int .i64 X] (by simp [Value.oneCell']) rfl
        case h63 => simp only [maxLen]; omega
        case hby => omega
        case next =>
          intro v2 w2 own2 gr2 at2 old2 ov2
          have kp2 := (kp1.alloc hB1 _).grown gr2 (by simp; omega) (fun k hk => Or.inr hk)
          have hB2 := kp2.size
          have hs12 : w1.heap.size ≤ w2.heap.size := by have := gr2.size; simp at this; omega
          have bi2 : AllIs w2 (fun b => (Value.slice o l.length c).ownBlock = some b ∨ (w.heap.size ≤ b ∧ b < w2.heap.size)) (.slice o1 (l.length + 1) c1) (Value.int .i64 X) := by
            have h1 := A1.out.kp (Kp.ofBelow (S := NoS) (((Below.refl w1.heap.size w1)).alloc (Nat.le_refl _) (.cells #[Value.int .i64 X, Value.int .i64 X] 3))) (Off.none fun b hb => by
              rcases hb with hb | hb
              · exact (World.ownsRow.lt old1 b hb).2
              · exact hb.2)
            exact (h1.over ov2 (by simp)).mono fun b hb => hb.imp_right fun ⟨a, b⟩ => ⟨a, by omega⟩
          have ai2 : AllIs w2 (fun b => (Value.slice o l.length c).ownBlock = some b ∨ (w.heap.size ≤ b ∧ b < w2.heap.size)) v2 (Value.int .i64 X) := by
            refine AllIs.of own2 (fun x hx => ?_) (fun g hg => ?_) (by omega)
            · rcases List.mem_append.1 hx with hx | hx
              · exact Hu.out x hx
              · simpa using hx
            · rcases at2 with e | e
              · exact Or.inl (e ▸ hg)
              · have := (World.ownsRow.lt own2 g hg).2
                rw [e] at hg; simp only [Option.some.injEq] at hg
                exact Or.inr ⟨by omega, this⟩
          obtain ⟨o2, c2, rfl, _, _⟩ := own_form own2
          have A2 := hide ai2
          have B2 := hide bi2
          clear own2 gr2 at2 ov2 ai2 bi2 kp1 hB1 A1 old1 hrow
          go_wp2_with (first | (at_builtin; refine wpList_app3 (t := 44) _ eInt (by rfl) _ _ (by rfl) (.slice o l.length c) l.length ys (by rfl) ?own _ 3 [Value.int .i64 X, Value.int .i64 X, Value.int .i64 X] (by rfl) ?src ?h63 ?hby ?next))
          case own => exact old2.alloc _
          case src => exact src_row _ #[Value.int .i64 X, Value.int .i64 X, Value.int .i64 X] (by simp [Value.oneCell']) rfl
          case h63 => simp only [maxLen]; omega
          case hby => omega
          case next =>
            intro v3 w3 own3 gr3 at3 old3 ov3
            have kp3 := (kp2.alloc hB2 _).grown gr3 (by simp; omega) (fun k hk => Or.inr hk)
            have hB3 := kp3.size
            have hs23 : w2.heap.size ≤ w3.heap.size := by have := gr3.size; simp at this; omega
            have hup : ∀ v, AllIs w2 (fun b => (Value.slice o l.length c).ownBlock = some b ∨ (w.heap.size ≤ b ∧ b < w2.heap.size)) v (Value.int .i64 X) → AllIs w3 (fun b => (Value.slice o l.length c).ownBlock = some b ∨ (w.heap.size ≤ b ∧ b < w3.heap.size)) v (Value.int .i64 X) := fun v hv => by
              have h1 := hv.kp (Kp.ofBelow (S := NoS) (((Below.refl w2.heap.size w2)).alloc (Nat.le_refl _) (.cells #[Value.int .i64 X, Value.int .i64 X, Value.int .i64 X] 3))) (Off.none fun b hb => by
                rcases hb with hb | hb
                · exact (World.ownsRow.lt old2 b hb).2
                · exact hb.2)
              exact (h1.over ov3 (by simp)).mono fun b hb => hb.imp_right fun ⟨a, b⟩ => ⟨a, by omega⟩
            have bi3 := hup _ B2.out
            have ci3 := hup _ A2.out
            have ai3 : AllIs w3 (fun b => (Value.slice o l.length c).ownBlock = some b ∨ (w.heap.size ≤ b ∧ b < w3.heap.size)) v3 (Value.int .i64 X) := by
              refine AllIs.of own3 (fun x hx => ?_) (fun g hg => ?_) (by omega)
              · rcases List.mem_append.1 hx with hx | hx
                · exact Hu.out x hx
                · simpa using hx
              · rcases at3 with e | e
                · exact Or.inl (e ▸ hg)
                · have := (World.ownsRow.lt own3 g hg).2
                  rw [e] at hg; simp only [Option.some.injEq] at hg
                  exact Or.inr ⟨by omega, this⟩
            have di3 : AllIs w3 (fun b => (Value.slice o l.length c).ownBlock = some b ∨ (w.heap.size ≤ b ∧ b < w3.heap.size)) (.slice o l.length c) (Value.int .i64 X) :=
              AllIs.of old3 Hu.out (fun g hg => Or.inl hg) (by omega)
            obtain ⟨o3, c3, rfl, _, _⟩ := own_form own3
            have hoff : Off SL w.heap.size (fun b => (Value.slice o l.length c).ownBlock = some b) := fun b hb => ⟨Hh.out.lt b hb, fun e => (Hsep.out b e).1 hb⟩
            have hc3 := Hh.out.toLawC.kp kp3 hoff
            have L3 := hide (And.intro ai3 (And.intro bi3 (And.intro ci3 di3)))
            clear own3 gr3 at3 ov3 ai3 bi3 ci3 di3 kp2 hB2 A2 B2 old2 hup e1
            obtain ⟨e3, f3⟩ := row_facts hc3.self
            have hq3 := lt_of_heap hc3.self
            go_wp2_with (first | (at_builtin; refine wpList_app (t := 71) _ eNumbers (by rfl) _ _ (by rfl) (.slice oTx nu.length cTx) nu.length nu (by rfl) ?own _ 4 [.slice o l.length c, .slice o1 (l.length + 1) c1, .slice o2 (l.length + 2) c2, .slice o3 (l.length + 3) c3] (by rfl) ?src ?h63 ?hby ?next))
            case own => exact hc3.rNu.alloc _
            case src => exact src_row _ #[.slice o l.length c, .slice o1 (l.length + 1) c1, .slice o2 (l.length + 2) c2, .slice o3 (l.length + 3) c3] (by simp [Value.oneCell']) rfl
            case h63 => simp only [maxLen]; omega
            case hby => omega
            case next =>
              intro v4 w4 own4 gr4 at4
              have hba : Below w3.heap.size w3 (w3.alloc (.cells #[.slice o l.length c, .slice o1 (l.length + 1) c1, .slice o2 (l.length + 2) c2, .slice o3 (l.length + 3) c3] 44)) := (Below.refl _ _).alloc (Nat.le_refl _) _
              obtain ⟨hc5, kp5⟩ := hc3.putNu hba gr4 (nu' := nu ++ [.slice o l.length c, .slice o1 (l.length + 1) c1, .slice o2 (l.length + 2) c2, .slice o3 (l.length + 3) c3]) (by rw [List.length_append]; exact own4) (by rw [World.size_alloc]; exact at4)
              have hq4 : w4.heap[q]? = _ := ((Kp.ofGrown gr4).block q (by have := hba.size; omega) (own_ne (own_below hc3.rNu hba) ((hba.block q hq3).trans hc3.self) (by decide))).trans ((hba.block q hq3).trans hc3.self)
              have hs34 : w3.heap.size ≤ w4.heap.size := by have := gr4.size; have := hba.size; omega
              obtain ⟨e4, f4⟩ := row_facts hq4
              obtain ⟨o4, c4, rfl, _, _⟩ := own_form own4
              have K5 := hide kp5
              clear own4 gr4 at4 kp5 e3 f3 hba hq4
              go_wp2_with fail
              have hs5 : (w4.setCell ⟨q, 2, none⟩ (.slice o4 (nu.length + 4) c4)).heap.size = w4.heap.size := by simp [World.setCell]
              generalize w4.setCell ⟨q, 2, none⟩ (.slice o4 (nu.length + 4) c4) = w5 at *
              obtain ⟨e5, f5⟩ := row_facts hc5.self
              have hq5 := lt_of_heap hc5.self
              have e54 := e5 5
              simp only [List.getElem?_toArray, List.getElem?_cons_succ, List.getElem?_cons_zero] at e54
              have Hs5 := hide hs5
              clear hs5 e5
              clear e4 f4
              have hn0 := own_ne hc5.rM1 hc5.self (by decide)
              obtain ⟨Sx, hSx⟩ : ∃ Sx : Nat → Prop, Sx = fun b => (Value.slice o0 nu.length c0).ownBlock = some b := ⟨_, rfl⟩
              have hqS : ¬ Sx q := by rw [hSx]; exact hn0
              have HSx := hide hSx
              clear hSx
              have hG := GrS.cell w5 Sx
              have hGn := GrS.some w5 Sx
              refine wp_region_flt [0, 1, 2, 3, 4, 5, 6, 7, 8, 9, 12, 13] [10, 11, 14, 15] (fun w' => ∃ x : GrS w5 Sx, w' = x.w) (by kernel_rfl) (by kernel_rfl) (fun _ _ d _ _ h => by cases d <;> exact h) ⟨⟨w5.drew, (Kp.refl _ _ _).drew⟩, rfl⟩ ?_
              simp only [pickOps, List.getElem?_cons_zero, List.getElem?_cons_succ]
              repeat (go_big_quiet_step (fail))
              refine wpQuiet_nil ?_
              refine ⟨_, rfl, ?_⟩
              go_wp2_with fail
              refine ⟨fun _ => ⟨⟨_, ((Kp.refl _ _ _).alloc (Nat.le_refl _) _).drew⟩, rfl⟩, _, rfl, ?_⟩
              refine wpList_app (t := 44) _ eInt (by rfl) _ _ (by rfl) (.slice o0 nu.length c0) nu.length (m1.map fun n => .int .i64 n) (by rfl) ?own _ 4 [.int .i64 X, .int .i64 X, .int .i64 X, .int .i64 X] (by rfl) ?src ?h63 ?hby ?next
              case own =>
                have := hc5.rM1
                unfold IntR at this
                rw [Hm0.out] at this
                exact this.alloc _
              case src => exact src_row w5 #[.int .i64 X, .int .i64 X, .int .i64 X, .int .i64 X] (by simp [Value.oneCell']) rfl
              case h63 => simp only [maxLen]; omega
              case hby => omega
              case next =>
                intro v6 w6 own6 gr6 at6
                have hba : Below w5.heap.size w5 (w5.alloc (.cells #[.int .i64 X, .int .i64 X, .int .i64 X, .int .i64 X] 3)).drew := ((Below.refl _ _).alloc (Nat.le_refl _) _).drew
                have kp6 : Kp w5.heap.size Sx w5 w6 := (Kp.ofBelow (S := Sx) hba).grown gr6 hba.size (fun k hk => Or.inr (by rw [HSx.out]; exact hk))
                obtain ⟨hc7, kp7⟩ := hc5.putM1 hba gr6 (m1' := m1 ++ List.replicate 4 (-1 - (m1.length : Int))) (by
                  unfold IntR
                  have hlen : (m1 ++ List.replicate 4 (-1 - (m1.length : Int))).length = nu.length + 4 := by simp [Hm0.out]
                  rw [hlen, List.map_append, List.map_replicate, Hm0.out, HX.out]
                  exact own6) at6
                have hq6 : w6.heap[q]? = _ := (kp6.block q hq5 hqS).trans hc5.self
                obtain ⟨e6, f6⟩ := row_facts hq6
                obtain ⟨o6, c6, rfl, _, _⟩ := own_form own6
                have K7 := hide kp7
                clear own6 gr6 at6 kp7
                go_wp2_with fail
                refine ⟨fun _ => ⟨⟨w6, kp6⟩, rfl⟩, _, rfl, ?_⟩
                go_wp2_with fail
                refine ⟨fun _ => ⟨⟨w6, kp6⟩, rfl⟩, _, rfl, ?_⟩
                go_wp2_with fail
                refine ⟨fun h => absurd rfl h, ?_⟩
                unfold wpFin
                go_wp2_with fail
                go_end0
                have up := own_up (w3 := w3) (w4 := w4) (w5 := w5) (w6 := w6) (own := (Value.slice o l.length c).ownBlock) Hh.out.lt Hh.out.ltT Hh.out.apart Hsep.out HOv.out kp3 K5.out K7.out Hs5.out (by have := kp6.size; omega)
                have upM := own_upM (w3 := w3) (w4 := w4) (w5 := w5) (own := (Value.slice o l.length c).ownBlock) Hh.out.lt Hh.out.ltT Hh.out.apart Hsep.out HOv.out kp3 K5.out K7.out
                refine ⟨rfl, Ext (Ext SL w3 w4) w5 w6, STx w w3 ST (Value.slice o l.length c).ownBlock, .slice o4 (nu.length + 4) c4, .slice o1 (l.length + 1) c1, .slice o2 (l.length + 2) c2, .slice o3 (l.length + 3) c3, .slice o6 (nu.length + 4) c6, ?_, ?_⟩
                · obtain ⟨u1, u2, u3, u4, _⟩ := up
                  obtain ⟨i3, i1, i2, i0⟩ := L3.out
                  refine ⟨hc7, u3, u4, Hh.out.len0, by simp [Hm0.out], Hh.out.len2, fun i v m a b => u1 _ _ (Hh.out.txt i v m a b), ?_, fun i v m a b => upM.1 _ _ (Hh.out.msg i v m a b)⟩
                  intro i v m hv hm
                  rcases Nat.lt_or_ge i nu.length with hi | hi
                  · rw [List.getElem?_append_left hi] at hv
                    rw [List.getElem?_append_left (by rw [Hm0.out]; exact hi)] at hm
                    exact u1 _ _ (Hh.out.num i v m hv hm)
                  · rw [List.getElem?_append_right hi] at hv
                    rw [List.getElem?_append_right (by rw [Hm0.out]; exact hi)] at hm
                    have hm' := (List.mem_replicate.1 (List.mem_of_getElem? hm)).2
                    rw [hm', Hm0.out, HX.out]
                    have hv' := List.mem_of_getElem? hv
                    simp only [List.mem_cons, List.not_mem_nil, or_false] at hv'
                    rcases hv' with rfl | rfl | rfl | rfl
                    · exact u2 _ _ i0
                    · exact u2 _ _ i1
                    · exact u2 _ _ i2
                    · exact u2 _ _ i3
                · exact up.2.2.2.2
end Go.Proofs.YtnniimfinakioaaGreatDoor
namespace Go.Proofs.YtnniimfinakioaaGreatDoor
open Go.RowKit
attribute [local go_sem ↓] eqTok eqEnt
attribute [local go_sem] toList_nm app_nm size_nm

def marksC (X : Int) (r : Nat) : List Value := (List.replicate r (mkM X)).flatMap tmC
theorem marksC_add (X : Int) (a b : Nat) : marksC X a ++ marksC X b = marksC X (a + b) := by
  unfold marksC
  rw [← List.flatMap_append, List.replicate_append_replicate]
theorem marksC_one (X : Int) (r : Nat) : ∀ u ∈ marksC X r, u.oneCell' = true := flat_one fun a _ => tmC_one a
theorem src_marks (w : World) (X : Int) (r : Nat) (cs : Array Value) (he : cs.toList = marksC X r) {c : Nat} {ty : TypeId} : Src (w.alloc (.cells cs ty)) 5 (.slice (some ⟨w.heap.size, 0, none⟩) r c) r (marksC X r) := by
  refine ⟨by rw [marksC, flat_len tmW, List.length_replicate], marksC_one X r, Or.inr ⟨_, _, rfl, ?_⟩⟩
  rw [← he]
  exact World.news_of_block (cs := cs) (heap_alloc_new w _)

/-- One message of a row is written over, cell by cell. -/
theorem tm_set {w : World} {e n g k : Nat} {v : Value} {l : List Tm} {x : Tm} (h : w.ownsRow 0 e 5 v n (l.flatMap tmC)) (hg : v.ownBlock = some g) (hk : l[k]? = some x) (y : Tm) :
    (((((w.setCell ⟨g, k * 5, none⟩ (.int .i64 y.kind)).setCell ⟨g, k * 5 + 1, none⟩ (.int .i64 y.frm)).setCell ⟨g, k * 5 + 2, none⟩ (.int .i64 y.to)).setCell ⟨g, k * 5 + 3, none⟩ (.int .i64 y.number)).setCell ⟨g, k * 5 + 4, none⟩ (strV y.text)).ownsRow 0 e 5 v n ((l.set k y).flatMap tmC) := by
  have hkl : k < l.length := (List.getElem?_eq_some_iff.1 hk).1
  have hlen : ∀ (m : List Tm), m.length = l.length → ∀ j, j < 5 → k * 5 + j < (m.flatMap tmC).length := fun m hm j hj => by rw [flat_len tmW, hm]; omega
  have s0 := own_set (u := .int .i64 y.kind) h hg (hlen l rfl 0 (by decide))
  rw [flat_set tmW l k 0 x { x with kind := y.kind } _ hk (by decide) rfl] at s0
  have k1 : (l.set k { x with kind := y.kind })[k]? = some { x with kind := y.kind } := set_get hk
  have s1 := own_set (u := .int .i64 y.frm) s0 hg (hlen _ (by simp) 1 (by decide))
  rw [flat_set tmW _ k 1 _ { x with kind := y.kind, frm := y.frm } _ k1 (by decide) rfl, List.set_set] at s1
  have k2 : (l.set k { x with kind := y.kind, frm := y.frm })[k]? = some { x with kind := y.kind, frm := y.frm } := set_get hk
  have s2 := own_set (u := .int .i64 y.to) s1 hg (hlen _ (by simp) 2 (by decide))
  rw [flat_set tmW _ k 2 _ { x with kind := y.kind, frm := y.frm, to := y.to } _ k2 (by decide) rfl, List.set_set] at s2
  have k3 : (l.set k { x with kind := y.kind, frm := y.frm, to := y.to })[k]? = some { x with kind := y.kind, frm := y.frm, to := y.to } := set_get hk
  have s3 := own_set (u := .int .i64 y.number) s2 hg (hlen _ (by simp) 3 (by decide))
  rw [flat_set tmW _ k 3 _ { x with kind := y.kind, frm := y.frm, to := y.to, number := y.number } _ k3 (by decide) rfl, List.set_set] at s3
  have k4 : (l.set k { x with kind := y.kind, frm := y.frm, to := y.to, number := y.number })[k]? = some { x with kind := y.kind, frm := y.frm, to := y.to, number := y.number } := set_get hk
  have s4 := own_set (u := strV y.text) s3 hg (hlen _ (by simp) 4 (by decide))
  rw [flat_set tmW _ k 4 _ y _ k4 (by decide) rfl, List.set_set] at s4
  exact s4

theorem marks_step (X : Int) (l : List Tm) (k : Nat) (h : k < l.length) : (List.replicate k (mkM X) ++ l.drop k).set k (mkM X) = List.replicate (k + 1) (mkM X) ++ l.drop (k + 1) := by
  rw [List.set_append_right _ _ (by simp), List.length_replicate, Nat.sub_self, List.replicate_succ', List.append_assoc]
  congr 1
  rw [List.drop_eq_getElem_cons h]
  rfl

theorem tm_at {w : World} {o : Option Addr} {e n c : Nat} {l : List Tm} (h : w.ownsRow 0 e 5 (.slice o n c) n (l.flatMap tmC)) {k : Nat} {x : Tm} (hk : l[k]? = some x) :
    ∃ g, o = some ⟨g, 0, none⟩ ∧ g < w.heap.size ∧ (∀ j, j < 5 → w.cell? ⟨g, k * 5 + j, none⟩ = (tmC x)[j]?) ∧ ∀ j, w.frozen? ⟨g, j, none⟩ = false := by
  have hk' : k < l.length := (List.getElem?_eq_some_iff.1 hk).1
  have hl := h.1
  rw [flat_len tmW] at hl
  rcases h.2 with ⟨hx, h0⟩ | ⟨g, cap, cur, hx, hb, hgg, h1, h2, h3, h4⟩
  · omega
  · simp only [Value.slice.injEq] at hx
    obtain ⟨rfl, _, rfl⟩ := hx
    refine ⟨g, rfl, lt_of_heap hgg, fun j hj => ?_, fun j => (row_facts hgg).2 j⟩
    have e := flat_get tmW l k j x hk hj
    have hlen : j < (tmC x).length := by rw [tmW]; exact hj
    rw [List.getElem?_eq_getElem hlen] at e ⊢
    exact own_cell h rfl e
end Go.Proofs.YtnniimfinakioaaGreatDoor
