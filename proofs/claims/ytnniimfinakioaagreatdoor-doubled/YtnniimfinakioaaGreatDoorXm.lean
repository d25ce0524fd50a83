import Derived.Test.YtnniimfinakioaaGreatDoorXl
namespace Go.Proofs.YtnniimfinakioaaGreatDoor
open Go.RowKit
attribute [local go_sem ↓] eqTok eqEnt
attribute [local go_sem] toList_nm app_nm size_nm

set_option maxHeartbeats 2000000 in
set_option maxRecDepth 100000 in
theorem step_none {RX : World → (Nat → Prop) → Nat → Wd → Prop} (B : Nat) (w : World) (O : Nat → Nat) (q : Nat) (vW : Value) (ws : List (Nat × Nat)) (Ws : List Wd) (nt nn : Nat) (h : TopR RX B w O q vW ws Ws nt nn) (hws : ws.length = 0) (k c a b : Int) (s : Nm) (hk : ¬ k = 1) :
    Calls Tryz.prog 40 #[ptr q, opV k c a b s] w fun e w' => e = .returned (.bool true) ∧ Below w.heap.size w w' := by
  have hb0 : Below w.heap.size w (w.alloc (.cells #[.int .i64 k, .int .i64 c, .int .i64 a, .int .i64 b, strV s] 78)) := (Below.refl _ _).alloc (Nat.le_refl _) _
  have HB0 := hide hb0
  have hk1 : (k == 1) = false := by simpa using hk
  obtain ⟨rW, sq, fq, cq, lq, nq⟩ := h.law.rowW
  obtain ⟨oW, cW, rfl, _, _⟩ := own_form rW
  rw [hws] at cq
  have hq : (w.alloc (.cells #[.int .i64 k, .int .i64 c, .int .i64 a, .int .i64 b, strV s] 78)).cell? ⟨q, 0, none⟩ = some (.slice oW 0 cW) := by
    rw [hb0.cell (p := ⟨q, 0, none⟩) lq]; exact cq
  clear fq hb0
  go_enter Tryz.func40, Tryz.ntmps40
  go_wp2_with fail
  go_ret
  exact ⟨rfl, HB0.out⟩

theorem pick_at {c : Int} {n K : Nat} (hK : pickN c n = K) (w : World) (hn : 0 < n) (hn2 : n ≤ 1000000000) (h1 : -9223372036854775808 ≤ c) (h2 : c ≤ 9223372036854775807) : Calls Tryz.prog 73 #[.int .i64 c, .int .i64 n] w fun e w' => e = .returned (.int .i64 K) ∧ w = w' := by
  subst hK; exact pick_any c n w hn hn2 h1 h2
theorem pair_at {w : World} {n c : Nat} {o : Option Addr} {l : List (Nat × Nat)} (h : w.ownsRow 0 128 2 (.slice o n c) n (l.flatMap pairC)) {k : Nat} {x : Nat × Nat} (hk : l[k]? = some x) :
    ∃ g, o = some ⟨g, 0, none⟩ ∧ g < w.heap.size ∧ w.cell? ⟨g, k * 2, none⟩ = some (ptr x.1) ∧ w.cell? ⟨g, k * 2 + 1, none⟩ = some (ptr x.2) := by
  have hk' : k < l.length := (List.getElem?_eq_some_iff.1 hk).1
  have hl := h.1
  rw [flat_len pairW] at hl
  rcases h.2 with ⟨hx, h0⟩ | ⟨g, cap, cur, hx, hb, hgg, h1, h2, h3, h4⟩
  · omega
  · simp only [Value.slice.injEq] at hx
    obtain ⟨rfl, _, rfl⟩ := hx
    have e0 := flat_get pairW l k 0 x hk (by decide)
    have e1 := flat_get pairW l k 1 x hk (by decide)
    exact ⟨g, rfl, lt_of_heap hgg, own_cell h rfl (by simpa [pairC] using e0), own_cell h rfl (by simpa [pairC] using e1)⟩

theorem LawS.lq {w : World} {SL ST : Nat → Prop} {q nt nn : Nat} {vW : Value} {ws : List (Nat × Nat)} (h : LawS w SL ST q vW ws nt nn) : q < w.heap.size := h.rowW.2.2.2.2.1
theorem TopR.more {RX : World → (Nat → Prop) → Nat → Wd → Prop} {w : World} {O : Nat → Nat} {B q nt nn nt' nn' : Nat} {vW : Value} {ws : List (Nat × Nat)} {Ws : List Wd} (h : TopR RX B w O q vW ws Ws nt nn) (h1 : nt ≤ nt') (h2 : nn ≤ nn') : TopR RX B w O q vW ws Ws nt' nn' :=
  ⟨h.law.more h1 h2, h.len, h.lt, h.hi, h.base, h.hB, h.two⟩
def StepD (RX : World → (Nat → Prop) → Nat → Wd → Prop) (B q nw nt nn : Nat) (w w' : World) : Prop := TopS RX B w' q (nw + 1) (nt + 4) (nn + 12) ∧ Below B w w'


set_option maxHeartbeats 4000000 in
set_option maxRecDepth 100000 in
theorem step_add {RX : World → (Nat → Prop) → Nat → Wd → Prop} {late : Prop} (OX : ProgOpsG late RX) (B : Nat) (w : World) (O : Nat → Nat) (q : Nat) (vW : Value) (ws : List (Nat × Nat)) (Ws : List Wd) (nt nn : Nat) (h : TopR RX B w O q vW ws Ws nt nn) (hws : 0 < ws.length) (hws2 : ws.length ≤ 1000000000) (c a b : Int) (s : Nm) (hc1 : -9223372036854775808 ≤ c) (hc2 : c ≤ 9223372036854775807) (hs : s.length ≤ 2000000) :
    Calls Tryz.prog 40 #[ptr q, opV 2 c a b s] w fun e w' => e = .returned (.bool true) ∧ StepD RX B q ws.length nt nn w w' := by
  have hb0 : Below w.heap.size w (w.alloc (.cells #[.int .i64 2, .int .i64 c, .int .i64 a, .int .i64 b, strV s] 78)) := (Below.refl _ _).alloc (Nat.le_refl _) _
  have q0 := heap_alloc_new w (.cells #[.int .i64 2, .int .i64 c, .int .i64 a, .int .i64 b, strV s] 78)
  have HB0 := hide hb0
  have Q0 := hide q0
  obtain ⟨K, hK⟩ : ∃ K, pickN c ws.length = K := ⟨_, rfl⟩
  have hKlt : K < ws.length := by rw [← hK]; exact Nat.mod_lt _ hws
  obtain ⟨⟨x, y⟩, hp⟩ := get_some hKlt
  obtain ⟨rW, sq, fq, cq, lq, nq⟩ := h.law.rowW
  obtain ⟨oW, cW, rfl, _, _⟩ := own_form rW
  obtain ⟨g, rfl, hg, cx, cy⟩ := pair_at rW hp
  have hl0 : ((ws.length : Int) == 0) = false := by
    have : ws.length ≠ 0 := by omega
    simpa using this
  have hq : (w.alloc (.cells #[.int .i64 2, .int .i64 c, .int .i64 a, .int .i64 b, strV s] 78)).cell? ⟨q, 0, none⟩ = some (.slice (some ⟨g, 0, none⟩) ws.length cW) := by
    rw [hb0.cell (p := ⟨q, 0, none⟩) lq]; exact cq
  have hx : (w.alloc (.cells #[.int .i64 2, .int .i64 c, .int .i64 a, .int .i64 b, strV s] 78)).cell? ⟨g, K * 2, none⟩ = some (ptr x) := by
    rw [hb0.cell (p := ⟨g, K * 2, none⟩) hg]; exact cx
  have hy : (w.alloc (.cells #[.int .i64 2, .int .i64 c, .int .i64 a, .int .i64 b, strV s] 78)).cell? ⟨g, K * 2 + 1, none⟩ = some (ptr y) := by
    rw [hb0.cell (p := ⟨g, K * 2 + 1, none⟩) hg]; exact cy
  have i1 : (0 : Int) ≤ (K : Int) := by omega
  have i2 : (K : Int) < (ws.length : Int) := by omega
  have Hp := hide hp
  have Hx := hide hx
  have Hy := hide hy
  have HK := hide hK
  clear fq hb0 q0 cq cx cy hp hx hy hK
  go_enter Tryz.func40, Tryz.ntmps40
  go_wp2_with fail
  generalize w.alloc (.cells #[.int .i64 2, .int .i64 c, .int .i64 a, .int .i64 b, strV s] 78) = w0 at *
  have hx := Hx.out
  have hy := Hy.out
  have hc : w0.cell? ⟨w.heap.size, 1, none⟩ = some (.int .i64 c) := by
    have := (row_facts Q0.out).1 1
    simpa using this
  have n1 := World.new_ne w0 _ hq
  have n2 := World.new_ne w0 _ hx
  have n3 := World.new_ne w0 _ hy
  have n4 := World.new_ne w0 _ hc
  go_region_held3 (fun w' => w'.cell? ⟨q, 0, none⟩ = some (.slice (some ⟨g, 0, none⟩) ws.length cW) ∧ w'.cell? ⟨w.heap.size, 1, none⟩ = some (.int .i64 c) ∧ w'.cell? ⟨g, K * 2, none⟩ = some (ptr x) ∧ w'.cell? ⟨g, K * 2 + 1, none⟩ = some (ptr y)) (go_keep)
    (first | (go_at_call 73; refine (pick_at HK.out _ hws hws2 hc1 hc2).mono ?_; rintro e w' ⟨rfl, rfl⟩))
  all_goals
    have bp : Below w.heap.size w (w0.alloc (.cells #[ptr x, ptr y] 128)).drew := (HB0.out.alloc HB0.out.size _).drew
    have g1 : (w0.alloc (.cells #[ptr x, ptr y] 128)).drew.heap[w.heap.size]? = _ := alloc_at Q0.out _
    have g2 : (w0.alloc (.cells #[ptr x, ptr y] 128)).drew.heap[w0.heap.size]? = _ := heap_alloc_new w0 _
    have hE := Nat.lt_of_lt_of_le hKlt (Nat.le_of_eq h.len)
    obtain ⟨W, hW⟩ := get_some hE
    have HW := hide hW
    clear hq hx hy hc n1 n2 n3 n4 Hx Hy hW hE
    generalize (w0.alloc (.cells #[ptr x, ptr y] 128)).drew = wp at *
    obtain ⟨e1, _⟩ := row_facts g1
    obtain ⟨e2, _⟩ := row_facts g2
    have hT := h.below OX bp
    have t2 := hT.two K (x, y) W Hp.out HW.out
    have HT := hide hT
    clear hT g1 g2
    go_wp2_with fail
  all_goals
    refine (moves_add OX wp _ _ x y W t2 c a b s hs).mono ?_
    rintro e w5 ⟨rfl, d⟩
    clear e1 e2
    go_wp2_with fail
    go_ret
    obtain ⟨O', Ws', ht, hbb⟩ := HT.out.moved OX Hp.out d
    exact ⟨rfl, ⟨O', _, ws, Ws', ht.more (by omega) (by omega), by omega⟩, (bp.mono h.hB).trans hbb⟩

set_option maxHeartbeats 4000000 in
set_option maxRecDepth 100000 in
theorem step_remove {RX : World → (Nat → Prop) → Nat → Wd → Prop} {late : Prop} (OX : ProgOpsG late RX) (B : Nat) (w : World) (O : Nat → Nat) (q : Nat) (vW : Value) (ws : List (Nat × Nat)) (Ws : List Wd) (nt nn : Nat) (h : TopR RX B w O q vW ws Ws nt nn) (hws : 0 < ws.length) (hws2 : ws.length ≤ 1000000000) (c a b : Int) (s : Nm) (hc1 : -9223372036854775808 ≤ c) (hc2 : c ≤ 9223372036854775807) (hs : s.length ≤ 2000000) :
    Calls Tryz.prog 40 #[ptr q, opV 3 c a b s] w fun e w' => e = .returned (.bool true) ∧ StepD RX B q ws.length nt nn w w' := by
  have hb0 : Below w.heap.size w (w.alloc (.cells #[.int .i64 3, .int .i64 c, .int .i64 a, .int .i64 b, strV s] 78)) := (Below.refl _ _).alloc (Nat.le_refl _) _
  have q0 := heap_alloc_new w (.cells #[.int .i64 3, .int .i64 c, .int .i64 a, .int .i64 b, strV s] 78)
  have HB0 := hide hb0
  have Q0 := hide q0
  obtain ⟨K, hK⟩ : ∃ K, pickN c ws.length = K := ⟨_, rfl⟩
  have hKlt : K < ws.length := by rw [← hK]; exact Nat.mod_lt _ hws
  obtain ⟨⟨x, y⟩, hp⟩ := get_some hKlt
  obtain ⟨rW, sq, fq, cq, lq, nq⟩ := h.law.rowW
  obtain ⟨oW, cW, rfl, _, _⟩ := own_form rW
  obtain ⟨g, rfl, hg, cx, cy⟩ := pair_at rW hp
  have hl0 : ((ws.length : Int) == 0) = false := by
    have : ws.length ≠ 0 := by omega
    simpa using this
  have hq : (w.alloc (.cells #[.int .i64 3, .int .i64 c, .int .i64 a, .int .i64 b, strV s] 78)).cell? ⟨q, 0, none⟩ = some (.slice (some ⟨g, 0, none⟩) ws.length cW) := by
    rw [hb0.cell (p := ⟨q, 0, none⟩) lq]; exact cq
  have hx : (w.alloc (.cells #[.int .i64 3, .int .i64 c, .int .i64 a, .int .i64 b, strV s] 78)).cell? ⟨g, K * 2, none⟩ = some (ptr x) := by
    rw [hb0.cell (p := ⟨g, K * 2, none⟩) hg]; exact cx
  have hy : (w.alloc (.cells #[.int .i64 3, .int .i64 c, .int .i64 a, .int .i64 b, strV s] 78)).cell? ⟨g, K * 2 + 1, none⟩ = some (ptr y) := by
    rw [hb0.cell (p := ⟨g, K * 2 + 1, none⟩) hg]; exact cy
  have i1 : (0 : Int) ≤ (K : Int) := by omega
  have i2 : (K : Int) < (ws.length : Int) := by omega
  have Hp := hide hp
  have Hx := hide hx
  have Hy := hide hy
  have HK := hide hK
  clear fq hb0 q0 cq cx cy hp hx hy hK
  go_enter Tryz.func40, Tryz.ntmps40
  go_wp2_with fail
  generalize w.alloc (.cells #[.int .i64 3, .int .i64 c, .int .i64 a, .int .i64 b, strV s] 78) = w0 at *
  have hx := Hx.out
  have hy := Hy.out
  have hc : w0.cell? ⟨w.heap.size, 1, none⟩ = some (.int .i64 c) := by
    have := (row_facts Q0.out).1 1
    simpa using this
  have n1 := World.new_ne w0 _ hq
  have n2 := World.new_ne w0 _ hx
  have n3 := World.new_ne w0 _ hy
  have n4 := World.new_ne w0 _ hc
  go_region_held3 (fun w' => w'.cell? ⟨q, 0, none⟩ = some (.slice (some ⟨g, 0, none⟩) ws.length cW) ∧ w'.cell? ⟨w.heap.size, 1, none⟩ = some (.int .i64 c) ∧ w'.cell? ⟨g, K * 2, none⟩ = some (ptr x) ∧ w'.cell? ⟨g, K * 2 + 1, none⟩ = some (ptr y)) (go_keep)
    (first | (go_at_call 73; refine (pick_at HK.out _ hws hws2 hc1 hc2).mono ?_; rintro e w' ⟨rfl, rfl⟩))
  all_goals
    have bp : Below w.heap.size w (w0.alloc (.cells #[ptr x, ptr y] 128)).drew := (HB0.out.alloc HB0.out.size _).drew
    have g1 : (w0.alloc (.cells #[ptr x, ptr y] 128)).drew.heap[w.heap.size]? = _ := alloc_at Q0.out _
    have g2 : (w0.alloc (.cells #[ptr x, ptr y] 128)).drew.heap[w0.heap.size]? = _ := heap_alloc_new w0 _
    have hE := Nat.lt_of_lt_of_le hKlt (Nat.le_of_eq h.len)
    obtain ⟨W, hW⟩ := get_some hE
    have HW := hide hW
    clear hq hx hy hc n1 n2 n3 n4 Hx Hy hW hE
    generalize (w0.alloc (.cells #[ptr x, ptr y] 128)).drew = wp at *
    obtain ⟨e1, _⟩ := row_facts g1
    obtain ⟨e2, _⟩ := row_facts g2
    have hT := h.below OX bp
    have t2 := hT.two K (x, y) W Hp.out HW.out
    have HT := hide hT
    clear hT g1 g2
    go_wp2_with fail
  all_goals
    refine (moves_remove OX wp _ _ x y W t2 c a b s hs).mono ?_
    rintro e w5 ⟨rfl, d⟩
    clear e1 e2
    go_wp2_with fail
    go_ret
    obtain ⟨O', Ws', ht, hbb⟩ := HT.out.moved OX Hp.out d
    exact ⟨rfl, ⟨O', _, ws, Ws', ht.more (by omega) (by omega), by omega⟩, (bp.mono h.hB).trans hbb⟩

set_option maxHeartbeats 4000000 in
set_option maxRecDepth 100000 in
theorem step_clear {RX : World → (Nat → Prop) → Nat → Wd → Prop} {late : Prop} (OX : ProgOpsG late RX) (B : Nat) (w : World) (O : Nat → Nat) (q : Nat) (vW : Value) (ws : List (Nat × Nat)) (Ws : List Wd) (nt nn : Nat) (h : TopR RX B w O q vW ws Ws nt nn) (hws : 0 < ws.length) (hws2 : ws.length ≤ 1000000000) (c a b : Int) (s : Nm) (hc1 : -9223372036854775808 ≤ c) (hc2 : c ≤ 9223372036854775807) :
    Calls Tryz.prog 40 #[ptr q, opV 4 c a b s] w fun e w' => e = .returned (.bool true) ∧ StepD RX B q ws.length nt nn w w' := by
  have hb0 : Below w.heap.size w (w.alloc (.cells #[.int .i64 4, .int .i64 c, .int .i64 a, .int .i64 b, strV s] 78)) := (Below.refl _ _).alloc (Nat.le_refl _) _
  have q0 := heap_alloc_new w (.cells #[.int .i64 4, .int .i64 c, .int .i64 a, .int .i64 b, strV s] 78)
  have HB0 := hide hb0
  have Q0 := hide q0
  obtain ⟨K, hK⟩ : ∃ K, pickN c ws.length = K := ⟨_, rfl⟩
  have hKlt : K < ws.length := by rw [← hK]; exact Nat.mod_lt _ hws
  obtain ⟨⟨x, y⟩, hp⟩ := get_some hKlt
  obtain ⟨rW, sq, fq, cq, lq, nq⟩ := h.law.rowW
  obtain ⟨oW, cW, rfl, _, _⟩ := own_form rW
  obtain ⟨g, rfl, hg, cx, cy⟩ := pair_at rW hp
  have hl0 : ((ws.length : Int) == 0) = false := by
    have : ws.length ≠ 0 := by omega
    simpa using this
  have hq : (w.alloc (.cells #[.int .i64 4, .int .i64 c, .int .i64 a, .int .i64 b, strV s] 78)).cell? ⟨q, 0, none⟩ = some (.slice (some ⟨g, 0, none⟩) ws.length cW) := by
    rw [hb0.cell (p := ⟨q, 0, none⟩) lq]; exact cq
  have hx : (w.alloc (.cells #[.int .i64 4, .int .i64 c, .int .i64 a, .int .i64 b, strV s] 78)).cell? ⟨g, K * 2, none⟩ = some (ptr x) := by
    rw [hb0.cell (p := ⟨g, K * 2, none⟩) hg]; exact cx
  have hy : (w.alloc (.cells #[.int .i64 4, .int .i64 c, .int .i64 a, .int .i64 b, strV s] 78)).cell? ⟨g, K * 2 + 1, none⟩ = some (ptr y) := by
    rw [hb0.cell (p := ⟨g, K * 2 + 1, none⟩) hg]; exact cy
  have i1 : (0 : Int) ≤ (K : Int) := by omega
  have i2 : (K : Int) < (ws.length : Int) := by omega
  have Hp := hide hp
  have Hx := hide hx
  have Hy := hide hy
  have HK := hide hK
  clear fq hb0 q0 cq cx cy hp hx hy hK
  go_enter Tryz.func40, Tryz.ntmps40
  go_wp2_with fail
  generalize w.alloc (.cells #[.int .i64 4, .int .i64 c, .int .i64 a, .int .i64 b, strV s] 78) = w0 at *
  have hx := Hx.out
  have hy := Hy.out
  have hc : w0.cell? ⟨w.heap.size, 1, none⟩ = some (.int .i64 c) := by
    have := (row_facts Q0.out).1 1
    simpa using this
  have n1 := World.new_ne w0 _ hq
  have n2 := World.new_ne w0 _ hx
  have n3 := World.new_ne w0 _ hy
  have n4 := World.new_ne w0 _ hc
  go_region_held3 (fun w' => w'.cell? ⟨q, 0, none⟩ = some (.slice (some ⟨g, 0, none⟩) ws.length cW) ∧ w'.cell? ⟨w.heap.size, 1, none⟩ = some (.int .i64 c) ∧ w'.cell? ⟨g, K * 2, none⟩ = some (ptr x) ∧ w'.cell? ⟨g, K * 2 + 1, none⟩ = some (ptr y)) (go_keep)
    (first | (go_at_call 73; refine (pick_at HK.out _ hws hws2 hc1 hc2).mono ?_; rintro e w' ⟨rfl, rfl⟩))
  all_goals
    have bp : Below w.heap.size w (w0.alloc (.cells #[ptr x, ptr y] 128)).drew := (HB0.out.alloc HB0.out.size _).drew
    have g1 : (w0.alloc (.cells #[ptr x, ptr y] 128)).drew.heap[w.heap.size]? = _ := alloc_at Q0.out _
    have g2 : (w0.alloc (.cells #[ptr x, ptr y] 128)).drew.heap[w0.heap.size]? = _ := heap_alloc_new w0 _
    have hE := Nat.lt_of_lt_of_le hKlt (Nat.le_of_eq h.len)
    obtain ⟨W, hW⟩ := get_some hE
    have HW := hide hW
    clear hq hx hy hc n1 n2 n3 n4 Hx Hy hW hE
    generalize (w0.alloc (.cells #[ptr x, ptr y] 128)).drew = wp at *
    obtain ⟨e1, _⟩ := row_facts g1
    obtain ⟨e2, _⟩ := row_facts g2
    have hT := h.below OX bp
    have t2 := hT.two K (x, y) W Hp.out HW.out
    have HT := hide hT
    clear hT g1 g2
    go_wp2_with fail
  all_goals
    refine (moves_clear OX wp _ _ x y W t2 c a b s).mono ?_
    rintro e w5 ⟨rfl, d⟩
    clear e1 e2
    go_wp2_with fail
    go_ret
    obtain ⟨O', Ws', ht, hbb⟩ := HT.out.moved OX Hp.out d
    exact ⟨rfl, ⟨O', _, ws, Ws', ht.more (by omega) (by omega), by omega⟩, (bp.mono h.hB).trans hbb⟩

set_option maxHeartbeats 4000000 in
set_option maxRecDepth 100000 in
theorem step_items {RX : World → (Nat → Prop) → Nat → Wd → Prop} {late : Prop} (OX : ProgOpsG late RX) (B : Nat) (w : World) (O : Nat → Nat) (q : Nat) (vW : Value) (ws : List (Nat × Nat)) (Ws : List Wd) (nt nn : Nat) (h : TopR RX B w O q vW ws Ws nt nn) (hws : 0 < ws.length) (hws2 : ws.length ≤ 1000000000) (c a b : Int) (s : Nm) (hc1 : -9223372036854775808 ≤ c) (hc2 : c ≤ 9223372036854775807) (h1 : nt ≤ 1000000000) (h2 : nn ≤ 900000000) :
    Calls Tryz.prog 40 #[ptr q, opV 5 c a b s] w fun e w' => e = .returned (.bool true) ∧ StepD RX B q ws.length nt nn w w' := by
  have hb0 : Below w.heap.size w (w.alloc (.cells #[.int .i64 5, .int .i64 c, .int .i64 a, .int .i64 b, strV s] 78)) := (Below.refl _ _).alloc (Nat.le_refl _) _
  have q0 := heap_alloc_new w (.cells #[.int .i64 5, .int .i64 c, .int .i64 a, .int .i64 b, strV s] 78)
  have HB0 := hide hb0
  have Q0 := hide q0
  obtain ⟨K, hK⟩ : ∃ K, pickN c ws.length = K := ⟨_, rfl⟩
  have hKlt : K < ws.length := by rw [← hK]; exact Nat.mod_lt _ hws
  obtain ⟨⟨x, y⟩, hp⟩ := get_some hKlt
  obtain ⟨rW, sq, fq, cq, lq, nq⟩ := h.law.rowW
  obtain ⟨oW, cW, rfl, _, _⟩ := own_form rW
  obtain ⟨g, rfl, hg, cx, cy⟩ := pair_at rW hp
  have hl0 : ((ws.length : Int) == 0) = false := by
    have : ws.length ≠ 0 := by omega
    simpa using this
  have hq : (w.alloc (.cells #[.int .i64 5, .int .i64 c, .int .i64 a, .int .i64 b, strV s] 78)).cell? ⟨q, 0, none⟩ = some (.slice (some ⟨g, 0, none⟩) ws.length cW) := by
    rw [hb0.cell (p := ⟨q, 0, none⟩) lq]; exact cq
  have hx : (w.alloc (.cells #[.int .i64 5, .int .i64 c, .int .i64 a, .int .i64 b, strV s] 78)).cell? ⟨g, K * 2, none⟩ = some (ptr x) := by
    rw [hb0.cell (p := ⟨g, K * 2, none⟩) hg]; exact cx
  have hy : (w.alloc (.cells #[.int .i64 5, .int .i64 c, .int .i64 a, .int .i64 b, strV s] 78)).cell? ⟨g, K * 2 + 1, none⟩ = some (ptr y) := by
    rw [hb0.cell (p := ⟨g, K * 2 + 1, none⟩) hg]; exact cy
  have i1 : (0 : Int) ≤ (K : Int) := by omega
  have i2 : (K : Int) < (ws.length : Int) := by omega
  have Hp := hide hp
  have Hx := hide hx
  have Hy := hide hy
  have HK := hide hK
  clear fq hb0 q0 cq cx cy hp hx hy hK
  go_enter Tryz.func40, Tryz.ntmps40
  go_wp2_with fail
  generalize w.alloc (.cells #[.int .i64 5, .int .i64 c, .int .i64 a, .int .i64 b, strV s] 78) = w0 at *
  have hx := Hx.out
  have hy := Hy.out
  have hc : w0.cell? ⟨w.heap.size, 1, none⟩ = some (.int .i64 c) := by
    have := (row_facts Q0.out).1 1
    simpa using this
  have n1 := World.new_ne w0 _ hq
  have n2 := World.new_ne w0 _ hx
  have n3 := World.new_ne w0 _ hy
  have n4 := World.new_ne w0 _ hc
  go_region_held3 (fun w' => w'.cell? ⟨q, 0, none⟩ = some (.slice (some ⟨g, 0, none⟩) ws.length cW) ∧ w'.cell? ⟨w.heap.size, 1, none⟩ = some (.int .i64 c) ∧ w'.cell? ⟨g, K * 2, none⟩ = some (ptr x) ∧ w'.cell? ⟨g, K * 2 + 1, none⟩ = some (ptr y)) (go_keep)
    (first | (go_at_call 73; refine (pick_at HK.out _ hws hws2 hc1 hc2).mono ?_; rintro e w' ⟨rfl, rfl⟩))
  all_goals
    have bp : Below w.heap.size w (w0.alloc (.cells #[ptr x, ptr y] 128)).drew := (HB0.out.alloc HB0.out.size _).drew
    have g1 : (w0.alloc (.cells #[ptr x, ptr y] 128)).drew.heap[w.heap.size]? = _ := alloc_at Q0.out _
    have g2 : (w0.alloc (.cells #[ptr x, ptr y] 128)).drew.heap[w0.heap.size]? = _ := heap_alloc_new w0 _
    have hE := Nat.lt_of_lt_of_le hKlt (Nat.le_of_eq h.len)
    obtain ⟨W, hW⟩ := get_some hE
    have HW := hide hW
    clear hq hx hy hc n1 n2 n3 n4 Hx Hy hW hE
    generalize (w0.alloc (.cells #[ptr x, ptr y] 128)).drew = wp at *
    obtain ⟨e1, _⟩ := row_facts g1
    obtain ⟨e2, _⟩ := row_facts g2
    have hT := h.below OX bp
    have t2 := hT.two K (x, y) W Hp.out HW.out
    have HT := hide hT
    clear hT g1 g2
    go_wp2_with fail
  all_goals
    refine (asks_items OX wp _ _ _ _ q x y W t2 _ ws nt nn HT.out.law h1 (Nat.le_trans h2 (by decide)) c a b s).mono ?_
    rintro e w5 ⟨rfl, d⟩
    clear e1 e2
    go_wp2_with fail
    go_ret
    obtain ⟨O', ht, hbb⟩ := HT.out.asked OX d
    exact ⟨rfl, ⟨O', _, ws, Ws, ht, by omega⟩, (bp.mono h.hB).trans hbb⟩

set_option maxHeartbeats 4000000 in
set_option maxRecDepth 100000 in
theorem step_text {RX : World → (Nat → Prop) → Nat → Wd → Prop} {late : Prop} (OX : ProgOpsG late RX) (B : Nat) (w : World) (O : Nat → Nat) (q : Nat) (vW : Value) (ws : List (Nat × Nat)) (Ws : List Wd) (nt nn : Nat) (h : TopR RX B w O q vW ws Ws nt nn) (hws : 0 < ws.length) (hws2 : ws.length ≤ 1000000000) (c a b : Int) (s : Nm) (hc1 : -9223372036854775808 ≤ c) (hc2 : c ≤ 9223372036854775807) :
    Calls Tryz.prog 40 #[ptr q, opV 6 c a b s] w fun e w' => e = .returned (.bool true) ∧ StepD RX B q ws.length nt nn w w' := by
  have hb0 : Below w.heap.size w (w.alloc (.cells #[.int .i64 6, .int .i64 c, .int .i64 a, .int .i64 b, strV s] 78)) := (Below.refl _ _).alloc (Nat.le_refl _) _
  have q0 := heap_alloc_new w (.cells #[.int .i64 6, .int .i64 c, .int .i64 a, .int .i64 b, strV s] 78)
  have HB0 := hide hb0
  have Q0 := hide q0
  obtain ⟨K, hK⟩ : ∃ K, pickN c ws.length = K := ⟨_, rfl⟩
  have hKlt : K < ws.length := by rw [← hK]; exact Nat.mod_lt _ hws
  obtain ⟨⟨x, y⟩, hp⟩ := get_some hKlt
  obtain ⟨rW, sq, fq, cq, lq, nq⟩ := h.law.rowW
  obtain ⟨oW, cW, rfl, _, _⟩ := own_form rW
  obtain ⟨g, rfl, hg, cx, cy⟩ := pair_at rW hp
  have hl0 : ((ws.length : Int) == 0) = false := by
    have : ws.length ≠ 0 := by omega
    simpa using this
  have hq : (w.alloc (.cells #[.int .i64 6, .int .i64 c, .int .i64 a, .int .i64 b, strV s] 78)).cell? ⟨q, 0, none⟩ = some (.slice (some ⟨g, 0, none⟩) ws.length cW) := by
    rw [hb0.cell (p := ⟨q, 0, none⟩) lq]; exact cq
  have hx : (w.alloc (.cells #[.int .i64 6, .int .i64 c, .int .i64 a, .int .i64 b, strV s] 78)).cell? ⟨g, K * 2, none⟩ = some (ptr x) := by
    rw [hb0.cell (p := ⟨g, K * 2, none⟩) hg]; exact cx
  have hy : (w.alloc (.cells #[.int .i64 6, .int .i64 c, .int .i64 a, .int .i64 b, strV s] 78)).cell? ⟨g, K * 2 + 1, none⟩ = some (ptr y) := by
    rw [hb0.cell (p := ⟨g, K * 2 + 1, none⟩) hg]; exact cy
  have i1 : (0 : Int) ≤ (K : Int) := by omega
  have i2 : (K : Int) < (ws.length : Int) := by omega
  have Hp := hide hp
  have Hx := hide hx
  have Hy := hide hy
  have HK := hide hK
  clear fq hb0 q0 cq cx cy hp hx hy hK
  go_enter Tryz.func40, Tryz.ntmps40
  go_wp2_with fail
  generalize w.alloc (.cells #[.int .i64 6, .int .i64 c, .int .i64 a, .int .i64 b, strV s] 78) = w0 at *
  have hx := Hx.out
  have hy := Hy.out
  have hc : w0.cell? ⟨w.heap.size, 1, none⟩ = some (.int .i64 c) := by
    have := (row_facts Q0.out).1 1
    simpa using this
  have n1 := World.new_ne w0 _ hq
  have n2 := World.new_ne w0 _ hx
  have n3 := World.new_ne w0 _ hy
  have n4 := World.new_ne w0 _ hc
  go_region_held3 (fun w' => w'.cell? ⟨q, 0, none⟩ = some (.slice (some ⟨g, 0, none⟩) ws.length cW) ∧ w'.cell? ⟨w.heap.size, 1, none⟩ = some (.int .i64 c) ∧ w'.cell? ⟨g, K * 2, none⟩ = some (ptr x) ∧ w'.cell? ⟨g, K * 2 + 1, none⟩ = some (ptr y)) (go_keep)
    (first | (go_at_call 73; refine (pick_at HK.out _ hws hws2 hc1 hc2).mono ?_; rintro e w' ⟨rfl, rfl⟩))
  all_goals
    have bp : Below w.heap.size w (w0.alloc (.cells #[ptr x, ptr y] 128)).drew := (HB0.out.alloc HB0.out.size _).drew
    have g1 : (w0.alloc (.cells #[ptr x, ptr y] 128)).drew.heap[w.heap.size]? = _ := alloc_at Q0.out _
    have g2 : (w0.alloc (.cells #[ptr x, ptr y] 128)).drew.heap[w0.heap.size]? = _ := heap_alloc_new w0 _
    have hE := Nat.lt_of_lt_of_le hKlt (Nat.le_of_eq h.len)
    obtain ⟨W, hW⟩ := get_some hE
    have HW := hide hW
    clear hq hx hy hc n1 n2 n3 n4 Hx Hy hW hE
    generalize (w0.alloc (.cells #[ptr x, ptr y] 128)).drew = wp at *
    obtain ⟨e1, _⟩ := row_facts g1
    obtain ⟨e2, _⟩ := row_facts g2
    have hT := h.below OX bp
    have t2 := hT.two K (x, y) W Hp.out HW.out
    have HT := hide hT
    clear hT g1 g2
    go_wp2_with fail
  all_goals
    refine (asks_text OX wp _ _ _ _ q x y W t2 _ ws nt nn HT.out.law c a b s).mono ?_
    rintro e w5 ⟨rfl, d⟩
    clear e1 e2
    go_wp2_with fail
    go_ret
    obtain ⟨O', ht, hbb⟩ := HT.out.asked OX d
    exact ⟨rfl, ⟨O', _, ws, Ws, ht, by omega⟩, (bp.mono h.hB).trans hbb⟩

set_option maxHeartbeats 4000000 in
set_option maxRecDepth 100000 in
theorem step_status {RX : World → (Nat → Prop) → Nat → Wd → Prop} {late : Prop} (OX : ProgOpsG late RX) (B : Nat) (w : World) (O : Nat → Nat) (q : Nat) (vW : Value) (ws : List (Nat × Nat)) (Ws : List Wd) (nt nn : Nat) (h : TopR RX B w O q vW ws Ws nt nn) (hws : 0 < ws.length) (hws2 : ws.length ≤ 1000000000) (c a b : Int) (s : Nm) (hc1 : -9223372036854775808 ≤ c) (hc2 : c ≤ 9223372036854775807) (h1 : nt ≤ 1000000000) (h2 : nn ≤ 900000000) :
    Calls Tryz.prog 40 #[ptr q, opV 7 c a b s] w fun e w' => e = .returned (.bool true) ∧ StepD RX B q ws.length nt nn w w' := by
  have hb0 : Below w.heap.size w (w.alloc (.cells #[.int .i64 7, .int .i64 c, .int .i64 a, .int .i64 b, strV s] 78)) := (Below.refl _ _).alloc (Nat.le_refl _) _
  have q0 := heap_alloc_new w (.cells #[.int .i64 7, .int .i64 c, .int .i64 a, .int .i64 b, strV s] 78)
  have HB0 := hide hb0
  have Q0 := hide q0
  obtain ⟨K, hK⟩ : ∃ K, pickN c ws.length = K := ⟨_, rfl⟩
  have hKlt : K < ws.length := by rw [← hK]; exact Nat.mod_lt _ hws
  obtain ⟨⟨x, y⟩, hp⟩ := get_some hKlt
  obtain ⟨rW, sq, fq, cq, lq, nq⟩ := h.law.rowW
  obtain ⟨oW, cW, rfl, _, _⟩ := own_form rW
  obtain ⟨g, rfl, hg, cx, cy⟩ := pair_at rW hp
  have hl0 : ((ws.length : Int) == 0) = false := by
    have : ws.length ≠ 0 := by omega
    simpa using this
  have hq : (w.alloc (.cells #[.int .i64 7, .int .i64 c, .int .i64 a, .int .i64 b, strV s] 78)).cell? ⟨q, 0, none⟩ = some (.slice (some ⟨g, 0, none⟩) ws.length cW) := by
    rw [hb0.cell (p := ⟨q, 0, none⟩) lq]; exact cq
  have hx : (w.alloc (.cells #[.int .i64 7, .int .i64 c, .int .i64 a, .int .i64 b, strV s] 78)).cell? ⟨g, K * 2, none⟩ = some (ptr x) := by
    rw [hb0.cell (p := ⟨g, K * 2, none⟩) hg]; exact cx
  have hy : (w.alloc (.cells #[.int .i64 7, .int .i64 c, .int .i64 a, .int .i64 b, strV s] 78)).cell? ⟨g, K * 2 + 1, none⟩ = some (ptr y) := by
    rw [hb0.cell (p := ⟨g, K * 2 + 1, none⟩) hg]; exact cy
  have i1 : (0 : Int) ≤ (K : Int) := by omega
  have i2 : (K : Int) < (ws.length : Int) := by omega
  have Hp := hide hp
  have Hx := hide hx
  have Hy := hide hy
  have HK := hide hK
  clear fq hb0 q0 cq cx cy hp hx hy hK
  go_enter Tryz.func40, Tryz.ntmps40
  go_wp2_with fail
  generalize w.alloc (.cells #[.int .i64 7, .int .i64 c, .int .i64 a, .int .i64 b, strV s] 78) = w0 at *
  have hx := Hx.out
  have hy := Hy.out
  have hc : w0.cell? ⟨w.heap.size, 1, none⟩ = some (.int .i64 c) := by
    have := (row_facts Q0.out).1 1
    simpa using this
  have n1 := World.new_ne w0 _ hq
  have n2 := World.new_ne w0 _ hx
  have n3 := World.new_ne w0 _ hy
  have n4 := World.new_ne w0 _ hc
  go_region_held3 (fun w' => w'.cell? ⟨q, 0, none⟩ = some (.slice (some ⟨g, 0, none⟩) ws.length cW) ∧ w'.cell? ⟨w.heap.size, 1, none⟩ = some (.int .i64 c) ∧ w'.cell? ⟨g, K * 2, none⟩ = some (ptr x) ∧ w'.cell? ⟨g, K * 2 + 1, none⟩ = some (ptr y)) (go_keep)
    (first | (go_at_call 73; refine (pick_at HK.out _ hws hws2 hc1 hc2).mono ?_; rintro e w' ⟨rfl, rfl⟩))
  all_goals
    have bp : Below w.heap.size w (w0.alloc (.cells #[ptr x, ptr y] 128)).drew := (HB0.out.alloc HB0.out.size _).drew
    have g1 : (w0.alloc (.cells #[ptr x, ptr y] 128)).drew.heap[w.heap.size]? = _ := alloc_at Q0.out _
    have g2 : (w0.alloc (.cells #[ptr x, ptr y] 128)).drew.heap[w0.heap.size]? = _ := heap_alloc_new w0 _
    have hE := Nat.lt_of_lt_of_le hKlt (Nat.le_of_eq h.len)
    obtain ⟨W, hW⟩ := get_some hE
    have HW := hide hW
    clear hq hx hy hc n1 n2 n3 n4 Hx Hy hW hE
    generalize (w0.alloc (.cells #[ptr x, ptr y] 128)).drew = wp at *
    obtain ⟨e1, _⟩ := row_facts g1
    obtain ⟨e2, _⟩ := row_facts g2
    have hT := h.below OX bp
    have t2 := hT.two K (x, y) W Hp.out HW.out
    have HT := hide hT
    clear hT g1 g2
    go_wp2_with fail
  all_goals
    refine (asks_status OX wp _ _ _ _ q x y W t2 _ ws nt nn HT.out.law h1 h2 c a b s).mono ?_
    rintro e w5 ⟨rfl, d⟩
    clear e1 e2
    go_wp2_with fail
    go_ret
    obtain ⟨O', ht, hbb⟩ := HT.out.asked OX d
    exact ⟨rfl, ⟨O', _, ws, Ws, ht, by omega⟩, (bp.mono h.hB).trans hbb⟩

set_option maxHeartbeats 4000000 in
set_option maxRecDepth 100000 in
theorem step_other {RX : World → (Nat → Prop) → Nat → Wd → Prop} {late : Prop} (OX : ProgOpsG late RX) (B : Nat) (w : World) (O : Nat → Nat) (q : Nat) (vW : Value) (ws : List (Nat × Nat)) (Ws : List Wd) (nt nn : Nat) (h : TopR RX B w O q vW ws Ws nt nn) (hws : 0 < ws.length) (hws2 : ws.length ≤ 1000000000) (k c a b : Int) (s : Nm) (hk : k ≤ 0) (hc1 : -9223372036854775808 ≤ c) (hc2 : c ≤ 9223372036854775807) :
    Calls Tryz.prog 40 #[ptr q, opV k c a b s] w fun e w' => e = .returned (.bool true) ∧ StepD RX B q ws.length nt nn w w' := by
  have ne : ∀ m : Int, 0 < m → (k == m) = false := fun m hm => by
    have : ¬ k = m := by omega
    simpa using this
  have k1 := ne 1 (by decide)
  have k2 := ne 2 (by decide)
  have k3 := ne 3 (by decide)
  have k4 := ne 4 (by decide)
  have k5 := ne 5 (by decide)
  have k6 := ne 6 (by decide)
  have k7 := ne 7 (by decide)
  have k8 := ne 8 (by decide)
  have k9 := ne 9 (by decide)
  have k10 := ne 10 (by decide)
  have k11 := ne 11 (by decide)
  have k12 := ne 12 (by decide)
  have k13 := ne 13 (by decide)
  have k14 := ne 14 (by decide)
  have k15 := ne 15 (by decide)
  clear ne
  have hb0 : Below w.heap.size w (w.alloc (.cells #[.int .i64 k, .int .i64 c, .int .i64 a, .int .i64 b, strV s] 78)) := (Below.refl _ _).alloc (Nat.le_refl _) _
  have q0 := heap_alloc_new w (.cells #[.int .i64 k, .int .i64 c, .int .i64 a, .int .i64 b, strV s] 78)
  have HB0 := hide hb0
  have Q0 := hide q0
  obtain ⟨K, hK⟩ : ∃ K, pickN c ws.length = K := ⟨_, rfl⟩
  have hKlt : K < ws.length := by rw [← hK]; exact Nat.mod_lt _ hws
  obtain ⟨⟨x, y⟩, hp⟩ := get_some hKlt
  obtain ⟨rW, sq, fq, cq, lq, nq⟩ := h.law.rowW
  obtain ⟨oW, cW, rfl, _, _⟩ := own_form rW
  obtain ⟨g, rfl, hg, cx, cy⟩ := pair_at rW hp
  have hl0 : ((ws.length : Int) == 0) = false := by
    have : ws.length ≠ 0 := by omega
    simpa using this
  have hq : (w.alloc (.cells #[.int .i64 k, .int .i64 c, .int .i64 a, .int .i64 b, strV s] 78)).cell? ⟨q, 0, none⟩ = some (.slice (some ⟨g, 0, none⟩) ws.length cW) := by
    rw [hb0.cell (p := ⟨q, 0, none⟩) lq]; exact cq
  have hx : (w.alloc (.cells #[.int .i64 k, .int .i64 c, .int .i64 a, .int .i64 b, strV s] 78)).cell? ⟨g, K * 2, none⟩ = some (ptr x) := by
    rw [hb0.cell (p := ⟨g, K * 2, none⟩) hg]; exact cx
  have hy : (w.alloc (.cells #[.int .i64 k, .int .i64 c, .int .i64 a, .int .i64 b, strV s] 78)).cell? ⟨g, K * 2 + 1, none⟩ = some (ptr y) := by
    rw [hb0.cell (p := ⟨g, K * 2 + 1, none⟩) hg]; exact cy
  have i1 : (0 : Int) ≤ (K : Int) := by omega
  have i2 : (K : Int) < (ws.length : Int) := by omega
  have Hp := hide hp
  have Hx := hide hx
  have Hy := hide hy
  have HK := hide hK
  clear fq hb0 q0 cq cx cy hp hx hy hK
  go_enter Tryz.func40, Tryz.ntmps40
  go_wp2_with fail
  generalize w.alloc (.cells #[.int .i64 k, .int .i64 c, .int .i64 a, .int .i64 b, strV s] 78) = w0 at *
  have hx := Hx.out
  have hy := Hy.out
  have hc : w0.cell? ⟨w.heap.size, 1, none⟩ = some (.int .i64 c) := by
    have := (row_facts Q0.out).1 1
    simpa using this
  have n1 := World.new_ne w0 _ hq
  have n2 := World.new_ne w0 _ hx
  have n3 := World.new_ne w0 _ hy
  have n4 := World.new_ne w0 _ hc
  go_region_held3 (fun w' => w'.cell? ⟨q, 0, none⟩ = some (.slice (some ⟨g, 0, none⟩) ws.length cW) ∧ w'.cell? ⟨w.heap.size, 1, none⟩ = some (.int .i64 c) ∧ w'.cell? ⟨g, K * 2, none⟩ = some (ptr x) ∧ w'.cell? ⟨g, K * 2 + 1, none⟩ = some (ptr y)) (go_keep)
    (first | (go_at_call 73; refine (pick_at HK.out _ hws hws2 hc1 hc2).mono ?_; rintro e w' ⟨rfl, rfl⟩))
  all_goals
    have bp : Below w.heap.size w (w0.alloc (.cells #[ptr x, ptr y] 128)).drew := (HB0.out.alloc HB0.out.size _).drew
    have g1 : (w0.alloc (.cells #[ptr x, ptr y] 128)).drew.heap[w.heap.size]? = _ := alloc_at Q0.out _
    have g2 : (w0.alloc (.cells #[ptr x, ptr y] 128)).drew.heap[w0.heap.size]? = _ := heap_alloc_new w0 _
    have hE := Nat.lt_of_lt_of_le hKlt (Nat.le_of_eq h.len)
    obtain ⟨W, hW⟩ := get_some hE
    have HW := hide hW
    clear hq hx hy hc n1 n2 n3 n4 Hx Hy hW hE
    generalize (w0.alloc (.cells #[ptr x, ptr y] 128)).drew = wp at *
    obtain ⟨e1, _⟩ := row_facts g1
    obtain ⟨e2, _⟩ := row_facts g2
    have hT := h.below OX bp
    have t2 := hT.two K (x, y) W Hp.out HW.out
    have HT := hide hT
    clear hT g1 g2
    go_wp2_with fail
  all_goals
    go_ret
    exact ⟨rfl, ⟨O, _, ws, Ws, HT.out.more (by omega) (by omega), by omega⟩, bp.mono h.hB⟩
end Go.Proofs.YtnniimfinakioaaGreatDoor
