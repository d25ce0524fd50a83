import Derived.Test.YtnniimfinakioaaGreatDoorXm
namespace Go.Proofs.YtnniimfinakioaaGreatDoor
open Go.RowKit
attribute [local go_sem ↓] eqTok eqEnt
attribute [local go_sem] toList_nm app_nm size_nm


set_option maxHeartbeats 4000000 in
set_option maxRecDepth 100000 in
theorem step_send {RX : World → (Nat → Prop) → Nat → Wd → Prop} {late : Prop} (OX : ProgOpsG late RX) (B : Nat) (w : World) (O : Nat → Nat) (q : Nat) (vW : Value) (ws : List (Nat × Nat)) (Ws : List Wd) (nt nn : Nat) (h : TopR RX B w O q vW ws Ws nt nn) (hws : 0 < ws.length) (hws2 : ws.length ≤ 1000000000) (c a b : Int) (s : Nm) (hc1 : -9223372036854775808 ≤ c) (hc2 : c ≤ 9223372036854775807) :
    Calls Tryz.prog 40 #[ptr q, opV 8 c a b s] w fun e w' => e = .returned (.bool true) ∧ StepD RX B q ws.length nt nn w w' := by
  have hb0 : Below w.heap.size w (w.alloc (.cells #[.int .i64 8, .int .i64 c, .int .i64 a, .int .i64 b, strV s] 78)) := (Below.refl _ _).alloc (Nat.le_refl _) _
  have q0 := heap_alloc_new w (.cells #[.int .i64 8, .int .i64 c, .int .i64 a, .int .i64 b, strV s] 78)
  have HB0 := hide hb0
  have Q0 := hide q0
  obtain ⟨K, hK⟩ : ∃ K, pickN c ws.length = K := ⟨_, rfl⟩
  have hKlt : K < ws.length := by rw [← hK]; exact Nat.mod_lt _ hws
  obtain ⟨⟨x, y⟩, hp⟩ := get_some hKlt
  obtain ⟨rW, sq, fq, cq, lq, nq⟩ := h.law.rowW
  obtain ⟨oW, cW, rfl, _, _⟩ := own_form rW
  obtain ⟨g, rfl, hg, cx, cy⟩ := pair_at rW hp
  have hl0 : ((ws.length : Int) == 0) = false := by
    have : ws.length ≠ 0 := by omega
    simpa using this
  have hq : (w.alloc (.cells #[.int .i64 8, .int .i64 c, .int .i64 a, .int .i64 b, strV s] 78)).cell? ⟨q, 0, none⟩ = some (.slice (some ⟨g, 0, none⟩) ws.length cW) := by
    rw [hb0.cell (p := ⟨q, 0, none⟩) lq]; exact cq
  have hx : (w.alloc (.cells #[.int .i64 8, .int .i64 c, .int .i64 a, .int .i64 b, strV s] 78)).cell? ⟨g, K * 2, none⟩ = some (ptr x) := by
    rw [hb0.cell (p := ⟨g, K * 2, none⟩) hg]; exact cx
  have hy : (w.alloc (.cells #[.int .i64 8, .int .i64 c, .int .i64 a, .int .i64 b, strV s] 78)).cell? ⟨g, K * 2 + 1, none⟩ = some (ptr y) := by
    rw [hb0.cell (p := ⟨g, K * 2 + 1, none⟩) hg]; exact cy
  have i1 : (0 : Int) ≤ (K : Int) := by omega
  have i2 : (K : Int) < (ws.length : Int) := by omega
  have Hp := hide hp
  have Hx := hide hx
  have Hy := hide hy
  have HK := hide hK
  clear fq hb0 q0 cq cx cy hp hx hy hK
  go_enter Tryz.func40, Tryz.ntmps40
  go_wp2_with fail
  generalize w.alloc (.cells #[.int .i64 8, .int .i64 c, .int .i64 a, .int .i64 b, strV s] 78) = w0 at *
  have hx := Hx.out
  have hy := Hy.out
  have hc : w0.cell? ⟨w.heap.size, 1, none⟩ = some (.int .i64 c) := by
    have := (row_facts Q0.out).1 1
    simpa using this
  have n1 := World.new_ne w0 _ hq
  have n2 := World.new_ne w0 _ hx
  have n3 := World.new_ne w0 _ hy
  have n4 := World.new_ne w0 _ hc
  go_region_held3 (fun w' => w'.cell? ⟨q, 0, none⟩ = some (.slice (some ⟨g, 0, none⟩) ws.length cW) ∧ w'.cell? ⟨w.heap.size, 1, none⟩ = some (.int .i64 c) ∧ w'.cell? ⟨g, K * 2, none⟩ = some (ptr x) ∧ w'.cell? ⟨g, K * 2 + 1, none⟩ = some (ptr y)) (go_keep)
    (first | (go_at_call 73; refine (pick_at HK.out _ hws hws2 hc1 hc2).mono ?_; rintro e w' ⟨rfl, rfl⟩))
  all_goals
    have bp : Below w.heap.size w (w0.alloc (.cells #[ptr x, ptr y] 128)).drew := (HB0.out.alloc HB0.out.size _).drew
    have g1 : (w0.alloc (.cells #[ptr x, ptr y] 128)).drew.heap[w.heap.size]? = _ := alloc_at Q0.out _
    have g2 : (w0.alloc (.cells #[ptr x, ptr y] 128)).drew.heap[w0.heap.size]? = _ := heap_alloc_new w0 _
    have hE := Nat.lt_of_lt_of_le hKlt (Nat.le_of_eq h.len)
    obtain ⟨W, hW⟩ := get_some hE
    have HW := hide hW
    clear hq hx hy hc n1 n2 n3 n4 Hx Hy hW hE
    generalize (w0.alloc (.cells #[ptr x, ptr y] 128)).drew = wp at *
    obtain ⟨e1, _⟩ := row_facts g1
    obtain ⟨e2, _⟩ := row_facts g2
    have hT := h.below OX bp
    have t2 := hT.two K (x, y) W Hp.out HW.out
    have HT := hide hT
    clear hT g1 g2
    go_wp2_with fail
  all_goals
    refine (moves_send OX wp _ _ x y W t2 c a b s).mono ?_
    rintro e w5 ⟨rfl, d⟩
    clear e1 e2
    go_wp2_with fail
    go_ret
    obtain ⟨O', Ws', ht, hbb⟩ := HT.out.moved OX Hp.out d
    exact ⟨rfl, ⟨O', _, ws, Ws', ht.more (by omega) (by omega), by omega⟩, (bp.mono h.hB).trans hbb⟩

set_option maxHeartbeats 4000000 in
set_option maxRecDepth 100000 in
theorem step_flying {RX : World → (Nat → Prop) → Nat → Wd → Prop} {late : Prop} (OX : ProgOpsG late RX) (B : Nat) (w : World) (O : Nat → Nat) (q : Nat) (vW : Value) (ws : List (Nat × Nat)) (Ws : List Wd) (nt nn : Nat) (h : TopR RX B w O q vW ws Ws nt nn) (hws : 0 < ws.length) (hws2 : ws.length ≤ 1000000000) (c a b : Int) (s : Nm) (hc1 : -9223372036854775808 ≤ c) (hc2 : c ≤ 9223372036854775807) (h1 : nt ≤ 1000000000) (h2 : nn ≤ 900000000) :
    Calls Tryz.prog 40 #[ptr q, opV 9 c a b s] w fun e w' => e = .returned (.bool true) ∧ StepD RX B q ws.length nt nn w w' := by
  have hb0 : Below w.heap.size w (w.alloc (.cells #[.int .i64 9, .int .i64 c, .int .i64 a, .int .i64 b, strV s] 78)) := (Below.refl _ _).alloc (Nat.le_refl _) _
  have q0 := heap_alloc_new w (.cells #[.int .i64 9, .int .i64 c, .int .i64 a, .int .i64 b, strV s] 78)
  have HB0 := hide hb0
  have Q0 := hide q0
  obtain ⟨K, hK⟩ : ∃ K, pickN c ws.length = K := ⟨_, rfl⟩
  have hKlt : K < ws.length := by rw [← hK]; exact Nat.mod_lt _ hws
  obtain ⟨⟨x, y⟩, hp⟩ := get_some hKlt
  obtain ⟨rW, sq, fq, cq, lq, nq⟩ := h.law.rowW
  obtain ⟨oW, cW, rfl, _, _⟩ := own_form rW
  obtain ⟨g, rfl, hg, cx, cy⟩ := pair_at rW hp
  have hl0 : ((ws.length : Int) == 0) = false := by
    have : ws.length ≠ 0 := by omega
    simpa using this
  have hq : (w.alloc (.cells #[.int .i64 9, .int .i64 c, .int .i64 a, .int .i64 b, strV s] 78)).cell? ⟨q, 0, none⟩ = some (.slice (some ⟨g, 0, none⟩) ws.length cW) := by
    rw [hb0.cell (p := ⟨q, 0, none⟩) lq]; exact cq
  have hx : (w.alloc (.cells #[.int .i64 9, .int .i64 c, .int .i64 a, .int .i64 b, strV s] 78)).cell? ⟨g, K * 2, none⟩ = some (ptr x) := by
    rw [hb0.cell (p := ⟨g, K * 2, none⟩) hg]; exact cx
  have hy : (w.alloc (.cells #[.int .i64 9, .int .i64 c, .int .i64 a, .int .i64 b, strV s] 78)).cell? ⟨g, K * 2 + 1, none⟩ = some (ptr y) := by
    rw [hb0.cell (p := ⟨g, K * 2 + 1, none⟩) hg]; exact cy
  have i1 : (0 : Int) ≤ (K : Int) := by omega
  have i2 : (K : Int) < (ws.length : Int) := by omega
  have Hp := hide hp
  have Hx := hide hx
  have Hy := hide hy
  have HK := hide hK
  clear fq hb0 q0 cq cx cy hp hx hy hK
  go_enter Tryz.func40, Tryz.ntmps40
  go_wp2_with fail
  generalize w.alloc (.cells #[.int .i64 9, .int .i64 c, .int .i64 a, .int .i64 b, strV s] 78) = w0 at *
  have hx := Hx.out
  have hy := Hy.out
  have hc : w0.cell? ⟨w.heap.size, 1, none⟩ = some (.int .i64 c) := by
    have := (row_facts Q0.out).1 1
    simpa using this
  have n1 := World.new_ne w0 _ hq
  have n2 := World.new_ne w0 _ hx
  have n3 := World.new_ne w0 _ hy
  have n4 := World.new_ne w0 _ hc
  go_region_held3 (fun w' => w'.cell? ⟨q, 0, none⟩ = some (.slice (some ⟨g, 0, none⟩) ws.length cW) ∧ w'.cell? ⟨w.heap.size, 1, none⟩ = some (.int .i64 c) ∧ w'.cell? ⟨g, K * 2, none⟩ = some (ptr x) ∧ w'.cell? ⟨g, K * 2 + 1, none⟩ = some (ptr y)) (go_keep)
    (first | (go_at_call 73; refine (pick_at HK.out _ hws hws2 hc1 hc2).mono ?_; rintro e w' ⟨rfl, rfl⟩))
  all_goals
    have bp : Below w.heap.size w (w0.alloc (.cells #[ptr x, ptr y] 128)).drew := (HB0.out.alloc HB0.out.size _).drew
    have g1 : (w0.alloc (.cells #[ptr x, ptr y] 128)).drew.heap[w.heap.size]? = _ := alloc_at Q0.out _
    have g2 : (w0.alloc (.cells #[ptr x, ptr y] 128)).drew.heap[w0.heap.size]? = _ := heap_alloc_new w0 _
    have hE := Nat.lt_of_lt_of_le hKlt (Nat.le_of_eq h.len)
    obtain ⟨W, hW⟩ := get_some hE
    have HW := hide hW
    clear hq hx hy hc n1 n2 n3 n4 Hx Hy hW hE
    generalize (w0.alloc (.cells #[ptr x, ptr y] 128)).drew = wp at *
    obtain ⟨e1, _⟩ := row_facts g1
    obtain ⟨e2, _⟩ := row_facts g2
    have hT := h.below OX bp
    have t2 := hT.two K (x, y) W Hp.out HW.out
    have HT := hide hT
    clear hT g1 g2
    go_wp2_with fail
  all_goals
    refine (asks_flying OX wp _ _ _ _ q x y W t2 _ ws nt nn HT.out.law h1 (Nat.le_trans h2 (by decide)) c a b s).mono ?_
    rintro e w5 ⟨rfl, d⟩
    clear e1 e2
    go_wp2_with fail
    go_ret
    obtain ⟨O', ht, hbb⟩ := HT.out.asked OX d
    exact ⟨rfl, ⟨O', _, ws, Ws, ht, by omega⟩, (bp.mono h.hB).trans hbb⟩

set_option maxHeartbeats 4000000 in
set_option maxRecDepth 100000 in
theorem step_deliver {RX : World → (Nat → Prop) → Nat → Wd → Prop} {late : Prop} (OX : ProgOpsG late RX) (B : Nat) (w : World) (O : Nat → Nat) (q : Nat) (vW : Value) (ws : List (Nat × Nat)) (Ws : List Wd) (nt nn : Nat) (h : TopR RX B w O q vW ws Ws nt nn) (hws : 0 < ws.length) (hws2 : ws.length ≤ 1000000000) (c a b : Int) (s : Nm) (hc1 : -9223372036854775808 ≤ c) (hc2 : c ≤ 9223372036854775807) :
    Calls Tryz.prog 40 #[ptr q, opV 10 c a b s] w fun e w' => e = .returned (.bool true) ∧ StepD RX B q ws.length nt nn w w' := by
  have hb0 : Below w.heap.size w (w.alloc (.cells #[.int .i64 10, .int .i64 c, .int .i64 a, .int .i64 b, strV s] 78)) := (Below.refl _ _).alloc (Nat.le_refl _) _
  have q0 := heap_alloc_new w (.cells #[.int .i64 10, .int .i64 c, .int .i64 a, .int .i64 b, strV s] 78)
  have HB0 := hide hb0
  have Q0 := hide q0
  obtain ⟨K, hK⟩ : ∃ K, pickN c ws.length = K := ⟨_, rfl⟩
  have hKlt : K < ws.length := by rw [← hK]; exact Nat.mod_lt _ hws
  obtain ⟨⟨x, y⟩, hp⟩ := get_some hKlt
  obtain ⟨rW, sq, fq, cq, lq, nq⟩ := h.law.rowW
  obtain ⟨oW, cW, rfl, _, _⟩ := own_form rW
  obtain ⟨g, rfl, hg, cx, cy⟩ := pair_at rW hp
  have hl0 : ((ws.length : Int) == 0) = false := by
    have : ws.length ≠ 0 := by omega
    simpa using this
  have hq : (w.alloc (.cells #[.int .i64 10, .int .i64 c, .int .i64 a, .int .i64 b, strV s] 78)).cell? ⟨q, 0, none⟩ = some (.slice (some ⟨g, 0, none⟩) ws.length cW) := by
    rw [hb0.cell (p := ⟨q, 0, none⟩) lq]; exact cq
  have hx : (w.alloc (.cells #[.int .i64 10, .int .i64 c, .int .i64 a, .int .i64 b, strV s] 78)).cell? ⟨g, K * 2, none⟩ = some (ptr x) := by
    rw [hb0.cell (p := ⟨g, K * 2, none⟩) hg]; exact cx
  have hy : (w.alloc (.cells #[.int .i64 10, .int .i64 c, .int .i64 a, .int .i64 b, strV s] 78)).cell? ⟨g, K * 2 + 1, none⟩ = some (ptr y) := by
    rw [hb0.cell (p := ⟨g, K * 2 + 1, none⟩) hg]; exact cy
  have i1 : (0 : Int) ≤ (K : Int) := by omega
  have i2 : (K : Int) < (ws.length : Int) := by omega
  have Hp := hide hp
  have Hx := hide hx
  have Hy := hide hy
  have HK := hide hK
  clear fq hb0 q0 cq cx cy hp hx hy hK
  go_enter Tryz.func40, Tryz.ntmps40
  go_wp2_with fail
  generalize w.alloc (.cells #[.int .i64 10, .int .i64 c, .int .i64 a, .int .i64 b, strV s] 78) = w0 at *
  have hx := Hx.out
  have hy := Hy.out
  have hc : w0.cell? ⟨w.heap.size, 1, none⟩ = some (.int .i64 c) := by
    have := (row_facts Q0.out).1 1
    simpa using this
  have n1 := World.new_ne w0 _ hq
  have n2 := World.new_ne w0 _ hx
  have n3 := World.new_ne w0 _ hy
  have n4 := World.new_ne w0 _ hc
  go_region_held3 (fun w' => w'.cell? ⟨q, 0, none⟩ = some (.slice (some ⟨g, 0, none⟩) ws.length cW) ∧ w'.cell? ⟨w.heap.size, 1, none⟩ = some (.int .i64 c) ∧ w'.cell? ⟨g, K * 2, none⟩ = some (ptr x) ∧ w'.cell? ⟨g, K * 2 + 1, none⟩ = some (ptr y)) (go_keep)
    (first | (go_at_call 73; refine (pick_at HK.out _ hws hws2 hc1 hc2).mono ?_; rintro e w' ⟨rfl, rfl⟩))
  all_goals
    have bp : Below w.heap.size w (w0.alloc (.cells #[ptr x, ptr y] 128)).drew := (HB0.out.alloc HB0.out.size _).drew
    have g1 : (w0.alloc (.cells #[ptr x, ptr y] 128)).drew.heap[w.heap.size]? = _ := alloc_at Q0.out _
    have g2 : (w0.alloc (.cells #[ptr x, ptr y] 128)).drew.heap[w0.heap.size]? = _ := heap_alloc_new w0 _
    have hE := Nat.lt_of_lt_of_le hKlt (Nat.le_of_eq h.len)
    obtain ⟨W, hW⟩ := get_some hE
    have HW := hide hW
    clear hq hx hy hc n1 n2 n3 n4 Hx Hy hW hE
    generalize (w0.alloc (.cells #[ptr x, ptr y] 128)).drew = wp at *
    obtain ⟨e1, _⟩ := row_facts g1
    obtain ⟨e2, _⟩ := row_facts g2
    have hT := h.below OX bp
    have t2 := hT.two K (x, y) W Hp.out HW.out
    have HT := hide hT
    clear hT g1 g2
    go_wp2_with fail
  all_goals
    refine (moves_deliver OX wp _ _ x y W t2 c a b s).mono ?_
    rintro e w5 ⟨rfl, d⟩
    clear e1 e2
    go_wp2_with fail
    go_ret
    obtain ⟨O', Ws', ht, hbb⟩ := HT.out.moved OX Hp.out d
    exact ⟨rfl, ⟨O', _, ws, Ws', ht.more (by omega) (by omega), by omega⟩, (bp.mono h.hB).trans hbb⟩

set_option maxHeartbeats 4000000 in
set_option maxRecDepth 100000 in
theorem step_drop {RX : World → (Nat → Prop) → Nat → Wd → Prop} {late : Prop} (OX : ProgOpsG late RX) (B : Nat) (w : World) (O : Nat → Nat) (q : Nat) (vW : Value) (ws : List (Nat × Nat)) (Ws : List Wd) (nt nn : Nat) (h : TopR RX B w O q vW ws Ws nt nn) (hws : 0 < ws.length) (hws2 : ws.length ≤ 1000000000) (c a b : Int) (s : Nm) (hc1 : -9223372036854775808 ≤ c) (hc2 : c ≤ 9223372036854775807) :
    Calls Tryz.prog 40 #[ptr q, opV 11 c a b s] w fun e w' => e = .returned (.bool true) ∧ StepD RX B q ws.length nt nn w w' := by
  have hb0 : Below w.heap.size w (w.alloc (.cells #[.int .i64 11, .int .i64 c, .int .i64 a, .int .i64 b, strV s] 78)) := (Below.refl _ _).alloc (Nat.le_refl _) _
  have q0 := heap_alloc_new w (.cells #[.int .i64 11, .int .i64 c, .int .i64 a, .int .i64 b, strV s] 78)
  have HB0 := hide hb0
  have Q0 := hide q0
  obtain ⟨K, hK⟩ : ∃ K, pickN c ws.length = K := ⟨_, rfl⟩
  have hKlt : K < ws.length := by rw [← hK]; exact Nat.mod_lt _ hws
  obtain ⟨⟨x, y⟩, hp⟩ := get_some hKlt
  obtain ⟨rW, sq, fq, cq, lq, nq⟩ := h.law.rowW
  obtain ⟨oW, cW, rfl, _, _⟩ := own_form rW
  obtain ⟨g, rfl, hg, cx, cy⟩ := pair_at rW hp
  have hl0 : ((ws.length : Int) == 0) = false := by
    have : ws.length ≠ 0 := by omega
    simpa using this
  have hq : (w.alloc (.cells #[.int .i64 11, .int .i64 c, .int .i64 a, .int .i64 b, strV s] 78)).cell? ⟨q, 0, none⟩ = some (.slice (some ⟨g, 0, none⟩) ws.length cW) := by
    rw [hb0.cell (p := ⟨q, 0, none⟩) lq]; exact cq
  have hx : (w.alloc (.cells #[.int .i64 11, .int .i64 c, .int .i64 a, .int .i64 b, strV s] 78)).cell? ⟨g, K * 2, none⟩ = some (ptr x) := by
    rw [hb0.cell (p := ⟨g, K * 2, none⟩) hg]; exact cx
  have hy : (w.alloc (.cells #[.int .i64 11, .int .i64 c, .int .i64 a, .int .i64 b, strV s] 78)).cell? ⟨g, K * 2 + 1, none⟩ = some (ptr y) := by
    rw [hb0.cell (p := ⟨g, K * 2 + 1, none⟩) hg]; exact cy
  have i1 : (0 : Int) ≤ (K : Int) := by omega
  have i2 : (K : Int) < (ws.length : Int) := by omega
  have Hp := hide hp
  have Hx := hide hx
  have Hy := hide hy
  have HK := hide hK
  clear fq hb0 q0 cq cx cy hp hx hy hK
  go_enter Tryz.func40, Tryz.ntmps40
  go_wp2_with fail
  generalize w.alloc (.cells #[.int .i64 11, .int .i64 c, .int .i64 a, .int .i64 b, strV s] 78) = w0 at *
  have hx := Hx.out
  have hy := Hy.out
  have hc : w0.cell? ⟨w.heap.size, 1, none⟩ = some (.int .i64 c) := by
    have := (row_facts Q0.out).1 1
    simpa using this
  have n1 := World.new_ne w0 _ hq
  have n2 := World.new_ne w0 _ hx
  have n3 := World.new_ne w0 _ hy
  have n4 := World.new_ne w0 _ hc
  go_region_held3 (fun w' => w'.cell? ⟨q, 0, none⟩ = some (.slice (some ⟨g, 0, none⟩) ws.length cW) ∧ w'.cell? ⟨w.heap.size, 1, none⟩ = some (.int .i64 c) ∧ w'.cell? ⟨g, K * 2, none⟩ = some (ptr x) ∧ w'.cell? ⟨g, K * 2 + 1, none⟩ = some (ptr y)) (go_keep)
    (first | (go_at_call 73; refine (pick_at HK.out _ hws hws2 hc1 hc2).mono ?_; rintro e w' ⟨rfl, rfl⟩))
  all_goals
    have bp : Below w.heap.size w (w0.alloc (.cells #[ptr x, ptr y] 128)).drew := (HB0.out.alloc HB0.out.size _).drew
    have g1 : (w0.alloc (.cells #[ptr x, ptr y] 128)).drew.heap[w.heap.size]? = _ := alloc_at Q0.out _
    have g2 : (w0.alloc (.cells #[ptr x, ptr y] 128)).drew.heap[w0.heap.size]? = _ := heap_alloc_new w0 _
    have hE := Nat.lt_of_lt_of_le hKlt (Nat.le_of_eq h.len)
    obtain ⟨W, hW⟩ := get_some hE
    have HW := hide hW
    clear hq hx hy hc n1 n2 n3 n4 Hx Hy hW hE
    generalize (w0.alloc (.cells #[ptr x, ptr y] 128)).drew = wp at *
    obtain ⟨e1, _⟩ := row_facts g1
    obtain ⟨e2, _⟩ := row_facts g2
    have hT := h.below OX bp
    have t2 := hT.two K (x, y) W Hp.out HW.out
    have HT := hide hT
    clear hT g1 g2
    go_wp2_with fail
  all_goals
    refine (moves_drop OX wp _ _ x y W t2 c a b s).mono ?_
    rintro e w5 ⟨rfl, d⟩
    clear e1 e2
    go_wp2_with fail
    go_ret
    obtain ⟨O', Ws', ht, hbb⟩ := HT.out.moved OX Hp.out d
    exact ⟨rfl, ⟨O', _, ws, Ws', ht.more (by omega) (by omega), by omega⟩, (bp.mono h.hB).trans hbb⟩

set_option maxHeartbeats 4000000 in
set_option maxRecDepth 100000 in
theorem step_double {RX : World → (Nat → Prop) → Nat → Wd → Prop} {late : Prop} (OX : ProgOpsG late RX) (B : Nat) (w : World) (O : Nat → Nat) (q : Nat) (vW : Value) (ws : List (Nat × Nat)) (Ws : List Wd) (nt nn : Nat) (h : TopR RX B w O q vW ws Ws nt nn) (hws : 0 < ws.length) (hws2 : ws.length ≤ 1000000000) (c a b : Int) (s : Nm) (hc1 : -9223372036854775808 ≤ c) (hc2 : c ≤ 9223372036854775807) :
    Calls Tryz.prog 40 #[ptr q, opV 12 c a b s] w fun e w' => e = .returned (.bool true) ∧ StepD RX B q ws.length nt nn w w' := by
  have hb0 : Below w.heap.size w (w.alloc (.cells #[.int .i64 12, .int .i64 c, .int .i64 a, .int .i64 b, strV s] 78)) := (Below.refl _ _).alloc (Nat.le_refl _) _
  have q0 := heap_alloc_new w (.cells #[.int .i64 12, .int .i64 c, .int .i64 a, .int .i64 b, strV s] 78)
  have HB0 := hide hb0
  have Q0 := hide q0
  obtain ⟨K, hK⟩ : ∃ K, pickN c ws.length = K := ⟨_, rfl⟩
  have hKlt : K < ws.length := by rw [← hK]; exact Nat.mod_lt _ hws
  obtain ⟨⟨x, y⟩, hp⟩ := get_some hKlt
  obtain ⟨rW, sq, fq, cq, lq, nq⟩ := h.law.rowW
  obtain ⟨oW, cW, rfl, _, _⟩ := own_form rW
  obtain ⟨g, rfl, hg, cx, cy⟩ := pair_at rW hp
  have hl0 : ((ws.length : Int) == 0) = false := by
    have : ws.length ≠ 0 := by omega
    simpa using this
  have hq : (w.alloc (.cells #[.int .i64 12, .int .i64 c, .int .i64 a, .int .i64 b, strV s] 78)).cell? ⟨q, 0, none⟩ = some (.slice (some ⟨g, 0, none⟩) ws.length cW) := by
    rw [hb0.cell (p := ⟨q, 0, none⟩) lq]; exact cq
  have hx : (w.alloc (.cells #[.int .i64 12, .int .i64 c, .int .i64 a, .int .i64 b, strV s] 78)).cell? ⟨g, K * 2, none⟩ = some (ptr x) := by
    rw [hb0.cell (p := ⟨g, K * 2, none⟩) hg]; exact cx
  have hy : (w.alloc (.cells #[.int .i64 12, .int .i64 c, .int .i64 a, .int .i64 b, strV s] 78)).cell? ⟨g, K * 2 + 1, none⟩ = some (ptr y) := by
    rw [hb0.cell (p := ⟨g, K * 2 + 1, none⟩) hg]; exact cy
  have i1 : (0 : Int) ≤ (K : Int) := by omega
  have i2 : (K : Int) < (ws.length : Int) := by omega
  have Hp := hide hp
  have Hx := hide hx
  have Hy := hide hy
  have HK := hide hK
  clear fq hb0 q0 cq cx cy hp hx hy hK
  go_enter Tryz.func40, Tryz.ntmps40
  go_wp2_with fail
  generalize w.alloc (.cells #[.int .i64 12, .int .i64 c, .int .i64 a, .int .i64 b, strV s] 78) = w0 at *
  have hx := Hx.out
  have hy := Hy.out
  have hc : w0.cell? ⟨w.heap.size, 1, none⟩ = some (.int .i64 c) := by
    have := (row_facts Q0.out).1 1
    simpa using this
  have n1 := World.new_ne w0 _ hq
  have n2 := World.new_ne w0 _ hx
  have n3 := World.new_ne w0 _ hy
  have n4 := World.new_ne w0 _ hc
  go_region_held3 (fun w' => w'.cell? ⟨q, 0, none⟩ = some (.slice (some ⟨g, 0, none⟩) ws.length cW) ∧ w'.cell? ⟨w.heap.size, 1, none⟩ = some (.int .i64 c) ∧ w'.cell? ⟨g, K * 2, none⟩ = some (ptr x) ∧ w'.cell? ⟨g, K * 2 + 1, none⟩ = some (ptr y)) (go_keep)
    (first | (go_at_call 73; refine (pick_at HK.out _ hws hws2 hc1 hc2).mono ?_; rintro e w' ⟨rfl, rfl⟩))
  all_goals
    have bp : Below w.heap.size w (w0.alloc (.cells #[ptr x, ptr y] 128)).drew := (HB0.out.alloc HB0.out.size _).drew
    have g1 : (w0.alloc (.cells #[ptr x, ptr y] 128)).drew.heap[w.heap.size]? = _ := alloc_at Q0.out _
    have g2 : (w0.alloc (.cells #[ptr x, ptr y] 128)).drew.heap[w0.heap.size]? = _ := heap_alloc_new w0 _
    have hE := Nat.lt_of_lt_of_le hKlt (Nat.le_of_eq h.len)
    obtain ⟨W, hW⟩ := get_some hE
    have HW := hide hW
    clear hq hx hy hc n1 n2 n3 n4 Hx Hy hW hE
    generalize (w0.alloc (.cells #[ptr x, ptr y] 128)).drew = wp at *
    obtain ⟨e1, _⟩ := row_facts g1
    obtain ⟨e2, _⟩ := row_facts g2
    have hT := h.below OX bp
    have t2 := hT.two K (x, y) W Hp.out HW.out
    have HT := hide hT
    clear hT g1 g2
    go_wp2_with fail
  all_goals
    refine (moves_double OX wp _ _ x y W t2 c a b s).mono ?_
    rintro e w5 ⟨rfl, d⟩
    clear e1 e2
    go_wp2_with fail
    go_ret
    obtain ⟨O', Ws', ht, hbb⟩ := HT.out.moved OX Hp.out d
    exact ⟨rfl, ⟨O', _, ws, Ws', ht.more (by omega) (by omega), by omega⟩, (bp.mono h.hB).trans hbb⟩

set_option maxHeartbeats 4000000 in
set_option maxRecDepth 100000 in
theorem step_collect {RX : World → (Nat → Prop) → Nat → Wd → Prop} {late : Prop} (OX : ProgOpsG late RX) (hlate : late) (B : Nat) (w : World) (O : Nat → Nat) (q : Nat) (vW : Value) (ws : List (Nat × Nat)) (Ws : List Wd) (nt nn : Nat) (h : TopR RX B w O q vW ws Ws nt nn) (hws : 0 < ws.length) (hws2 : ws.length ≤ 1000000000) (c a b : Int) (s : Nm) (hc1 : -9223372036854775808 ≤ c) (hc2 : c ≤ 9223372036854775807) :
    Calls Tryz.prog 40 #[ptr q, opV 13 c a b s] w fun e w' => e = .returned (.bool true) ∧ StepD RX B q ws.length nt nn w w' := by
  have hb0 : Below w.heap.size w (w.alloc (.cells #[.int .i64 13, .int .i64 c, .int .i64 a, .int .i64 b, strV s] 78)) := (Below.refl _ _).alloc (Nat.le_refl _) _
  have q0 := heap_alloc_new w (.cells #[.int .i64 13, .int .i64 c, .int .i64 a, .int .i64 b, strV s] 78)
  have HB0 := hide hb0
  have Q0 := hide q0
  obtain ⟨K, hK⟩ : ∃ K, pickN c ws.length = K := ⟨_, rfl⟩
  have hKlt : K < ws.length := by rw [← hK]; exact Nat.mod_lt _ hws
  obtain ⟨⟨x, y⟩, hp⟩ := get_some hKlt
  obtain ⟨rW, sq, fq, cq, lq, nq⟩ := h.law.rowW
  obtain ⟨oW, cW, rfl, _, _⟩ := own_form rW
  obtain ⟨g, rfl, hg, cx, cy⟩ := pair_at rW hp
  have hl0 : ((ws.length : Int) == 0) = false := by
    have : ws.length ≠ 0 := by omega
    simpa using this
  have hq : (w.alloc (.cells #[.int .i64 13, .int .i64 c, .int .i64 a, .int .i64 b, strV s] 78)).cell? ⟨q, 0, none⟩ = some (.slice (some ⟨g, 0, none⟩) ws.length cW) := by
    rw [hb0.cell (p := ⟨q, 0, none⟩) lq]; exact cq
  have hx : (w.alloc (.cells #[.int .i64 13, .int .i64 c, .int .i64 a, .int .i64 b, strV s] 78)).cell? ⟨g, K * 2, none⟩ = some (ptr x) := by
    rw [hb0.cell (p := ⟨g, K * 2, none⟩) hg]; exact cx
  have hy : (w.alloc (.cells #[.int .i64 13, .int .i64 c, .int .i64 a, .int .i64 b, strV s] 78)).cell? ⟨g, K * 2 + 1, none⟩ = some (ptr y) := by
    rw [hb0.cell (p := ⟨g, K * 2 + 1, none⟩) hg]; exact cy
  have i1 : (0 : Int) ≤ (K : Int) := by omega
  have i2 : (K : Int) < (ws.length : Int) := by omega
  have Hp := hide hp
  have Hx := hide hx
  have Hy := hide hy
  have HK := hide hK
  clear fq hb0 q0 cq cx cy hp hx hy hK
  go_enter Tryz.func40, Tryz.ntmps40
  go_wp2_with fail
  generalize w.alloc (.cells #[.int .i64 13, .int .i64 c, .int .i64 a, .int .i64 b, strV s] 78) = w0 at *
  have hx := Hx.out
  have hy := Hy.out
  have hc : w0.cell? ⟨w.heap.size, 1, none⟩ = some (.int .i64 c) := by
    have := (row_facts Q0.out).1 1
    simpa using this
  have n1 := World.new_ne w0 _ hq
  have n2 := World.new_ne w0 _ hx
  have n3 := World.new_ne w0 _ hy
  have n4 := World.new_ne w0 _ hc
  go_region_held3 (fun w' => w'.cell? ⟨q, 0, none⟩ = some (.slice (some ⟨g, 0, none⟩) ws.length cW) ∧ w'.cell? ⟨w.heap.size, 1, none⟩ = some (.int .i64 c) ∧ w'.cell? ⟨g, K * 2, none⟩ = some (ptr x) ∧ w'.cell? ⟨g, K * 2 + 1, none⟩ = some (ptr y)) (go_keep)
    (first | (go_at_call 73; refine (pick_at HK.out _ hws hws2 hc1 hc2).mono ?_; rintro e w' ⟨rfl, rfl⟩))
  all_goals
    have bp : Below w.heap.size w (w0.alloc (.cells #[ptr x, ptr y] 128)).drew := (HB0.out.alloc HB0.out.size _).drew
    have g1 : (w0.alloc (.cells #[ptr x, ptr y] 128)).drew.heap[w.heap.size]? = _ := alloc_at Q0.out _
    have g2 : (w0.alloc (.cells #[ptr x, ptr y] 128)).drew.heap[w0.heap.size]? = _ := heap_alloc_new w0 _
    have hE := Nat.lt_of_lt_of_le hKlt (Nat.le_of_eq h.len)
    obtain ⟨W, hW⟩ := get_some hE
    have HW := hide hW
    clear hq hx hy hc n1 n2 n3 n4 Hx Hy hW hE
    generalize (w0.alloc (.cells #[ptr x, ptr y] 128)).drew = wp at *
    obtain ⟨e1, _⟩ := row_facts g1
    obtain ⟨e2, _⟩ := row_facts g2
    have hT := h.below OX bp
    have t2 := hT.two K (x, y) W Hp.out HW.out
    have HT := hide hT
    clear hT g1 g2
    go_wp2_with fail
  all_goals
    refine (moves_collect OX hlate wp _ _ x y W t2 c a b s).mono ?_
    rintro e w5 ⟨rfl, d⟩
    clear e1 e2
    go_wp2_with fail
    go_ret
    obtain ⟨O', Ws', ht, hbb⟩ := HT.out.moved OX Hp.out d
    exact ⟨rfl, ⟨O', _, ws, Ws', ht.more (by omega) (by omega), by omega⟩, (bp.mono h.hB).trans hbb⟩

set_option maxHeartbeats 4000000 in
set_option maxRecDepth 100000 in
theorem step_crash {RX : World → (Nat → Prop) → Nat → Wd → Prop} {late : Prop} (OX : ProgOpsG late RX) (hlate : late) (B : Nat) (w : World) (O : Nat → Nat) (q : Nat) (vW : Value) (ws : List (Nat × Nat)) (Ws : List Wd) (nt nn : Nat) (h : TopR RX B w O q vW ws Ws nt nn) (hws : 0 < ws.length) (hws2 : ws.length ≤ 1000000000) (c a b : Int) (s : Nm) (hc1 : -9223372036854775808 ≤ c) (hc2 : c ≤ 9223372036854775807) :
    Calls Tryz.prog 40 #[ptr q, opV 14 c a b s] w fun e w' => e = .returned (.bool true) ∧ StepD RX B q ws.length nt nn w w' := by
  have hb0 : Below w.heap.size w (w.alloc (.cells #[.int .i64 14, .int .i64 c, .int .i64 a, .int .i64 b, strV s] 78)) := (Below.refl _ _).alloc (Nat.le_refl _) _
  have q0 := heap_alloc_new w (.cells #[.int .i64 14, .int .i64 c, .int .i64 a, .int .i64 b, strV s] 78)
  have HB0 := hide hb0
  have Q0 := hide q0
  obtain ⟨K, hK⟩ : ∃ K, pickN c ws.length = K := ⟨_, rfl⟩
  have hKlt : K < ws.length := by rw [← hK]; exact Nat.mod_lt _ hws
  obtain ⟨⟨x, y⟩, hp⟩ := get_some hKlt
  obtain ⟨rW, sq, fq, cq, lq, nq⟩ := h.law.rowW
  obtain ⟨oW, cW, rfl, _, _⟩ := own_form rW
  obtain ⟨g, rfl, hg, cx, cy⟩ := pair_at rW hp
  have hl0 : ((ws.length : Int) == 0) = false := by
    have : ws.length ≠ 0 := by omega
    simpa using this
  have hq : (w.alloc (.cells #[.int .i64 14, .int .i64 c, .int .i64 a, .int .i64 b, strV s] 78)).cell? ⟨q, 0, none⟩ = some (.slice (some ⟨g, 0, none⟩) ws.length cW) := by
    rw [hb0.cell (p := ⟨q, 0, none⟩) lq]; exact cq
  have hx : (w.alloc (.cells #[.int .i64 14, .int .i64 c, .int .i64 a, .int .i64 b, strV s] 78)).cell? ⟨g, K * 2, none⟩ = some (ptr x) := by
    rw [hb0.cell (p := ⟨g, K * 2, none⟩) hg]; exact cx
  have hy : (w.alloc (.cells #[.int .i64 14, .int .i64 c, .int .i64 a, .int .i64 b, strV s] 78)).cell? ⟨g, K * 2 + 1, none⟩ = some (ptr y) := by
    rw [hb0.cell (p := ⟨g, K * 2 + 1, none⟩) hg]; exact cy
  have i1 : (0 : Int) ≤ (K : Int) := by omega
  have i2 : (K : Int) < (ws.length : Int) := by omega
  have Hp := hide hp
  have Hx := hide hx
  have Hy := hide hy
  have HK := hide hK
  clear fq hb0 q0 cq cx cy hp hx hy hK
  go_enter Tryz.func40, Tryz.ntmps40
  go_wp2_with fail
  generalize w.alloc (.cells #[.int .i64 14, .int .i64 c, .int .i64 a, .int .i64 b, strV s] 78) = w0 at *
  have hx := Hx.out
  have hy := Hy.out
  have hc : w0.cell? ⟨w.heap.size, 1, none⟩ = some (.int .i64 c) := by
    have := (row_facts Q0.out).1 1
    simpa using this
  have n1 := World.new_ne w0 _ hq
  have n2 := World.new_ne w0 _ hx
  have n3 := World.new_ne w0 _ hy
  have n4 := World.new_ne w0 _ hc
  go_region_held3 (fun w' => w'.cell? ⟨q, 0, none⟩ = some (.slice (some ⟨g, 0, none⟩) ws.length cW) ∧ w'.cell? ⟨w.heap.size, 1, none⟩ = some (.int .i64 c) ∧ w'.cell? ⟨g, K * 2, none⟩ = some (ptr x) ∧ w'.cell? ⟨g, K * 2 + 1, none⟩ = some (ptr y)) (go_keep)
    (first | (go_at_call 73; refine (pick_at HK.out _ hws hws2 hc1 hc2).mono ?_; rintro e w' ⟨rfl, rfl⟩))
  all_goals
    have bp : Below w.heap.size w (w0.alloc (.cells #[ptr x, ptr y] 128)).drew := (HB0.out.alloc HB0.out.size _).drew
    have g1 : (w0.alloc (.cells #[ptr x, ptr y] 128)).drew.heap[w.heap.size]? = _ := alloc_at Q0.out _
    have g2 : (w0.alloc (.cells #[ptr x, ptr y] 128)).drew.heap[w0.heap.size]? = _ := heap_alloc_new w0 _
    have hE := Nat.lt_of_lt_of_le hKlt (Nat.le_of_eq h.len)
    obtain ⟨W, hW⟩ := get_some hE
    have HW := hide hW
    clear hq hx hy hc n1 n2 n3 n4 Hx Hy hW hE
    generalize (w0.alloc (.cells #[ptr x, ptr y] 128)).drew = wp at *
    obtain ⟨e1, _⟩ := row_facts g1
    obtain ⟨e2, _⟩ := row_facts g2
    have hT := h.below OX bp
    have t2 := hT.two K (x, y) W Hp.out HW.out
    have HT := hide hT
    clear hT g1 g2
    go_wp2_with fail
  all_goals
    refine (moves_crash OX hlate wp _ _ x y W t2 c a b s).mono ?_
    rintro e w5 ⟨rfl, d⟩
    clear e1 e2
    go_wp2_with fail
    go_ret
    obtain ⟨O', Ws', ht, hbb⟩ := HT.out.moved OX Hp.out d
    exact ⟨rfl, ⟨O', _, ws, Ws', ht.more (by omega) (by omega), by omega⟩, (bp.mono h.hB).trans hbb⟩

set_option maxHeartbeats 4000000 in
set_option maxRecDepth 100000 in
theorem step_round {RX : World → (Nat → Prop) → Nat → Wd → Prop} {late : Prop} (OX : ProgOpsG late RX) (hlate : late) (B : Nat) (w : World) (O : Nat → Nat) (q : Nat) (vW : Value) (ws : List (Nat × Nat)) (Ws : List Wd) (nt nn : Nat) (h : TopR RX B w O q vW ws Ws nt nn) (hws : 0 < ws.length) (hws2 : ws.length ≤ 1000000000) (c a b : Int) (s : Nm) (hc1 : -9223372036854775808 ≤ c) (hc2 : c ≤ 9223372036854775807) :
    Calls Tryz.prog 40 #[ptr q, opV 15 c a b s] w fun e w' => e = .returned (.bool true) ∧ StepD RX B q ws.length nt nn w w' := by
  have hb0 : Below w.heap.size w (w.alloc (.cells #[.int .i64 15, .int .i64 c, .int .i64 a, .int .i64 b, strV s] 78)) := (Below.refl _ _).alloc (Nat.le_refl _) _
  have q0 := heap_alloc_new w (.cells #[.int .i64 15, .int .i64 c, .int .i64 a, .int .i64 b, strV s] 78)
  have HB0 := hide hb0
  have Q0 := hide q0
  obtain ⟨K, hK⟩ : ∃ K, pickN c ws.length = K := ⟨_, rfl⟩
  have hKlt : K < ws.length := by rw [← hK]; exact Nat.mod_lt _ hws
  obtain ⟨⟨x, y⟩, hp⟩ := get_some hKlt
  obtain ⟨rW, sq, fq, cq, lq, nq⟩ := h.law.rowW
  obtain ⟨oW, cW, rfl, _, _⟩ := own_form rW
  obtain ⟨g, rfl, hg, cx, cy⟩ := pair_at rW hp
  have hl0 : ((ws.length : Int) == 0) = false := by
    have : ws.length ≠ 0 := by omega
    simpa using this
  have hq : (w.alloc (.cells #[.int .i64 15, .int .i64 c, .int .i64 a, .int .i64 b, strV s] 78)).cell? ⟨q, 0, none⟩ = some (.slice (some ⟨g, 0, none⟩) ws.length cW) := by
    rw [hb0.cell (p := ⟨q, 0, none⟩) lq]; exact cq
  have hx : (w.alloc (.cells #[.int .i64 15, .int .i64 c, .int .i64 a, .int .i64 b, strV s] 78)).cell? ⟨g, K * 2, none⟩ = some (ptr x) := by
    rw [hb0.cell (p := ⟨g, K * 2, none⟩) hg]; exact cx
  have hy : (w.alloc (.cells #[.int .i64 15, .int .i64 c, .int .i64 a, .int .i64 b, strV s] 78)).cell? ⟨g, K * 2 + 1, none⟩ = some (ptr y) := by
    rw [hb0.cell (p := ⟨g, K * 2 + 1, none⟩) hg]; exact cy
  have i1 : (0 : Int) ≤ (K : Int) := by omega
  have i2 : (K : Int) < (ws.length : Int) := by omega
  have Hp := hide hp
  have Hx := hide hx
  have Hy := hide hy
  have HK := hide hK
  clear fq hb0 q0 cq cx cy hp hx hy hK
  go_enter Tryz.func40, Tryz.ntmps40
  go_wp2_with fail
  generalize w.alloc (.cells #[.int .i64 15, .int .i64 c, .int .i64 a, .int .i64 b, strV s] 78) = w0 at *
  have hx := Hx.out
  have hy := Hy.out
  have hc : w0.cell? ⟨w.heap.size, 1, none⟩ = some (.int .i64 c) := by
    have := (row_facts Q0.out).1 1
    simpa using this
  have n1 := World.new_ne w0 _ hq
  have n2 := World.new_ne w0 _ hx
  have n3 := World.new_ne w0 _ hy
  have n4 := World.new_ne w0 _ hc
  go_region_held3 (fun w' => w'.cell? ⟨q, 0, none⟩ = some (.slice (some ⟨g, 0, none⟩) ws.length cW) ∧ w'.cell? ⟨w.heap.size, 1, none⟩ = some (.int .i64 c) ∧ w'.cell? ⟨g, K * 2, none⟩ = some (ptr x) ∧ w'.cell? ⟨g, K * 2 + 1, none⟩ = some (ptr y)) (go_keep)
    (first | (go_at_call 73; refine (pick_at HK.out _ hws hws2 hc1 hc2).mono ?_; rintro e w' ⟨rfl, rfl⟩))
  all_goals
    have bp : Below w.heap.size w (w0.alloc (.cells #[ptr x, ptr y] 128)).drew := (HB0.out.alloc HB0.out.size _).drew
    have g1 : (w0.alloc (.cells #[ptr x, ptr y] 128)).drew.heap[w.heap.size]? = _ := alloc_at Q0.out _
    have g2 : (w0.alloc (.cells #[ptr x, ptr y] 128)).drew.heap[w0.heap.size]? = _ := heap_alloc_new w0 _
    have hE := Nat.lt_of_lt_of_le hKlt (Nat.le_of_eq h.len)
    obtain ⟨W, hW⟩ := get_some hE
    have HW := hide hW
    clear hq hx hy hc n1 n2 n3 n4 Hx Hy hW hE
    generalize (w0.alloc (.cells #[ptr x, ptr y] 128)).drew = wp at *
    obtain ⟨e1, _⟩ := row_facts g1
    obtain ⟨e2, _⟩ := row_facts g2
    have hT := h.below OX bp
    have t2 := hT.two K (x, y) W Hp.out HW.out
    have HT := hide hT
    clear hT g1 g2
    go_wp2_with fail
  all_goals
    refine (moves_round OX hlate wp _ _ x y W t2 c a b s).mono ?_
    rintro e w5 ⟨rfl, d⟩
    clear e1 e2
    go_wp2_with fail
    go_ret
    obtain ⟨O', Ws', ht, hbb⟩ := HT.out.moved OX Hp.out d
    exact ⟨rfl, ⟨O', _, ws, Ws', ht.more (by omega) (by omega), by omega⟩, (bp.mono h.hB).trans hbb⟩
end Go.Proofs.YtnniimfinakioaaGreatDoor
namespace Go.Proofs.YtnniimfinakioaaGreatDoor
open Go.RowKit
attribute [local go_sem ↓] eqTok eqEnt
attribute [local go_sem] toList_nm app_nm size_nm

theorem StepD.up {RX : World → (Nat → Prop) → Nat → Wd → Prop} {B q n nw nt nn : Nat} {w w' : World} (h : StepD RX B q n nt nn w w') (hn : n ≤ nw) : StepD RX B q nw nt nn w w' := by
  obtain ⟨⟨O, vW, ws, Ws, hT, hl⟩, hb⟩ := h
  exact ⟨⟨O, vW, ws, Ws, hT, by omega⟩, hb⟩

theorem step_any {RX : World → (Nat → Prop) → Nat → Wd → Prop} {late : Prop} (OX : ProgOpsG late RX) (B : Nat) (w : World) (q nw nt nn : Nat) (h : TopS RX B w q nw nt nn) (k c a b : Int) (s : Nm) (hk : k ≤ 15) (hlate : 12 < k → late) (hw : nw ≤ 1000000000) (h1 : nt ≤ 1000000000) (h2 : nn ≤ 900000000)
    (hs : s.length ≤ 2000000) (hc1 : -9223372036854775808 ≤ c) (hc2 : c ≤ 9223372036854775807) :
    Calls Tryz.prog 40 #[ptr q, opV k c a b s] w fun e w' => e = .returned (.bool true) ∧ StepD RX B q nw nt nn w w' := by
  obtain ⟨O, vW, ws, Ws, hT, hl⟩ := h
  have grew : ∀ {w' : World}, Below w.heap.size w w' → StepD RX B q nw nt nn w w' := fun hb => ⟨⟨O, vW, ws, Ws, (hT.below OX hb).more (by omega) (by omega), by omega⟩, hb.mono hT.hB⟩
  by_cases hk1 : k = 1
  · subst hk1
    by_cases ha : a < 1 ∨ 5 < a
    · refine (step_no OX w q c a b s ha).mono ?_
      rintro e w' ⟨rfl, hb⟩
      exact ⟨rfl, grew hb⟩
    · obtain ⟨m, rfl⟩ := Int.eq_ofNat_of_zero_le (a := a) (by omega)
      refine (step_yes OX B w O q vW ws Ws nt nn hT (by omega) c b m s (by omega) (by omega)).mono ?_
      rintro e w' ⟨rfl, O', vW', p, W, ht, hb⟩
      exact ⟨rfl, ⟨O', vW', _, _, ht.more (by omega) (by omega), by simp; omega⟩, hb⟩
  · by_cases h0 : ws.length = 0
    · refine (step_none B w O q vW ws Ws nt nn hT h0 k c a b s hk1).mono ?_
      rintro e w' ⟨rfl, hb⟩
      exact ⟨rfl, grew hb⟩
    · have hp : 0 < ws.length := by omega
      have hle : ws.length ≤ 1000000000 := by omega
      have fin : ∀ {e : Ending} {w' : World}, e = .returned (.bool true) ∧ StepD RX B q ws.length nt nn w w' → e = .returned (.bool true) ∧ StepD RX B q nw nt nn w w' := fun ⟨he, hd⟩ => ⟨he, hd.up hl⟩
      by_cases hk0 : k ≤ 0
      · exact (step_other OX B w O q vW ws Ws nt nn hT hp hle k c a b s hk0 hc1 hc2).mono fun _ _ => fin
      · have : k = 2 ∨ k = 3 ∨ k = 4 ∨ k = 5 ∨ k = 6 ∨ k = 7 ∨ k = 8 ∨ k = 9 ∨ k = 10 ∨ k = 11 ∨ k = 12 ∨ k = 13 ∨ k = 14 ∨ k = 15 := by omega
        rcases this with rfl | rfl | rfl | rfl | rfl | rfl | rfl | rfl | rfl | rfl | rfl | rfl | rfl | rfl
        · exact (step_add OX B w O q vW ws Ws nt nn hT hp hle c a b s hc1 hc2 hs).mono fun _ _ => fin
        · exact (step_remove OX B w O q vW ws Ws nt nn hT hp hle c a b s hc1 hc2 hs).mono fun _ _ => fin
        · exact (step_clear OX B w O q vW ws Ws nt nn hT hp hle c a b s hc1 hc2).mono fun _ _ => fin
        · exact (step_items OX B w O q vW ws Ws nt nn hT hp hle c a b s hc1 hc2 h1 h2).mono fun _ _ => fin
        · exact (step_text OX B w O q vW ws Ws nt nn hT hp hle c a b s hc1 hc2).mono fun _ _ => fin
        · exact (step_status OX B w O q vW ws Ws nt nn hT hp hle c a b s hc1 hc2 h1 h2).mono fun _ _ => fin
        · exact (step_send OX B w O q vW ws Ws nt nn hT hp hle c a b s hc1 hc2).mono fun _ _ => fin
        · exact (step_flying OX B w O q vW ws Ws nt nn hT hp hle c a b s hc1 hc2 h1 h2).mono fun _ _ => fin
        · exact (step_deliver OX B w O q vW ws Ws nt nn hT hp hle c a b s hc1 hc2).mono fun _ _ => fin
        · exact (step_drop OX B w O q vW ws Ws nt nn hT hp hle c a b s hc1 hc2).mono fun _ _ => fin
        · exact (step_double OX B w O q vW ws Ws nt nn hT hp hle c a b s hc1 hc2).mono fun _ _ => fin
        · exact (step_collect OX (hlate (by decide)) B w O q vW ws Ws nt nn hT hp hle c a b s hc1 hc2).mono fun _ _ => fin
        · exact (step_crash OX (hlate (by decide)) B w O q vW ws Ws nt nn hT hp hle c a b s hc1 hc2).mono fun _ _ => fin
        · exact (step_round OX (hlate (by decide)) B w O q vW ws Ws nt nn hT hp hle c a b s hc1 hc2).mono fun _ _ => fin

theorem TopS.looks {RX : World → (Nat → Prop) → Nat → Wd → Prop} {late : Prop} (OX : ProgOpsG late RX) {B : Nat} {w : World} {q nw nt nn : Nat} (h : TopS RX B w q nw nt nn) (h1 : nt ≤ 1000000000) (h2 : nn ≤ 1000000000) :
    Calls Tryz.prog 41 #[ptr q] w fun e w' => e = .returned (.bool true) ∧ TopS RX B w' q nw nt nn ∧ Below B w w' := by
  obtain ⟨O, vW, ws, Ws, hT, hl⟩ := h
  refine (hT.law.looks h1 h2).mono ?_
  rintro e w' ⟨rfl, hb⟩
  exact ⟨rfl, ⟨O, vW, ws, Ws, hT.below OX hb, hl⟩, hb.mono hT.hB⟩

/-- Nothing is made yet. -/
theorem top_zero {RX : World → (Nat → Prop) → Nat → Wd → Prop} (w : World) : TopS RX w.heap.size (w.alloc (.cells #[.slice none 0 0, .slice none 0 0, .slice none 0 0, .slice none 0 0, .slice none 0 0, .slice none 0 0, .slice none 0 0] 75)) w.heap.size 0 0 0 := by
  refine ⟨fun b => if b = w.heap.size then 1 else 0, .slice none 0 0, [], [], ⟨⟨.slice none 0 0, [], .slice none 0 0, [], .slice none 0 0, [], .slice none 0 0, [], .slice none 0 0, [], .slice none 0 0, [], ⟨⟨?_, heap_alloc_new w _, World.ownsRow_nil _ _ _ _, World.ownsRow_nil _ _ _ _, World.ownsRow_nil _ _ _ _, World.ownsRow_nil _ _ _ _, World.ownsRow_nil _ _ _ _, World.ownsRow_nil _ _ _ _, World.ownsRow_nil _ _ _ _, by simp, ?_, ?_, ?_, ?_, ?_, ?_, ?_, ?_, ?_, ?_⟩, ?_, ?_, rfl, rfl, rfl, ?_, ?_, ?_⟩, by simp, by simp, by simp, by simp⟩, rfl, ?_, ?_, ?_, by simp, ?_⟩, by simp⟩
  · intro b hb
    by_cases h : b = w.heap.size
    · subst h; simp
    · simp [h] at hb
  · intro g hg; simp [Value.ownBlock] at hg
  · intro g hg; simp [Value.ownBlock] at hg
  · intro g hg; simp [Value.ownBlock] at hg
  · intro g hg; simp [Value.ownBlock] at hg
  · intro g hg; simp [Value.ownBlock] at hg
  · intro g hg; simp [Value.ownBlock] at hg
  · intro g hg; simp [Value.ownBlock] at hg
  · intro g hg; simp [Value.ownBlock] at hg
  · intro g hg; simp [Value.ownBlock] at hg
  · intro g hg; simp [Value.ownBlock] at hg
  · intro b hb
    by_cases h : b = w.heap.size
    · simp [h] at hb
    · simp [h] at hb
  · intro b hb hc; omega
  · intro i v m hv; simp at hv
  · intro i v m hv; simp at hv
  · intro i v m hv; simp at hv
  · intro b hb
    by_cases h : b = w.heap.size
    · subst h; simp
    · simp [h] at hb
  · intro b
    by_cases h : b = w.heap.size <;> simp [h]
  · intro b hb
    by_cases h : b = w.heap.size
    · omega
    · simp [h] at hb
  · intro k p W hp; simp at hp
end Go.Proofs.YtnniimfinakioaaGreatDoor
namespace Go.Proofs.YtnniimfinakioaaGreatDoor
open Go.RowKit
attribute [local go_sem ↓] eqTok eqEnt
attribute [local go_sem] toList_nm app_nm size_nm

structure OpD where
  k : Int
  c : Int
  a : Int
  b : Int
  s : Nm
def opC (o : OpD) : List Value := [.int .i64 o.k, .int .i64 o.c, .int .i64 o.a, .int .i64 o.b, strV o.s]
structure OpOk (o : OpD) : Prop where
  s : o.s.length ≤ 2000000
  c1 : -9223372036854775808 ≤ o.c
  c2 : o.c ≤ 9223372036854775807
/-- The script lies in memory. -/
def ScriptR (w : World) (o : Option Addr) (l : List OpD) : Prop := ∀ (i : Nat) (x : OpD), l[i]? = some x → ∃ ad : Addr, o = some ad ∧ ad.block < w.heap.size ∧ ∀ (j : Nat) (u : Value), (opC x)[j]? = some u → w.cell? (ad.add (i * 5 + j)) = some u

theorem add_parts (a : Addr) (n : Nat) : (a.add n).block = a.block ∧ (a.add n).off = a.off + n := by
  unfold Addr.add
  split
  · rename_i h; subst h; exact ⟨rfl, rfl⟩
  · exact ⟨rfl, rfl⟩
theorem add_pos (a : Addr) (n : Nat) : a.add (n + 1) = ⟨a.block, a.off + (n + 1), none⟩ := by simp [Addr.add]

theorem TopS.more {RX : World → (Nat → Prop) → Nat → Wd → Prop} {B : Nat} {w : World} {q nw nt nn nw' nt' nn' : Nat} (h : TopS RX B w q nw nt nn) (h0 : nw ≤ nw') (h1 : nt ≤ nt') (h2 : nn ≤ nn') : TopS RX B w q nw' nt' nn' := by
  obtain ⟨O, vW, ws, Ws, hT, hl⟩ := h
  exact ⟨O, vW, ws, Ws, hT.more h1 h2, by omega⟩

set_option maxHeartbeats 4000000 in
set_option maxRecDepth 100000 in
theorem played_any {RX : World → (Nat → Prop) → Nat → Wd → Prop} {late : Prop} (OX : ProgOpsG late RX) (w : World) (o : Option Addr) (cap : Nat) (l : List OpD) (hl : l.length ≤ 1048576) (hr : ScriptR w o l) (hok : ∀ x ∈ l, OpOk x) (last : Int) (h15 : last ≤ 15) (hlate : 12 < last → late) :
    Calls Tryz.prog 12 #[.slice o l.length cap, .int .i64 last] w fun e w' => e = .returned (.bool true) ∧ Below w.heap.size w w' := by
  have z := top_zero (RX := RX) w
  have hb0 : Below w.heap.size w (w.alloc (.cells #[.slice none 0 0, .slice none 0 0, .slice none 0 0, .slice none 0 0, .slice none 0 0, .slice none 0 0, .slice none 0 0] 75)) := (Below.refl _ _).alloc (Nat.le_refl _) _
  have Z := hide z
  have HB0 := hide hb0
  have HR := hide hr
  have Hok := hide hok
  clear z hb0 hr hok
  go_enter Tryz.func12, Tryz.ntmps12
  go_wp2_with fail
  generalize w.alloc (.cells #[.slice none 0 0, .slice none 0 0, .slice none 0 0, .slice none 0 0, .slice none 0 0, .slice none 0 0, .slice none 0 0] 75) = w0 at *
  refine (step_any OX w.heap.size w0 w.heap.size 0 0 0 Z.out 1 0 2 0 [] (by decide) (fun h => absurd h (by decide)) (by decide) (by decide) (by decide) (by decide) (by decide) (by decide)).mono ?_
  rintro e w1 ⟨rfl, s1, b1⟩
  go_wp2_with fail
  refine (step_any OX w.heap.size w1 w.heap.size _ _ _ s1 2 0 0 0 [116, 101, 97] (by decide) (fun h => absurd h (by decide)) (by decide) (by decide) (by decide) (by decide) (by decide) (by decide)).mono ?_
  rintro e w2 ⟨rfl, s2, b2⟩
  go_wp2_with fail
  refine (step_any OX w.heap.size w2 w.heap.size _ _ _ s2 6 0 0 0 [] (by decide) (fun h => absurd h (by decide)) (by decide) (by decide) (by decide) (by decide) (by decide) (by decide)).mono ?_
  rintro e w3 ⟨rfl, s3, b3⟩
  have t3 := ((HB0.out.trans b1).trans b2).trans b3
  clear b1 b2 b3 s1 s2
  go_wp2_with fail
  go_loopw [6, 7] (fun ok j wr => ∃ k : Nat, k ≤ l.length ∧ j = .int .i64 k ∧ ok = .bool true ∧ TopS RX w.heap.size wr w.heap.size (3 + k) (12 + 4 * k) (36 + 12 * k) ∧ Below w.heap.size w wr) (fun _ j _ => l.length - (intOf j).toNat)
  case atStart => exact ⟨0, Nat.zero_le _, rfl, rfl, s3, t3⟩
  case round =>
    obtain ⟨k, hk, rfl, rfl, hs, hb⟩ := hrel
    by_cases hlt : k < l.length
    · obtain ⟨x, hx⟩ := get_some hlt
      obtain ⟨ad, rfl, had, hc⟩ := HR.out k x hx
      have ok := Hok.out x (List.mem_of_getElem? hx)
      have d0 : wr.cell? (ad.add (k * 5)) = some (.int .i64 x.k) := (hb.cell (p := ad.add (k * 5 + 0)) (by unfold Addr.add; split <;> exact had)).trans (hc 0 _ rfl)
      have dj : ∀ (j : Nat) (u : Value), (opC x)[j + 1]? = some u → wr.cell? ⟨(ad.add (k * 5)).block, (ad.add (k * 5)).off + (j + 1), none⟩ = some u := fun j u hu => by
        have h1 := hc (j + 1) u hu
        rw [show k * 5 + (j + 1) = (k * 5 + j) + 1 by omega, add_pos] at h1
        rw [(add_parts ad (k * 5)).1, (add_parts ad (k * 5)).2, show ad.off + k * 5 + (j + 1) = ad.off + (k * 5 + j + 1) by omega, hb.cell (p := ⟨ad.block, ad.off + (k * 5 + j + 1), none⟩) had]
        exact h1
      have d1 := dj 0 _ rfl
      have d2 := dj 1 _ rfl
      have d3 := dj 2 _ rfl
      have d4 := dj 3 _ rfl
      simp only [Nat.reduceAdd] at d1 d2 d3 d4
      clear dj
      clear hc hx
      by_cases h7 : x.k ≤ last
      · have h7' : decide (x.k ≤ last) = true := by simpa using h7
        go_wp2_with fail
        refine (step_any OX w.heap.size wr w.heap.size _ _ _ hs x.k x.c x.a x.b x.s (by omega) (fun h => hlate (by omega)) (by omega) (by omega) (by omega) ok.s ok.c1 ok.c2).mono ?_
        rintro e w4 ⟨rfl, s4, b4⟩
        clear d0 d1 d2 d3 d4
        go_wp2_with fail
        refine (s4.looks OX (by omega) (by omega)).mono ?_
        rintro e w5 ⟨rfl, s5, b5⟩
        go_wp2_with fail
        exact ⟨⟨k + 1, by omega, by go_num, rfl, s5, (hb.trans b4).trans b5⟩, by simp [intOf]; omega⟩
      · have h7' : decide (x.k ≤ last) = false := by simpa using h7
        go_wp2_with fail
        refine (hs.looks OX (by omega) (by omega)).mono ?_
        rintro e w5 ⟨rfl, s5, b5⟩
        clear d0 d1 d2 d3 d4
        go_wp2_with fail
        exact ⟨⟨k + 1, by omega, by go_num, rfl, s5.more (by omega) (by omega) (by omega), hb.trans b5⟩, by simp [intOf]; omega⟩
    · go_wp2_with fail
      go_ret
      exact ⟨rfl, hb⟩

theorem alone_any {RX : World → (Nat → Prop) → Nat → Wd → Prop} {late : Prop} (OX : ProgOpsG late RX) (w : World) (o : Option Addr) (cap : Nat) (l : List OpD) (hl : l.length ≤ 1048576) (hr : ScriptR w o l) (hok : ∀ x ∈ l, OpOk x) :
    Calls Tryz.prog 3 #[.slice o l.length cap] w fun e w' => e = .returned (.bool true) ∧ Below w.heap.size w w' := by
  go_enter Tryz.func3, Tryz.ntmps3
  go_wp2_with fail
  refine (played_any OX w o cap l hl hr hok 7 (by decide) (fun h => absurd h (by decide))).mono ?_
  rintro e w1 ⟨rfl, hb⟩
  go_wp2_with fail
  go_ret
  exact ⟨rfl, hb⟩

theorem sent_any {RX : World → (Nat → Prop) → Nat → Wd → Prop} {late : Prop} (OX : ProgOpsG late RX) (w : World) (o : Option Addr) (cap : Nat) (l : List OpD) (hl : l.length ≤ 1048576) (hr : ScriptR w o l) (hok : ∀ x ∈ l, OpOk x) :
    Calls Tryz.prog 4 #[.slice o l.length cap] w fun e w' => e = .returned (.bool true) ∧ Below w.heap.size w w' := by
  go_enter Tryz.func4, Tryz.ntmps4
  go_wp2_with fail
  refine (played_any OX w o cap l hl hr hok 12 (by decide) (fun h => absurd h (by decide))).mono ?_
  rintro e w1 ⟨rfl, hb⟩
  go_wp2_with fail
  go_ret
  exact ⟨rfl, hb⟩
end Go.Proofs.YtnniimfinakioaaGreatDoor
