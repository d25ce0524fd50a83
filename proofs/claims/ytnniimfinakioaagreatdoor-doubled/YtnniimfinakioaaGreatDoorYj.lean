import Derived.Test.YtnniimfinakioaaGreatDoorYi
import Derived.Test.YtnniimfinakioaaGreatDoorXf
import Derived.Test.YtnniimfinakioaaGreatDoorXa
import Derived.Test.YtnniimfinakioaaGreatDoorYb
import Derived.Test.YtnniimfinakioaaGreatDoorYe
namespace Go.Proofs.YtnniimfinakioaaGreatDoor
open Go.RowKit
attribute [local go_sem] toList_nm app_nm size_nm

section
variable {P : Program} (w : World)
/-- An append for which there is room. -/
theorem run_appR {t e size bytes : Nat} (E : ElemT P t e size bytes) (ty : TypeId) (g n cap : Nat) (xs : List Value) (hown : w.ownsRow 0 e size (.slice (some ⟨g, 0, none⟩) n cap) n xs)
    (ad : Addr) (m c : Nat) (news : List Value) (hsrc : Src w size (.slice (some ad) m c) m news) (hroom : n + m ≤ cap) (h63 : n + m ≤ maxLen) (hbytes : (n + m) * bytes ≤ 140737488355328) :
    ∃ w', (Builtin.append_ #[t, t] ty #[.slice (some ⟨g, 0, none⟩) n cap, .slice (some ad) m c]).run P w = .ok (.slice (some ⟨g, 0, none⟩) (n + m) cap) w' ∧ w'.ownsRow 0 e size (.slice (some ⟨g, 0, none⟩) (n + m) cap) (n + m) (xs ++ news) ∧ w.grownBy w' (some g) := by
  obtain ⟨v', w', hr, h1, h2, h3⟩ := run_app (P := P) w E ty _ n xs hown _ m news hsrc h63 hbytes
  obtain ⟨hu, ⟨i, z, hi, hz, hsize, hby, hzs⟩, hsz⟩ := E
  obtain ⟨hl, ho, hs⟩ := hsrc
  subst hsize
  rcases hs with ⟨hx, _⟩ | ⟨ad', c', hx, hc⟩
  · cases hx
  · simp only [Value.slice.injEq, Option.some.injEq, true_and] at hx
    obtain ⟨rfl, rfl⟩ := hx
    rcases hown.2 with ⟨hx, _⟩ | ⟨g', cap', cur, hx, hbg, hg, hnc, hcm, hcs, htake⟩
    · cases hx
    · simp only [Value.slice.injEq, Option.some.injEq, Addr.mk.injEq, and_true, true_and] at hx
      obtain ⟨rfl, rfl⟩ := hx
      have hfit : n * i.size + news.length ≤ cur.size := by rw [hl, hcs, ← Nat.add_mul]; exact Nat.mul_le_mul_right _ hroom
      have hr2 := run_append_room (P := P) w t ty e i hu hi g n cap cur hg ad m c news hl hc ho hroom hfit
      have := hr.symm.trans hr2
      simp only [Result.ok.injEq] at this
      obtain ⟨rfl, _⟩ := this
      exact ⟨w', hr, h1, h2⟩
theorem wpList_appR {t e size bytes : Nat} (E : ElemT P t e size bytes) {ops : Array Oper} {rest : List Oper} {o : Oper} {a : Act} {Q : Exit → Act → World → Prop} (hgd : o.guard = none) (s x : Operand)
    (ho : o.op = .call { callee := .builtin .append, args := #[s, x], argTypes := #[t, t] })
    (g n cap : Nat) (xs : List Value) (hs : a.eval s = .slice (some ⟨g, 0, none⟩) n cap) (hown : w.ownsRow 0 e size (.slice (some ⟨g, 0, none⟩) n cap) n xs)
    (ad : Addr) (m c : Nat) (news : List Value) (hx : a.eval x = .slice (some ad) m c) (hsrc : Src w size (.slice (some ad) m c) m news) (hroom : n + m ≤ cap) (h63 : n + m ≤ maxLen) (hbytes : (n + m) * bytes ≤ 140737488355328)
    (h : ∀ w', w'.ownsRow 0 e size (.slice (some ⟨g, 0, none⟩) (n + m) cap) (n + m) (xs ++ news) → w.grownBy w' (some g) → wpList P ops Q rest (a.put o.dst (.slice (some ⟨g, 0, none⟩) (n + m) cap)) w') : wpList P ops Q (o :: rest) a w :=
  wpList_plain hgd fun _ hK => by
    obtain ⟨w', hr, h2, h3⟩ := run_appR (P := P) w E o.type g n cap xs hown ad m c news hsrc hroom h63 hbytes
    unfold Oper.wp execOp
    simp only [ho, resolve, invoke, builtin, Sem.run_bind, Sem.run_pure, Result.andThen_ok, List.map_toArray, List.map_cons, List.map_nil, hs, hx, hr]
    exact hK _ _ (h w' h2 h3)
end

/-- A row's room is cleared behind what it holds. -/
theorem run_clearR {P : Program} (w : World) {t e ty : TypeId} {z : Value} (ht : P.underlying t = some (.slice e)) (hv : ∀ w, (zeroValue e).run P w = .ok z w) (h1 : ∀ u ∈ z.cells, u.oneCell' = true) {size g n cap off k c : Nat} {xs : List Value} (hz : z.cells.size = size)
    (hown : w.ownsRow 0 e size (.slice (some ⟨g, 0, none⟩) n cap) n xs) (hoff : n ≤ off) (hk : 0 < k) (hfit : off + k ≤ cap) :
    ∃ w', (Builtin.clear_ #[t] ty #[.slice (some ⟨g, off * size, none⟩) k c]).run P w = .ok (.tuple #[]) w' ∧ w'.ownsRow 0 e size (.slice (some ⟨g, 0, none⟩) n cap) n xs ∧ w.grownBy w' (some g) := by
  rcases hown.2 with ⟨hx, _⟩ | ⟨g', cap', cur, hx, hbg, hg, hnc, hcm, hcs, htake⟩
  · cases hx
  · simp only [Value.slice.injEq, Option.some.injEq, Addr.mk.injEq, and_true, true_and] at hx
    obtain ⟨rfl, rfl⟩ := hx
    have hsz : (Builtin.zeroCells z.cells k).toList.length = k * size := by rw [Array.length_toList, size_zeroCells, hz]
    have hle : off * size + k * size ≤ cur.size := by rw [hcs, ← Nat.add_mul]; exact Nat.mul_le_mul_right _ hfit
    have hone : ∀ u ∈ (Builtin.zeroCells z.cells k).toList, u.oneCell' = true := fun u hu => by
      simp only [Builtin.zeroCells, Array.toList_map, List.mem_map, Array.toList_range, List.mem_range] at hu
      obtain ⟨j, hj, rfl⟩ := hu
      by_cases hs : size = 0
      · rw [hz, hs] at hj; simp at hj
      · have hlt : j % z.cells.size < z.cells.size := Nat.mod_lt _ (by omega)
        rw [getElem!_pos z.cells (j % z.cells.size) hlt]
        exact h1 _ (Array.getElem_mem hlt)
    have hst := run_storeCells_at P g (off * size) e (Builtin.zeroCells z.cells k).toList 0 cur w hg (by rw [hsz]; simpa using hle) hone
    simp only [Nat.add_zero] at hst
    refine ⟨w.setRow g (cur.toList.take (off * size) ++ (Builtin.zeroCells z.cells k).toList ++ cur.toList.drop (off * size + (Builtin.zeroCells z.cells k).toList.length)).toArray, ?_, ?_, ?_⟩
    · cases k with
      | zero => omega
      | succ k => simp [Builtin.clear_, run_underlying ht, hv, hst]
    · have hset := setRow_heap w g cur (cur.toList.take (off * size) ++ (Builtin.zeroCells z.cells k).toList ++ cur.toList.drop (off * size + (Builtin.zeroCells z.cells k).toList.length)).toArray e (0, 0) hg
      refine ⟨hown.1, .inr ⟨g, cap, _, rfl, hbg, hset, hnc, hcm, ?_, ?_⟩⟩
      · simp only [List.size_toArray, List.length_append, List.length_take, List.length_drop, Array.length_toList]
        rw [Array.length_toList] at hsz
        omega
      · have hno : n * size ≤ off * size := Nat.mul_le_mul_right _ hoff
        have hl : (cur.toList.take (off * size)).length = off * size := by rw [List.length_take, Array.length_toList]; omega
        simp only [List.append_assoc]
        rw [List.take_append_of_le_length (by omega), List.take_take, Nat.min_eq_left hno]
        exact htake
    · exact ⟨rfl, rfl, rfl, by simp [World.setRow], fun b hb hne => setRow_other w g b _ (fun e => hne (by rw [e]))⟩

theorem zeroMsg (w : World) : (zeroValue 92).run Tryz.prog w = .ok (.agg #[.int .i64 0, .int .i64 0, .int .i64 0, .int .i64 0, .map none, .map none]) w := by kernel_rfl
theorem PFlyR.one {w : World} {S : Nat → Prop} {v : Value} {fs : List PM} (h : PFlyR w S v fs) : ∀ m ∈ fs, ∀ u ∈ pmC m, u.oneCell' = true := fun m hm => pmC_one m (by rw [(h.piece m hm).E.form]; rfl) (by rw [(h.piece m hm).K.form]; rfl)


set_option maxHeartbeats 2000000 in
set_option maxRecDepth 100000 in
theorem delete_any (w : World) (g c : Nat) (fs : List PM) (h : w.ownsRow 0 92 6 (.slice (some ⟨g, 0, none⟩) fs.length c) fs.length (fs.flatMap pmC)) (hone : ∀ m ∈ fs, ∀ u ∈ pmC m, u.oneCell' = true) (k : Nat) (hk : k < fs.length) (hl : fs.length ≤ 1000) :
    Calls Tryz.prog 86 #[.slice (some ⟨g, 0, none⟩) fs.length c, .int .i64 k, .int .i64 ((k + 1 : Nat) : Int)] w fun e w' => ∃ n, n = (fs.take k ++ fs.drop (k + 1)).length ∧ e = .returned (.slice (some ⟨g, 0, none⟩) n c) ∧
      w'.ownsRow 0 92 6 (.slice (some ⟨g, 0, none⟩) n c) n ((fs.take k ++ fs.drop (k + 1)).flatMap pmC) ∧ Kp w.heap.size (fun b => b = g) w w' := by
  obtain ⟨o', c', hf, hcc, hcm⟩ := own_form h
  simp only [Value.slice.injEq, true_and] at hf
  obtain ⟨rfl, rfl⟩ := hf
  have hne : ((k : Int) == ((k + 1 : Nat) : Int)) = false := by simp; omega
  have elen : (fs.take k ++ fs.drop (k + 1)).length = k + (fs.length - (k + 1)) := by simp; omega
  have hne' : ((k : Int) == (k : Int) + 1) = false := by rw [beq_eq_false_iff_ne]; omega
  have hpre : w.ownsRow 0 92 6 (.slice (some ⟨g, 0, none⟩) k c) k ((fs.take k).flatMap pmC) := by
    rcases h.2 with ⟨hx, _⟩ | ⟨g', cap', cur, hx, hbg, hg, hnc, hcm, hcs, htake⟩
    · cases hx
    · simp only [Value.slice.injEq, Option.some.injEq, Addr.mk.injEq, and_true, true_and] at hx
      obtain ⟨rfl, rfl⟩ := hx
      refine ⟨by rw [flat_len pmW, List.length_take]; omega, .inr ⟨g, c, cur, rfl, hbg, hg, by omega, hcm, hcs, ?_⟩⟩
      have h1 : fs.flatMap pmC = (fs.take k).flatMap pmC ++ (fs.drop k).flatMap pmC := by rw [← List.flatMap_append, List.take_append_drop]
      have h2 : ((fs.take k).flatMap pmC).length = k * 6 := by rw [flat_len pmW, List.length_take]; omega
      have h3 : cur.toList.take (k * 6) = (cur.toList.take (fs.length * 6)).take (k * 6) := by rw [List.take_take, Nat.min_eq_left (by omega)]
      rw [h3, htake, h1, List.take_append_of_le_length (by omega), List.take_of_length_le (by omega)]
  have hgl : g < w.heap.size := (h.lt g rfl).2
  obtain ⟨Sx, hSx⟩ : ∃ Sx : Nat → Prop, Sx = fun b => b = g := ⟨_, rfl⟩
  have hkc : k ≤ c := by omega
  have hk1 : k + 1 ≤ fs.length := by omega
  have HSx := hide hSx
  have HP := hide hpre
  have HH := hide h
  have HO := hide hone
  clear hpre h hone hSx
  go_enter Tryz.func86, Tryz.ntmps86
  go_wp2_with fail
  refine wp_region_flt [0, 1, 2, 3, 4, 5] [6, 7] (fun w' => ∃ x : GrS w Sx, w' = x.w) (by kernel_rfl) (by kernel_rfl) (fun _ _ d _ _ h => by cases d <;> exact h) ⟨⟨w.drew, (Kp.refl _ _ _).drew⟩, rfl⟩ ?_
  simp only [pickOps, List.getElem?_cons_zero, List.getElem?_cons_succ]
  by_cases hck : c = k + 1
  · subst hck
    repeat (go_big_quiet_step (rfl))
    refine wpQuiet_nil ?_
    refine ⟨_, rfl, ?_⟩
    refine wpList_appR (t := 82) _ eMsgP (by rfl) _ _ (by rfl) g k (k + 1) ((fs.take k).flatMap pmC) (by rfl) ?_ _ 0 _ ((fs.drop (k + 1)).flatMap pmC) (by rfl) ?_ ?_ ?_ ?_ ?_
    · exact own_below HP.out (Below.refl _ _).drew
    · exact srcF_drop0 (by rw [List.drop_of_length_le (by omega)]) (by omega)
    · omega
    · simp only [maxLen] at *; omega
    · omega
    · intro w1 hown1 hgr1
      have kp1 : Kp w.heap.size Sx w w1 := by
        have k1 := (Kp.refl w.heap.size Sx w).drew
        exact k1.grown hgr1 (by simp) (fun k hk => Or.inr (by rw [HSx.out]; cases hk; rfl))
      obtain ⟨w2, hrun2, hown2, hgr2⟩ := run_clearR (P := Tryz.prog) w1 (ty := 0) Tryz.underlying82 zeroMsg (by intro u hu; simp [Value.cells] at hu; rcases hu with rfl | rfl <;> rfl) (size := 6) (off := k) (k := (fs.length - k)) (c := 1) (by rfl) hown1 (by omega) (by omega) (by omega)
      have kp2 : Kp w.heap.size (fun b => b = g) w w2 := by
        have k1 := kp1.grown hgr2 kp1.size (fun k hk => Or.inr (by rw [HSx.out]; cases hk; rfl))
        rw [HSx.out] at k1
        exact k1
      have HK2 := hide kp2
      have HO2 := hide hown2
      clear hown1 hgr1 hgr2 kp2 hown2
      go_wp2_with fail
      refine ⟨fun _ => ⟨⟨w1, kp1⟩, rfl⟩, _, rfl, ?_⟩
      go_wp2_with fail
      refine ⟨fun h => absurd rfl h, ?_⟩
      unfold wpFin
      go_wp2_with fail
      go_ret
      exact ⟨k, by omega, rfl, by rw [List.flatMap_append]; exact HO2.out, HK2.out⟩
  ·
    repeat (go_big_quiet_step (rfl))
    refine wpQuiet_nil ?_
    refine ⟨_, rfl, ?_⟩
    refine wpList_appR (t := 82) _ eMsgP (by rfl) _ _ (by rfl) g k c ((fs.take k).flatMap pmC) (by rfl) ?_ _ (fs.length - (k + 1)) _ ((fs.drop (k + 1)).flatMap pmC) (by rfl) ?_ ?_ ?_ ?_ ?_
    · exact own_below HP.out (Below.refl _ _).drew
    · exact srcF_drop pmW HO.out HH.out ((Below.refl _ _).drew) (by omega)
    · omega
    · simp only [maxLen] at *; omega
    · omega
    · intro w1 hown1 hgr1
      have kp1 : Kp w.heap.size Sx w w1 := by
        have k1 := (Kp.refl w.heap.size Sx w).drew
        exact k1.grown hgr1 (by simp) (fun k hk => Or.inr (by rw [HSx.out]; cases hk; rfl))
      obtain ⟨w2, hrun2, hown2, hgr2⟩ := run_clearR (P := Tryz.prog) w1 (ty := 0) Tryz.underlying82 zeroMsg (by intro u hu; simp [Value.cells] at hu; rcases hu with rfl | rfl <;> rfl) (size := 6) (off := (k + (fs.length - (k + 1)))) (k := (fs.length - (k + (fs.length - (k + 1))))) (c := (c - (k + (fs.length - (k + 1))))) (by rfl) hown1 (by omega) (by omega) (by omega)
      have kp2 : Kp w.heap.size (fun b => b = g) w w2 := by
        have k1 := kp1.grown hgr2 kp1.size (fun k hk => Or.inr (by rw [HSx.out]; cases hk; rfl))
        rw [HSx.out] at k1
        exact k1
      have HK2 := hide kp2
      have HO2 := hide hown2
      clear hown1 hgr1 hgr2 kp2 hown2
      go_wp2_with fail
      refine ⟨fun _ => ⟨⟨w1, kp1⟩, rfl⟩, _, rfl, ?_⟩
      go_wp2_with fail
      refine ⟨fun h => absurd rfl h, ?_⟩
      unfold wpFin
      go_wp2_with fail
      go_ret
      exact ⟨(k + (fs.length - (k + 1))), by omega, rfl, by rw [List.flatMap_append]; exact HO2.out, HK2.out⟩
end Go.Proofs.YtnniimfinakioaaGreatDoor
namespace Go.Proofs.YtnniimfinakioaaGreatDoor
open Go.RowKit
attribute [local go_sem] toList_nm app_nm size_nm

set_option maxHeartbeats 1000000 in
set_option maxRecDepth 100000 in
theorem land_any (w : World) (S : Nat → Prop) (p : Nat) (vN : Value) (ns : List PN) (vF : Value) (fs : List PM) (h : ProgR w S p vN ns vF fs) (k : Nat) (hk : k < fs.length) (hl : fs.length ≤ 1000) :
    Calls Tryz.prog 51 #[ptr p, .int .i64 k] w fun e w' => e = .returned (.tuple #[]) ∧ (∃ vF', ProgR w' (Ext S w w') p vN ns vF' (fs.take k ++ fs.drop (k + 1))) ∧ Kp w.heap.size S w w' ∧ ∀ a b r, PPieceR w S a b r → PPieceR w' (Ext S w w') a b r := by
  obtain ⟨o, cF, hvF, _, _⟩ := own_form h.fly.row
  have hrow := h.fly.row
  rw [hvF] at hrow
  obtain ⟨x, hx⟩ := get_some hk
  obtain ⟨gF, rfl, hgF, _⟩ := pFly_at hrow hx
  obtain ⟨q1, _⟩ := row_facts h.self
  have cp := q1 1
  simp only [List.getElem?_cons_zero, List.getElem?_cons_succ, List.getElem?_toArray] at cp
  rw [hvF] at cp
  have hD := delete_any w gF cF fs hrow h.fly.one k hk hl
  have hpF : p ≠ gF := by
    have := own_ne hrow h.self (by decide)
    intro e
    exact this (by rw [← e]; rfl)
  have HVF := hide hvF
  clear q1 hrow hx hvF
  go_enter Tryz.func51, Tryz.ntmps51
  go_wp2_with fail
  refine hD.mono ?_
  rintro e w2 ⟨n, hn, rfl, hown, hK⟩
  obtain ⟨e2, f2⟩ := row_facts ((hK.block p (lt_of_heap h.self) hpF).trans h.self)
  have c2 := e2 1
  have z2 := f2 1
  simp only [List.getElem?_cons_zero, List.getElem?_cons_succ, List.getElem?_toArray] at c2
  have fin := h.flown (fs' := fs.take k ++ fs.drop (k + 1)) (v3 := .slice (some ⟨gF, 0, none⟩) n cF) (fun m hm => h.fly.piece m (by
    rcases List.mem_append.1 hm with x | x
    · exact List.mem_of_mem_take x
    · exact List.mem_of_mem_drop x)) (Sx := fun b => b = gF) (by rw [HVF.out]; funext b; simp [Value.ownBlock, eq_comm]) hK (by rw [← hn]; exact hown) (Or.inl (by rw [HVF.out]; rfl))
  have FIN := hide fin
  clear hD e2 f2 fin hown hK hn
  go_wp2_with fail
  go_end0
  exact ⟨rfl, ⟨_, FIN.out.1⟩, FIN.out.2⟩

set_option maxHeartbeats 2000000 in
set_option maxRecDepth 100000 in
theorem pDrop (w : World) (S : Nat → Prop) (p : Nat) (W : Wd) (i : Int) (h : ProgW w S p W) (ok : WG W) :
    Calls Tryz.prog 26 #[ptr p, .int .i64 i] w fun e w' => e = .returned (err (dropM W i).1) ∧ ProgW w' (Ext S w w') p (dropM W i).2 ∧ Kp w.heap.size S w w' := by
  obtain ⟨HH, ok⟩ := ok
  obtain ⟨vN, ns, vF, fs, hr, hm, hf⟩ := h
  have hlen : ns.length = W.nodes.length := by rw [← hm, List.length_map]
  have hl : ns.length ≤ 1000 := by have := ok.five; omega
  have hfl : fs.length = W.fly.length := by rw [← hf, List.length_map]
  have hfl' : fs.length ≤ 1000 := by have := ok.forty; omega
  have H : ProgW w S p W := ⟨vN, ns, vF, fs, hr, hm, hf⟩
  have hI := isFlying_any w S p vN ns vF fs hr i hfl'
  cases hn : msgAt W i with
  | none =>
    have e0 : dropM W i = (3, W) := by unfold dropM; rw [hn]
    have e1 : decide (0 ≤ i ∧ i < (fs.length : Int)) = false := by rw [hfl]; have := msgAt_none hn; exact decide_eq_false (by omega)
    rw [e0]
    rw [e1] at hI
    go_enter Tryz.func26, Tryz.ntmps26
    go_wp2_with fail
    refine hI.mono ?_
    rintro e w' ⟨rfl, rfl⟩
    go_wp2_with fail
    go_ret
    exact ⟨rfl, H.same⟩
  | some m =>
    obtain ⟨k, rfl, hk⟩ := msgAt_some hn
    obtain ⟨x, hx, rfl⟩ := pm_of hf hk
    have hkl : k < fs.length := (List.getElem?_eq_some_iff.1 hx).1
    have e0 : dropM W k = (0, { W with fly := gone W k }) := by unfold dropM; rw [hn]; simp
    have e1 : decide (0 ≤ (k : Int) ∧ (k : Int) < (fs.length : Int)) = true := by simp; omega
    rw [e0]
    rw [e1] at hI
    have hL := land_any w S p vN ns vF fs hr k hkl hfl'
    go_enter Tryz.func26, Tryz.ntmps26
    go_wp2_with fail
    refine hI.mono ?_
    rintro e w' ⟨rfl, rfl⟩
    go_wp2_with fail
    refine hL.mono ?_
    rintro e w3 ⟨rfl, ⟨vF', hR⟩, hK, _⟩
    clear hL
    go_wp2_with fail
    go_ret
    exact ⟨rfl, ⟨_, _, _, _, hR, hm, by simp [gone, ← hf]⟩, hK⟩

/-- Are two pieces the same? -/
theorem equal_set (w : World) (vA vAK vB vBK : Value) (a b : Pc) (hA : SetV entV w vA a.L) (hAK : SetV tokV w vAK a.K) (hB : SetV entV w vB b.L) (hBK : SetV tokV w vBK b.K)
    (s1 : Sorted aheadB a.L) (s2 : Sorted aheadB b.L) (s3 : Sorted beforeB a.K) (s4 : Sorted beforeB b.K) :
    Calls Tryz.prog 118 #[.agg #[vA, vAK], .agg #[vB, vBK]] w fun e w' => e = .returned (.bool (decide (a.L = b.L ∧ a.K = b.K))) ∧ Below w.heap.size w w' := by
  obtain ⟨ea, ha1, ha2⟩ := hA
  obtain ⟨ka, hk1, hk2⟩ := hAK
  obtain ⟨eb, hb1, hb2⟩ := hB
  obtain ⟨kb, hc1, hc2⟩ := hBK
  have h := equal_maps w vA vAK vB vBK ea eb ka kb ha1 hk1 hb1 hc1 (decide (a.L = b.L)) (decide (a.K = b.K))
    (by
      rw [decide_eq_true_iff]
      exact ⟨fun e x => by rw [ha2, hb2, e], fun e => sorted_ext ord_ahead s1 s2 fun x => by rw [← ha2, ← hb2]; exact e x⟩)
    (by
      rw [decide_eq_true_iff]
      exact ⟨fun e x => by rw [hk2, hc2, e], fun e => sorted_ext ord_before s3 s4 fun x => by rw [← hk2, ← hc2]; exact e x⟩)
  refine h.mono ?_
  rintro e w' ⟨rfl, hb⟩
  exact ⟨by congr 2; simp, hb⟩

set_option maxHeartbeats 2000000 in
set_option maxRecDepth 100000 in
theorem hear_any (w : World) (S : Nat → Prop) (p g c : Nat) (ns : List PN) (vF : Value) (fs : List PM) (h : ProgR w S p (.slice (some ⟨g, 0, none⟩) ns.length c) ns vF fs) (i : Nat) (d : PN) (hd : ns[i]? = some d)
    (vE vK : Value) (q : Pc) (hq : PPieceR w S vE vK q) (HE : List Ent) (hp1 : PcOk HE d.p) (hp2 : PcOk HE q) (hc : d.count ≤ 1000000000) (hk : d.kept.length ≤ 1000000000) :
    Calls Tryz.prog 79 #[.pointer (some ⟨g, i * 5, none⟩), .agg #[vE, vK]] w fun e w' => e = .returned (.tuple #[]) ∧
      (∃ ns', ProgR w' (Ext S w w') p (.slice (some ⟨g, 0, none⟩) ns.length c) ns' vF fs ∧ ns'.map PN.m = (ns.map PN.m).set i (comeN d.m q)) ∧ Kp w.heap.size S w w' := by
  obtain ⟨g', c', hgc, hSg, hg, hgp, hcell, hfz⟩ := h.at hd
  simp only [Value.slice.injEq, Option.some.injEq, Addr.mk.injEq, and_true] at hgc
  obtain ⟨rfl, _, rfl⟩ := hgc
  have hnd := h.node d (List.mem_of_getElem? hd)
  have hilt : i < ns.length := (List.getElem?_eq_some_iff.1 hd).1
  obtain ⟨m1, rfl⟩ : ∃ m1, vE = .map m1 := ⟨_, hq.E.form⟩
  obtain ⟨m2, rfl⟩ : ∃ m2, vK = .map m2 := ⟨_, hq.K.form⟩
  have c0 := hcell 0 (by decide)
  have c1 := hcell 1 (by decide)
  simp only [pnC, List.getElem?_cons_zero, List.getElem?_cons_succ, Nat.add_zero] at c0 c1
  clear hcell hfz
  obtain ⟨md1, hd1⟩ : ∃ m, d.vE = .map m := ⟨_, hnd.pc.E.form⟩
  obtain ⟨md2, hd2⟩ : ∃ m, d.vK = .map m := ⟨_, hnd.pc.K.form⟩
  have sE := hnd.pc.E
  have sK := hnd.pc.K
  rw [hd1] at c0 sE
  rw [hd2] at c1 sK
  have hb : Below w.heap.size w (w.alloc (.cells #[.map m1, .map m2] 90)) := (Below.refl _ _).alloc (Nat.le_refl _) _
  have q0 := heap_alloc_new w (.cells #[.map m1, .map m2] 90)
  have HB := hide hb
  have Q0 := hide q0
  clear hb q0 hd1 hd2
  go_enter Tryz.func79, Tryz.ntmps79
  go_wp2_with fail
  generalize w.alloc (.cells #[.map m1, .map m2] 90) = W0 at *
  have hwl : w.heap.size < W0.heap.size := lt_of_heap Q0.out
  have hgl : g < W0.heap.size := by omega
  have k0 := (HB.out.cell (p := ⟨g, i * 5, none⟩) hg).trans c0
  have k1 := (HB.out.cell (p := ⟨g, i * 5 + 1, none⟩) hg).trans c1
  obtain ⟨e0, _⟩ := row_facts Q0.out
  have k2 := e0 0
  have k3 := e0 1
  simp only [List.getElem?_toArray, List.getElem?_cons_zero, List.getElem?_cons_succ] at k2 k3
  have bd : Below w.heap.size w W0.drew := HB.out.drew
  have hJ := join_set W0.drew (.map md1) (.map md2) (.map m1) (.map m2) d.p q (sE.below bd) (sK.below bd) (hq.E.below bd) (hq.K.below bd)
  have HJ := hide hJ
  clear hJ c0 c1 e0
  have hG := Grw.cell W0
  have hGn := Grw.some W0
  refine wp_region_fltC [0, 1, 2, 3, 4, 6, 7, 8, 9] [5, 10, 11] (fun w' => ∃ x : Grw W0, w' = x.w) (by kernel_rfl) (by kernel_rfl) (fun _ _ d _ _ h => by cases d <;> exact h) ⟨⟨W0.drew, (Below.refl _ _).drew⟩, rfl⟩ ?_
  simp only [pickOps, List.getElem?_cons_zero, List.getElem?_cons_succ]
  repeat (go_big_quiet_step (fail))
  refine wpQuiet_nil ?_
  refine ⟨_, rfl, ?_⟩
  go_wp2_with fail
  refine HJ.out.mono ?_
  rintro e w1 ⟨jc, jk, rfl, hnc, hnk, hJL, hJK, hb1⟩
  have hb1' : Below W0.heap.size W0 w1 := ⟨hb1.os, hb1.tape, hb1.output, hb1.size, hb1.block⟩
  have hbw1 : Below w.heap.size w w1 := HB.out.trans (hb1'.mono HB.out.size)
  have hpj := hp1.join hp2
  have hEq := equal_set w1 _ _ (.map md1) (.map md2) (joinP d.p q) d.p hJL hJK (sE.below hbw1) (sK.below hbw1) hpj.sL hp1.sL hpj.sK hp1.sK
  have HB1 := hide hb1'
  clear hb1 hb1' hbw1 hG hGn
  go_wp2_with fail
  refine ⟨fun _ => ⟨⟨w1, HB1.out⟩, rfl⟩, _, rfl, ?_⟩
  go_wp2_with fail
  refine hEq.mono ?_
  rintro e w2 ⟨rfl, hb2⟩
  have hb2' : Below W0.heap.size W0 w2 := HB1.out.trans (hb2.mono HB1.out.size)
  have hbw2 : Below w.heap.size w w2 := HB.out.trans (hb2'.mono HB.out.size)
  have k2' := (hb2'.cell (p := ⟨w.heap.size, 0, none⟩) hwl).trans k2
  have k3' := (hb2'.cell (p := ⟨w.heap.size, 1, none⟩) hwl).trans k3
  have HB2 := hide hb2'
  have HW2 := hide hbw2
  clear hEq hb2 hb2' k0 k1 k2 k3
  have hdm : (ns.map PN.m)[i]? = some d.m := by simp [hd]
  by_cases hsame : (joinP d.p q).L = d.p.L ∧ (joinP d.p q).K = d.p.K
  · have hcm : comeN d.m q = d.m := if_pos hsame
    have hds : decide ((joinP d.p q).L = d.p.L ∧ (joinP d.p q).K = d.p.K) = true := decide_eq_true hsame
    rw [hds]
    clear hsame hds hbw2
    go_wp2_with fail
    refine ⟨fun _ => ⟨⟨w2, HB2.out⟩, rfl⟩, _, rfl, ?_⟩
    go_wp2_with fail
    refine ⟨fun h => absurd rfl h, ?_⟩
    unfold wpFin
    go_wp2_with fail
    go_end0
    exact ⟨rfl, ⟨_, (h.below HW2.out).ext h.lt HW2.out.size, by rw [hcm, set_self hdm]⟩, Kp.ofBelow HW2.out⟩
  · have hcm : comeN d.m q = newsM d.m q := if_neg hsame
    have hds : decide ((joinP d.p q).L = d.p.L ∧ (joinP d.p q).K = d.p.K) = false := decide_eq_false hsame
    rw [hds]
    have hR2 := (h.below hbw2).ext (w' := w) h.lt hbw2.size
    have hT := takeIn_any w2 (Ext S w w2) p g c ns vF fs hR2 i d hd _ _ q ((hq.below hbw2).mono fun b hb => Or.inl hb) hc hk d.made
    clear hsame hds hbw2
    go_wp2_with fail
    refine ⟨fun _ => ⟨⟨w2, HB2.out⟩, rfl⟩, _, rfl, ?_⟩
    go_wp2_with fail
    refine ⟨fun h => absurd rfl h, ?_⟩
    unfold wpFin
    go_wp2_with fail
    refine hT.mono ?_
    rintro e w3 ⟨rfl, ⟨vE', vK', vKept', hR⟩, hK⟩
    clear hT
    go_wp2_with fail
    go_end0
    have hs2 := HW2.out.size
    have hs3 := hK.size
    refine ⟨rfl, ⟨_, hR.mono (fun b hx => Ext.trans hx hs2 hs3) (fun b hx => ?_), ?_⟩, hK.under (Kp.ofBelow HW2.out)⟩
    · rcases hx with x | x
      · exact Nat.lt_of_lt_of_le (h.lt b x) (Nat.le_trans hs2 hs3)
      · exact x.2
    · rw [hcm, List.map_set]
      simp [PN.m, newsM, PK.m]
end Go.Proofs.YtnniimfinakioaaGreatDoor
namespace Go.Proofs.YtnniimfinakioaaGreatDoor
open Go.RowKit
attribute [local go_sem] toList_nm app_nm size_nm

/-- A node has heard an ack. -/
theorem ProgR.ackSet {w : World} {S : Nat → Prop} {p : Nat} {vN vF : Value} {ns : List PN} {fs : List PM} (h : ProgR w S p vN ns vF fs) {i : Nat} {d : PN} (hd : ns[i]? = some d) {gA k : Nat} (hA : d.vAcked.ownBlock = some gA) (hk : k < d.acked.length) (n : Nat) :
    ProgR (w.setCell ⟨gA, k, none⟩ (.int .i64 (n : Int))) S p vN (ns.set i { d with acked := d.acked.set k n }) vF fs := by
  have kp := Kp.set1 w gA k (.int .i64 (n : Int))
  have hnd := h.node d (List.mem_of_getElem? hd)
  have ot : OfT w (fun b => b = gA) 3 := OfT.row hnd.acked hA
  have hs : (w.setCell ⟨gA, k, none⟩ (.int .i64 (n : Int))).heap.size = w.heap.size := by simp [World.setCell]
  have hgp : p ≠ gA := fun e => by
    obtain ⟨c', fz, hc⟩ := ot gA rfl
    rw [← e, h.self] at hc
    simp at hc
  refine ⟨fun b hb => by rw [hs]; exact h.lt b hb, (kp.block p (lt_of_heap h.self) hgp).trans h.self, h.sp, ?_, h.sN, ?_, ?_, ?_, h.fly.kpE kp (Nat.le_refl _) ot (by decide)⟩
  · rw [List.length_set, flat_same (a := d) (f := pnC) (a' := { d with acked := d.acked.set k n }) rfl hd]
    exact own_kpE h.nodes kp (Nat.le_refl _) ot (by decide)
  · intro x hx
    obtain ⟨j, hj⟩ := List.mem_iff_getElem?.1 hx
    rcases set_at hj with ⟨rfl, rfl⟩ | ⟨hne, hj⟩
    · have e : intC (d.acked.set k n) = (intC d.acked).set k (.int .i64 (n : Int)) := by simp only [intC, List.map_set]
      refine ⟨hnd.pc.kpE kp (Nat.le_refl _) ot, own_kpE hnd.kept kp (Nat.le_refl _) ot (by decide), hnd.sKept, fun q hq => (hnd.keptP q hq).kpE kp (Nat.le_refl _) ot, ?_, hnd.sAcked⟩
      show World.ownsRow _ 0 _ 1 d.vAcked (d.acked.set k n).length (intC (d.acked.set k n))
      rw [List.length_set, e]
      exact own_set hnd.acked hA (by simp [intC]; exact hk)
    · have hx := h.node x (List.mem_of_getElem? hj)
      refine ⟨hx.pc.kpE kp (Nat.le_refl _) ot, own_kpE hx.kept kp (Nat.le_refl _) ot (by decide), hx.sKept, fun q hq => (hx.keptP q hq).kpE kp (Nat.le_refl _) ot, ?_, hx.sAcked⟩
      exact own_kp hx.acked kp fun g hg => ⟨(hx.acked.lt g hg).2, fun e => by subst e; exact hne (h.disA _ _ _ _ _ hd hj hA hg)⟩
  · intro a b x y b' ha hb h1 h2
    rcases set_at ha with ⟨rfl, rfl⟩ | ⟨_, ha⟩ <;> rcases set_at hb with ⟨rfl, rfl⟩ | ⟨_, hb⟩
    · rfl
    · exact h.disK _ _ _ _ b' hd hb h1 h2
    · exact h.disK _ _ _ _ b' ha hd h1 h2
    · exact h.disK _ _ _ _ b' ha hb h1 h2
  · intro a b x y b' ha hb h1 h2
    rcases set_at ha with ⟨rfl, rfl⟩ | ⟨_, ha⟩ <;> rcases set_at hb with ⟨rfl, rfl⟩ | ⟨_, hb⟩
    · rfl
    · exact h.disA _ _ _ _ b' hd hb h1 h2
    · exact h.disA _ _ _ _ b' ha hd h1 h2
    · exact h.disA _ _ _ _ b' ha hb h1 h2

set_option maxHeartbeats 2000000 in
set_option maxRecDepth 100000 in
theorem hearAck_any (w : World) (S : Nat → Prop) (p g c : Nat) (ns : List PN) (vF : Value) (fs : List PM) (h : ProgR w S p (.slice (some ⟨g, 0, none⟩) ns.length c) ns vF fs) (i : Nat) (d : PN) (hd : ns[i]? = some d) (f n a : Nat) (ha : d.acked[f]? = some a) :
    Calls Tryz.prog 80 #[.pointer (some ⟨g, i * 5, none⟩), .int .i64 f, .int .i64 n] w fun e w' => e = .returned (.tuple #[]) ∧
      (∃ ns', ProgR w' S p (.slice (some ⟨g, 0, none⟩) ns.length c) ns' vF fs ∧ ns'.map PN.m = (ns.map PN.m).set i (ackN d.m f n)) ∧ Kp w.heap.size S w w' := by
  obtain ⟨g', c', hgc, hSg, hg, hgp, hcell, hfz⟩ := h.at hd
  simp only [Value.slice.injEq, Option.some.injEq, Addr.mk.injEq, and_true] at hgc
  obtain ⟨rfl, _, rfl⟩ := hgc
  have hnd := h.node d (List.mem_of_getElem? hd)
  have hilt : i < ns.length := (List.getElem?_eq_some_iff.1 hd).1
  have c4 := hcell 4 (by decide)
  simp only [pnC, List.getElem?_cons_zero, List.getElem?_cons_succ] at c4
  clear hcell hfz
  have hf : f < d.acked.length := (List.getElem?_eq_some_iff.1 ha).1
  have hA := hnd.acked
  obtain ⟨o, cA, hkA, _, _⟩ := own_form hA
  rw [hkA] at c4 hA
  obtain ⟨gA, rfl, hgA, dA, fA⟩ := own1_at (k := f) (u := .int .i64 a) hA (by simp [intC, ha])
  have fin := fun m : Nat => ((h.below (w' := w.drew) (Below.refl _ _).drew).ackSet (k := f) hd (gA := gA) (by rw [hkA]; rfl) hf m)
  have kpf : ∀ v, Kp w.heap.size S w (w.drew.setCell ⟨gA, f, none⟩ v) := fun v => (Kp.refl _ _ _).drew.setCell (p := ⟨gA, f, none⟩) (Or.inr (hnd.sAcked gA (by rw [hkA]; rfl))) v
  have hac : ackN d.m f n = { d.m with acked := d.acked.set f (max a n) } := by
    have hg : d.m.acked.getD f 0 = a := by simp [PN.m, List.getD, ha]
    unfold ackN
    rw [hg]
    split
    · rename_i h1
      rw [Nat.max_eq_right (by omega)]
      rfl
    · rename_i h1
      rw [Nat.max_eq_left (by omega), set_self ha]
      rfl
  have FIN := hide fin
  have KP := hide kpf
  have HAC := hide hac
  clear fin kpf hac hA hkA hnd
  have hG := GrS.cell w NoS
  have hGn := GrS.some w NoS
  have s1 : ∀ b, ¬ NoS b := fun b h => h
  go_enter Tryz.func80, Tryz.ntmps80
  go_wp2_with fail
  refine wp_region_fltC [0, 1, 2, 3, 4, 5, 6, 7, 8, 9, 10, 11, 12] [13, 14, 15] (fun w' => ∃ x : GrS w NoS, w' = x.w) (by kernel_rfl) (by kernel_rfl) (fun _ _ d _ _ h => by cases d <;> exact h) ⟨⟨w.drew, (Kp.refl _ _ _).drew⟩, rfl⟩ ?_
  simp only [pickOps, List.getElem?_cons_zero, List.getElem?_cons_succ]
  repeat (go_big_quiet_step (fail))
  refine wpQuiet_nil ?_
  refine ⟨_, rfl, ?_⟩
  go_wp2_with fail
  refine ⟨fun _ => ⟨⟨w.drew, (Kp.refl _ _ _).drew⟩, rfl⟩, _, rfl, ?_⟩
  go_wp2_with fail
  refine ⟨fun _ => ⟨⟨w.drew, (Kp.refl _ _ _).drew⟩, rfl⟩, _, rfl, ?_⟩
  go_wp2_with fail
  refine ⟨fun h => absurd rfl h, ?_⟩
  unfold wpFin
  go_wp2_with fail
  have em : max (a : Int) (n : Int) = ((max a n : Nat) : Int) := by omega
  rw [em]
  go_end0
  refine ⟨rfl, ⟨_, FIN.out (max a n), ?_⟩, KP.out _⟩
  rw [HAC.out, List.map_set]
  rfl

set_option maxHeartbeats 1000000 in
set_option maxRecDepth 100000 in
theorem pAck_any (w : World) (m : PM) (hE : ∃ x, m.vE = .map x) (hK : ∃ x, m.vK = .map x) :
    Calls Tryz.prog 46 #[pmV m] w fun e w' => e = .returned (pmV ⟨2, m.to, m.frm, m.number, .map none, .map none, ⟨[], []⟩⟩) ∧ Below w.heap.size w w' := by
  obtain ⟨mk, mf, mt, mn, vE, vK, mp⟩ := m
  obtain ⟨x1, rfl⟩ := hE
  obtain ⟨x2, rfl⟩ := hK
  dsimp only [pmV]
  have hb : Below w.heap.size w ((w.alloc (.cells #[.int .i64 mk, .int .i64 mf, .int .i64 mt, .int .i64 mn, .map x1, .map x2] 92)).alloc (.cells #[.int .i64 2, .int .i64 mt, .int .i64 mf, .int .i64 mn, .map none, .map none] 92)) := below2 w _ _
  have HB := hide hb
  clear hb
  go_enter Tryz.func46, Tryz.ntmps46
  go_wp2_with fail
  refine bodyPost_ret (v := .agg #[.int .i64 2, .int .i64 mt, .int .i64 mf, .int .i64 mn, .map none, .map none]) (by simp [results, Tryz.results46, go_sem]) rfl ⟨rfl, HB.out⟩

set_option maxHeartbeats 2000000 in
set_option maxRecDepth 100000 in
theorem pCome_news (w : World) (S : Nat → Prop) (p g c : Nat) (ns : List PN) (vF : Value) (fs : List PM) (h : ProgR w S p (.slice (some ⟨g, 0, none⟩) ns.length c) ns vF fs) (m : PM) (hkd : m.kind = 1) (hq : PPieceR w S m.vE m.vK m.p) (d : PN) (hd : ns[m.to]? = some d)
    (HE : List Ent) (hp1 : PcOk HE d.p) (hp2 : PcOk HE m.p) (hc : d.count ≤ 1000000000) (hk : d.kept.length ≤ 1000000000) :
    Calls Tryz.prog 45 #[ptr p, pmV m] w fun e w' => e = .returned (.tuple #[]) ∧
      (∃ ns', ProgR w' (Ext S w w') p (.slice (some ⟨g, 0, none⟩) ns.length c) ns' vF fs ∧ ns'.map PN.m = (ns.map PN.m).set m.to (comeN d.m m.p)) ∧ Kp w.heap.size S w w' := by
  obtain ⟨mk, mf, mt, mn, vE, vK, mp⟩ := m
  dsimp only [pmV] at hd hkd hq ⊢
  dsimp only at hp2
  subst hkd
  obtain ⟨m1, rfl⟩ : ∃ m1, vE = .map m1 := ⟨_, hq.E.form⟩
  obtain ⟨m2, rfl⟩ : ∃ m2, vK = .map m2 := ⟨_, hq.K.form⟩
  have hplt : p < w.heap.size := lt_of_heap h.self
  have hilt : mt < ns.length := (List.getElem?_eq_some_iff.1 hd).1
  obtain ⟨e1, _⟩ := row_facts h.self
  have cp := e1 0
  simp only [List.getElem?_cons_zero, List.getElem?_toArray] at cp
  have hb : Below w.heap.size w (w.alloc (.cells #[.int .i64 1, .int .i64 mf, .int .i64 mt, .int .i64 mn, .map m1, .map m2] 92)) := (Below.refl _ _).alloc (Nat.le_refl _) _
  have q0 := heap_alloc_new w (.cells #[.int .i64 1, .int .i64 mf, .int .i64 mt, .int .i64 mn, .map m1, .map m2] 92)
  have HB := hide hb
  have Q0 := hide q0
  clear hb q0 e1
  go_enter Tryz.func45, Tryz.ntmps45
  go_wp2_with fail
  have cp' := (HB.out.cell (p := ⟨p, 0, none⟩) hplt).trans cp
  obtain ⟨e0, _⟩ := row_facts Q0.out
  have d0 := e0 0
  have d1 := e0 1
  have d2 := e0 2
  have d3 := e0 3
  have d4 := e0 4
  have d5 := e0 5
  simp only [List.getElem?_toArray, List.getElem?_cons_zero, List.getElem?_cons_succ] at d0 d1 d2 d3 d4 d5
  generalize w.alloc (.cells #[.int .i64 1, .int .i64 mf, .int .i64 mt, .int .i64 mn, .map m1, .map m2] 92) = W0 at *
  have hwl : w.heap.size < W0.heap.size := lt_of_heap Q0.out
  have hpl : p < W0.heap.size := by omega
  clear e0 cp
  go_quiet (fail)
  have bq : Below w.heap.size w (W0.drewN nq) := below_drewN HB.out nq
  have hH := hear_any (W0.drewN nq) S p g c ns vF fs (h.below bq) mt d hd (.map m1) (.map m2) mp (hq.below bq) HE hp1 hp2 hc hk
  clear hq
  go_wp2_with fail
  refine hH.mono ?_
  rintro e w2 ⟨rfl, ⟨ns', hR, hm⟩, hK⟩
  clear hH
  go_wp2_with fail
  go_end0
  have hs0 := bq.size
  have hs2 := hK.size
  refine ⟨rfl, ⟨_, hR.mono (fun b hx => ?_) (fun b hx => ?_), hm⟩, (Kp.ofBelow bq).trans (hK.mono hs0 fun b _ hs => hs)⟩
  · rcases hx with x | x
    · exact Or.inl x
    · exact Or.inr ⟨by omega, x.2⟩
  · rcases hx with x | x
    · exact Nat.lt_of_lt_of_le (h.lt b x) (by omega)
    · exact x.2
set_option maxHeartbeats 2000000 in
set_option maxRecDepth 100000 in
theorem pCome_ack (w : World) (S : Nat → Prop) (p g c : Nat) (ns : List PN) (vF : Value) (fs : List PM) (h : ProgR w S p (.slice (some ⟨g, 0, none⟩) ns.length c) ns vF fs) (m : PM) (hkd : m.kind = 2) (hq : PPieceR w S m.vE m.vK m.p) (d : PN) (hd : ns[m.to]? = some d) (a : Nat) (ha : d.acked[m.frm]? = some a) :
    Calls Tryz.prog 45 #[ptr p, pmV m] w fun e w' => e = .returned (.tuple #[]) ∧
      (∃ ns', ProgR w' (Ext S w w') p (.slice (some ⟨g, 0, none⟩) ns.length c) ns' vF fs ∧ ns'.map PN.m = (ns.map PN.m).set m.to (ackN d.m m.frm m.number)) ∧ Kp w.heap.size S w w' := by
  obtain ⟨mk, mf, mt, mn, vE, vK, mp⟩ := m
  dsimp only [pmV] at hd hkd hq ⊢
  dsimp only at ha
  subst hkd
  obtain ⟨m1, rfl⟩ : ∃ m1, vE = .map m1 := ⟨_, hq.E.form⟩
  obtain ⟨m2, rfl⟩ : ∃ m2, vK = .map m2 := ⟨_, hq.K.form⟩
  have hplt : p < w.heap.size := lt_of_heap h.self
  have hilt : mt < ns.length := (List.getElem?_eq_some_iff.1 hd).1
  obtain ⟨e1, _⟩ := row_facts h.self
  have cp := e1 0
  simp only [List.getElem?_cons_zero, List.getElem?_toArray] at cp
  have hb : Below w.heap.size w (w.alloc (.cells #[.int .i64 2, .int .i64 mf, .int .i64 mt, .int .i64 mn, .map m1, .map m2] 92)) := (Below.refl _ _).alloc (Nat.le_refl _) _
  have q0 := heap_alloc_new w (.cells #[.int .i64 2, .int .i64 mf, .int .i64 mt, .int .i64 mn, .map m1, .map m2] 92)
  have HB := hide hb
  have Q0 := hide q0
  clear hb q0 e1
  go_enter Tryz.func45, Tryz.ntmps45
  go_wp2_with fail
  have cp' := (HB.out.cell (p := ⟨p, 0, none⟩) hplt).trans cp
  obtain ⟨e0, _⟩ := row_facts Q0.out
  have d0 := e0 0
  have d1 := e0 1
  have d2 := e0 2
  have d3 := e0 3
  have d4 := e0 4
  have d5 := e0 5
  simp only [List.getElem?_toArray, List.getElem?_cons_zero, List.getElem?_cons_succ] at d0 d1 d2 d3 d4 d5
  generalize w.alloc (.cells #[.int .i64 2, .int .i64 mf, .int .i64 mt, .int .i64 mn, .map m1, .map m2] 92) = W0 at *
  have hwl : w.heap.size < W0.heap.size := lt_of_heap Q0.out
  have hpl : p < W0.heap.size := by omega
  clear e0 cp
  go_quiet (fail)
  have bq : Below w.heap.size w (W0.drewN nq) := below_drewN HB.out nq
  have hH := hearAck_any (W0.drewN nq) S p g c ns vF fs (h.below bq) mt d hd mf mn a ha
  clear hq
  go_wp2_with fail
  refine hH.mono ?_
  rintro e w2 ⟨rfl, ⟨ns', hR, hm⟩, hK⟩
  clear hH
  go_wp2_with fail
  go_end0
  have hs0 := bq.size
  have hs2 := hK.size
  exact ⟨rfl, ⟨_, hR.ext (w' := w) h.lt (Nat.le_trans hs0 hs2), hm⟩, (Kp.ofBelow bq).trans (hK.mono hs0 fun b _ hs => hs)⟩
end Go.Proofs.YtnniimfinakioaaGreatDoor
