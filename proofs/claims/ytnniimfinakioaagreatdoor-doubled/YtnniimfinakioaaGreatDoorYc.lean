import Derived.RangeFuncNested
import Derived.RangeFuncLeaves
import Derived.RangeFuncBox
import Derived.Maps.AppendAt
import Derived.Shelf.Abstract
import Derived.WalkKit
import Derived.OwnWalkIn
import Derived.TacticsInMore
import Derived.LoopNIn
import Derived.LoopIn
import Derived.Sort.OwnSorted
import Derived.Shelf.SlSortCmp.NoneTotal
import Derived.Test.YtnniimfinakioaaGreatDoorYa
import Derived.Test.YtnniimfinakioaaGreatDoorYb
namespace Go.Proofs.YtnniimfinakioaaGreatDoor
open Go.RowKit Go.Shelf
attribute [local go_sem] Oper.semAt_some

theorem IterV.walks {α : Type} {enc : α → Value} {w w' : World} {v : Value} {r : Nat} {ks gone : List α} (h : IterV enc w v r ks gone) (k : KeepsWalks w w') : IterV enc w' v r ks gone ∧ leftV w' v r = leftV w v r := by
  rcases h.2 with ⟨rfl, h2, h3, h4⟩ | ⟨b, rfl, es, c, s, sn, c0, h1, h2, h3⟩
  · exact ⟨⟨h.1, Or.inl ⟨rfl, h2, h3, k.same r _ h4 rfl⟩⟩, rfl⟩
  · have e1 := k.same b _ h1 rfl
    have e2 := k.same r _ h2 rfl
    exact ⟨⟨h.1, Or.inr ⟨b, rfl, es, c, s, sn, c0, e1, e2, h3⟩⟩, by simp only [leftV, World.rangeLeft, e1, e2, h1, h2]⟩
theorem IterV.walk {α : Type} {enc : α → Value} {w : World} {v : Value} {r : Nat} {ks gone : List α} (h : IterV enc w v r ks gone) : ∃ o : Obj, w.heap[r]? = some o ∧ o.isWalk = true := by
  rcases h.2 with ⟨_, _, _, h4⟩ | ⟨b, _, es, c, s, sn, c0, _, h2, _⟩
  · exact ⟨_, h4, rfl⟩
  · exact ⟨_, h2, rfl⟩

set_option maxRecDepth 100000 in
set_option maxHeartbeats 1000000 in
theorem ekeys1_in (n l Bm : Nat) (v : Value) (ks : List Ent) (J Jx : List Ent → World → Prop)
    (hY : ∀ pre x W, J pre W → pre.length < ks.length → YieldAt Fence.wide (n - 1) Tryz.prog l #[entV x] W fun e W' =>
      (e = .returned (.bool true) ∧ J (pre ++ [x]) W' ∧ KeepsWalks W W') ∨ (e = .returned (.bool false) ∧ Jx (pre ++ [x]) W'))
    (hn : 1 ≤ n) (W : World) (hJ : AbidesFrom W.heap.size J) (hm : W.cell? ⟨Bm, 0, none⟩ = some v) (hV : MapV entV W v ks) (h0 : J [] W) :
    CallsIn Fence.wide n Tryz.prog 129 #[.func (.yield l) #[] #[], .pointer (some ⟨Bm, 0, none⟩)] W fun e W' => (∃ v, e = .returned v) ∧
      ((∃ ss, ss.Perm ks ∧ J ss W') ∨ (∃ pre, True ∧ Jx pre W')) := by
  obtain ⟨w1, hr, hI, hb1, hs1⟩ := hV.range (P := Tryz.prog) Tryz.underlying87
  have HI0 := hide hI
  have HJ0 := hide (hJ [] W w1 none h0 ⟨hb1.os, hb1.tape, hb1.output, hb1.size, fun k hk _ => hb1.block k hk⟩ (fun r e => by cases e))
  clear hI h0
  refine callsIn_of_wp Tryz.func129 rfl trivial ?_ rfl
  simp only [Tryz.ntmps129, List.size_toArray, List.length_cons, List.length_nil, Nat.reduceAdd, Nat.reduceSub, Array.replicate_succ, Array.replicate_zero, List.push_toArray, List.append_toArray, List.nil_append, List.cons_append]
  gi_wp2
  gi_loopw [3] (fun _ wr => ∃ ss, IterV entV wr v W.heap.size ks ss ∧ J ss wr) (fun _ wr => leftV wr v W.heap.size)
  case atStart => exact ⟨[], HI0.out, HJ0.out⟩
  case round =>
    obtain ⟨ss, hI, hJs⟩ := hrel
    rcases hI.next (P := Tryz.prog) entV_inj 0 with ⟨hp, hrun⟩ | ⟨k, w2, hk, hkg, hrun, hI2, hlf, hg, hsz, hen⟩
    · have HP := hide hp
      clear hp
      gi_wp2
      go_end0
      exact ⟨⟨_, rfl⟩, .inl ⟨ss, HP.out, hJs⟩⟩
    · have hJ2 : J ss w2 := hJ ss wr w2 (some W.heap.size) hJs hg (fun r e => by cases e; exact ⟨Nat.le_refl _, hI.walk⟩)
      have hJ3 : J ss (w2.alloc (.cells #[strV k.1, .int .i64 k.2.1, .int .i64 k.2.2] 110)) := hJ ss w2 _ none hJ2 (World.grownBy_alloc _ _ _) (fun r e => by cases e)
      have hI3 := hI2.walks (KeepsWalks.alloc w2 (.cells #[strV k.1, .int .i64 k.2.1, .int .i64 k.2.2] 110))
      have hlen : ss.length < ks.length := by have := hI2.gone_le; simp at this; omega
      obtain ⟨fn, tmps, assign, body, hy, hR⟩ := hY ss k _ hJ3 hlen
      have HI3 := hide hI3
      have HLF := hide hlf
      have HJ3 := hide hJ3
      have HI := hide hI
      clear hI3 hlf hI hI2 hJ2 hJ3 hJs hg hsz
      gi_wp2
      refine hR.mono ?_
      rintro e W3 (⟨rfl, hJ4, hk3⟩ | ⟨rfl, hJx3⟩)
      · have HJ4 := hide hJ4
        clear hJ4
        gi_wp2
        have hI4 := HI3.out.1.walks hk3
        go_roundw
        case rel => exact ⟨ss ++ [k], hI4.1, HJ4.out⟩
        case measure => rw [hI4.2, HI3.out.2]; exact HLF.out
      · gi_wp2
        refine bodyPost_ret (results_none rfl _ _ _) rfl ?_
        exact ⟨⟨_, rfl⟩, .inr ⟨ss ++ [k], trivial, hJx3⟩⟩

theorem ekeys_any (m : Option Nat) (w : World) :
    Calls Tryz.prog 95 #[.map m] w fun e w' => e = .returned (.func (.func 129) #[] #[.pointer (some ⟨w.heap.size, 0, none⟩)]) ∧ w' = w.alloc (.cells #[.map m] 87) := by
  go_enter Tryz.func95, Tryz.ntmps95
  go_wp2
  go_ret
  exact ⟨rfl, rfl⟩

theorem ekeys_stops (n Bm : Nat) (hn : 1 ≤ n) (v : Value) (ks : List Ent) (w : World) (hBm : Bm < w.heap.size) (hc : w.cell? ⟨Bm, 0, none⟩ = some v) (hV : MapV entV w v ks) :
    SeqStopsK Fence.wide n Tryz.prog 129 #[.pointer (some ⟨Bm, 0, none⟩)] (fun x : Ent => #[entV x]) KeepsWalks (fun ys => ys.Perm ks) (fun _ => True) ks.length w := fun l J Jx W hW hJ _ hY h0 =>
  ekeys1_in n l Bm v ks J Jx hY hn W hJ ((hW.cell (p := ⟨Bm, 0, none⟩) hBm).trans hc) (hV.below hW fun _ hb => hV.lt hb) h0
set_option maxRecDepth 100000 in
set_option maxHeartbeats 1000000 in
theorem tkeys1_in (n l Bm : Nat) (v : Value) (ks : List Tok) (J Jx : List Tok → World → Prop)
    (hY : ∀ pre x W, J pre W → pre.length < ks.length → YieldAt Fence.wide (n - 1) Tryz.prog l #[tokV x] W fun e W' =>
      (e = .returned (.bool true) ∧ J (pre ++ [x]) W' ∧ KeepsWalks W W') ∨ (e = .returned (.bool false) ∧ Jx (pre ++ [x]) W'))
    (hn : 1 ≤ n) (W : World) (hJ : AbidesFrom W.heap.size J) (hm : W.cell? ⟨Bm, 0, none⟩ = some v) (hV : MapV tokV W v ks) (h0 : J [] W) :
    CallsIn Fence.wide n Tryz.prog 150 #[.func (.yield l) #[] #[], .pointer (some ⟨Bm, 0, none⟩)] W fun e W' => (∃ v, e = .returned v) ∧
      ((∃ ss, ss.Perm ks ∧ J ss W') ∨ (∃ pre, True ∧ Jx pre W')) := by
  obtain ⟨w1, hr, hI, hb1, hs1⟩ := hV.range (P := Tryz.prog) Tryz.underlying88
  have HI0 := hide hI
  have HJ0 := hide (hJ [] W w1 none h0 ⟨hb1.os, hb1.tape, hb1.output, hb1.size, fun k hk _ => hb1.block k hk⟩ (fun r e => by cases e))
  clear hI h0
  refine callsIn_of_wp Tryz.func150 rfl trivial ?_ rfl
  simp only [Tryz.ntmps150, List.size_toArray, List.length_cons, List.length_nil, Nat.reduceAdd, Nat.reduceSub, Array.replicate_succ, Array.replicate_zero, List.push_toArray, List.append_toArray, List.nil_append, List.cons_append]
  gi_wp2
  gi_loopw [3] (fun _ wr => ∃ ss, IterV tokV wr v W.heap.size ks ss ∧ J ss wr) (fun _ wr => leftV wr v W.heap.size)
  case atStart => exact ⟨[], HI0.out, HJ0.out⟩
  case round =>
    obtain ⟨ss, hI, hJs⟩ := hrel
    rcases hI.next (P := Tryz.prog) tokV_inj 0 with ⟨hp, hrun⟩ | ⟨k, w2, hk, hkg, hrun, hI2, hlf, hg, hsz, hen⟩
    · have HP := hide hp
      clear hp
      gi_wp2
      go_end0
      exact ⟨⟨_, rfl⟩, .inl ⟨ss, HP.out, hJs⟩⟩
    · have hJ2 : J ss w2 := hJ ss wr w2 (some W.heap.size) hJs hg (fun r e => by cases e; exact ⟨Nat.le_refl _, hI.walk⟩)
      have hJ3 : J ss (w2.alloc (.cells #[.int .i64 k.1, .int .i64 k.2] 108)) := hJ ss w2 _ none hJ2 (World.grownBy_alloc _ _ _) (fun r e => by cases e)
      have hI3 := hI2.walks (KeepsWalks.alloc w2 (.cells #[.int .i64 k.1, .int .i64 k.2] 108))
      have hlen : ss.length < ks.length := by have := hI2.gone_le; simp at this; omega
      obtain ⟨fn, tmps, assign, body, hy, hR⟩ := hY ss k _ hJ3 hlen
      have HI3 := hide hI3
      have HLF := hide hlf
      have HJ3 := hide hJ3
      have HI := hide hI
      clear hI3 hlf hI hI2 hJ2 hJ3 hJs hg hsz
      gi_wp2
      refine hR.mono ?_
      rintro e W3 (⟨rfl, hJ4, hk3⟩ | ⟨rfl, hJx3⟩)
      · have HJ4 := hide hJ4
        clear hJ4
        gi_wp2
        have hI4 := HI3.out.1.walks hk3
        go_roundw
        case rel => exact ⟨ss ++ [k], hI4.1, HJ4.out⟩
        case measure => rw [hI4.2, HI3.out.2]; exact HLF.out
      · gi_wp2
        refine bodyPost_ret (results_none rfl _ _ _) rfl ?_
        exact ⟨⟨_, rfl⟩, .inr ⟨ss ++ [k], trivial, hJx3⟩⟩

theorem tkeys_any (m : Option Nat) (w : World) :
    Calls Tryz.prog 122 #[.map m] w fun e w' => e = .returned (.func (.func 150) #[] #[.pointer (some ⟨w.heap.size, 0, none⟩)]) ∧ w' = w.alloc (.cells #[.map m] 88) := by
  go_enter Tryz.func122, Tryz.ntmps122
  go_wp2
  go_ret
  exact ⟨rfl, rfl⟩

theorem tkeys_stops (n Bm : Nat) (hn : 1 ≤ n) (v : Value) (ks : List Tok) (w : World) (hBm : Bm < w.heap.size) (hc : w.cell? ⟨Bm, 0, none⟩ = some v) (hV : MapV tokV w v ks) :
    SeqStopsK Fence.wide n Tryz.prog 150 #[.pointer (some ⟨Bm, 0, none⟩)] (fun x : Tok => #[tokV x]) KeepsWalks (fun ys => ys.Perm ks) (fun _ => True) ks.length w := fun l J Jx W hW hJ _ hY h0 =>
  tkeys1_in n l Bm v ks J Jx hY hn W hJ ((hW.cell (p := ⟨Bm, 0, none⟩) hBm).trans hc) (hV.below hW fun _ hb => hV.lt hb) h0
end Go.Proofs.YtnniimfinakioaaGreatDoor
namespace Go.Proofs.YtnniimfinakioaaGreatDoor
open Go.RowKit Go.Shelf
attribute [local go_sem] Oper.semAt_some

theorem cellsAt_own {β : Type} (B : Nat) (c : Array Value) (t : TypeId) : Own (fun (_ : β) W => W.heap[B]? = some (.cells c t (0, 0))) := fun s X Y row hs hg hrow =>
  (hg.block B (lt_of_heap hs) (fun e' => by obtain ⟨o, ho, hc⟩ := hrow B e'.symm; rw [hs] at ho; cases ho; cases hc)).trans hs
theorem row_ne_cells {W : World} {base : Nat} {e : TypeId} {size : Nat} {v : Value} {k : Nat} {xs : List Value} (h : W.ownsRow base e size v k xs) {j : Nat} (hj : j < base) : some j ≠ v.ownBlock := by
  intro e'
  have := (h.lt j e'.symm).1
  omega

theorem KeepsWalks.of_others {W W' : World} (h : KeepsOthers W W') : KeepsWalks W W' := ⟨h.size, fun k o hk ho => h.same k o hk (by cases o <;> first | rfl | (simp [Obj.isWalk] at ho))⟩

set_option maxRecDepth 100000 in
set_option maxHeartbeats 4000000 in
theorem eappendSeq_in (n : Nat) (hn : 2 ≤ n) (g : Nat) (lb : Array Value) (eg : ∀ args w, (callFunc g args).run Tryz.prog w = .ok (.enter g args) w) (S : List Ent → Prop) (N : Nat) (hN : N ≤ 1000000) (w : World)
    (hseq : SeqStopsK Fence.wide (n - 1) Tryz.prog g lb (fun x : Ent => #[entV x]) KeepsWalks S (fun _ => True) N w) :
    CallsIn Fence.wide n Tryz.prog 152 #[.slice none 0 0, .func (.func g) #[] lb] w fun e w' => ∃ (v : Value) (ss : List Ent), e = .returned v ∧ S ss ∧ w'.ownsRow w.heap.size 110 3 v ss.length (entC ss) ∧ Below w.heap.size w w' := by
  obtain ⟨i0, z0, hi0, hz0, hs0, hb0, hc0⟩ := epEnt.info
  refine callsIn_of_wp_marks Tryz.func152 rfl trivial ?_ rfl
  simp only [Tryz.ntmps152, List.size_toArray, List.length_cons, List.length_nil, Nat.reduceAdd, Nat.reduceSub, Array.replicate_succ, Array.replicate_zero, List.push_toArray, List.append_toArray, List.nil_append, List.cons_append]
  gi_wp2
  have bS := Boxed.new w 113 (.slice none 0 0)
  have hB0 : Below w.heap.size w (w.alloc (.cells #[.slice none 0 0] 113)) := (Below.refl _ w).alloc (Nat.le_refl _) _
  have hsz : (w.alloc (.cells #[.slice none 0 0] 113)).heap.size = w.heap.size + 1 := by simp
  obtain ⟨W0, hW0⟩ : ∃ W0, w.alloc (.cells #[.slice none 0 0] 113) = W0 := ⟨_, rfl⟩
  rw [hW0] at bS hB0 hsz ⊢
  clear hW0
  refine wpIn_rangeFunc_ownH rfl (by omega) (gf := g) (lb := lb) rfl trivial eg hseq walksK_t walksK_b hB0 (fun _ => rfl)
    (fun pre W => (∃ v, Boxed W w.heap.size 113 v ∧ W.ownsRow w.heap.size 110 3 v pre.length (entC pre) ∧ True) ∧ Below w.heap.size w W)
    (fun _ _ _ => False)
    (OwnFrom.and (Own.from (holdsRow_own _ _ _ _ _ (fun (pre : List Ent) => pre.length) (fun pre => entC pre) (fun _ _ => True)) _) (ownFrom_below (Nat.le_refl _) (by omega)))
    (fun _ _ _ _ _ hs _ _ => hs)
    ⟨⟨_, bS, World.ownsRow_nil .., trivial⟩, hB0⟩
    (fun x a' W => ∃ Bx, w.heap.size < Bx ∧ W.heap[Bx]? = some (.cells #[strV x.1, .int .i64 x.2.1, .int .i64 x.2.2] 110 (0, 0)) ∧ a' = { tmps := #[.slice none 0 0, .func (.func g) #[] lb, .pointer (some ⟨w.heap.size, 0, none⟩), undef, .slice none 0 0, .pointer (some ⟨Bx, 0, none⟩), .func (.func g) #[] lb, entV x, undef, undef, undef, undef, undef], defers := [] })
    (fun x a' _ X Y row hs hg hr => by obtain ⟨Bx, h1, h2, h3⟩ := hs; exact ⟨Bx, h1, cellsAt_own (β := Unit) Bx _ _ () X Y row h2 hg (fun r e => (hr r e).2), h3⟩)
    ?assign ?body ?done ?stop
  case assign =>
    rintro l pre x W K ⟨⟨v, bV, hV, _⟩, hB1⟩ hK
    gi_wp2
    exact hK _ _ ((KeepsOthers.alloc _ _).from _) (KeepsWalks.alloc _ _) ⟨⟨v, bV.alloc _, hV.alloc _, trivial⟩, hB1.alloc hB1.size _⟩ ⟨W.heap.size, bV.lt, heap_alloc_new W _, rfl⟩
  case body =>
    rintro l pre x a' W hl ⟨r, hr⟩ ⟨⟨v, bV, hV, _⟩, hB1⟩ ⟨Bx, hBx, bX, rfl⟩ hlt
    have cV := bV.cell
    obtain ⟨eX, _⟩ := row_facts bX
    have x0 := eX 0
    have x1 := eX 1
    have x2 : W.cell? ⟨Bx, 2, none⟩ = some (.int .i64 x.2.2) := eX 2
    simp only [List.getElem?_toArray, List.getElem?_cons_succ, List.getElem?_cons_zero] at x0 x1
    have hnew : ∀ j u, (entC [x])[j]? = some u → (W.alloc (.cells #[strV x.1, .int .i64 x.2.1, .int .i64 x.2.2] 110)).cell? ((⟨W.heap.size, 0, none⟩ : Addr).add j) = some u := fun j u hu => by
      rw [World.addr_add, Nat.zero_add, (row_facts (heap_alloc_new W _)).1 j]
      simpa [entC] using hu
    have hne : (113 : Nat) ≠ 110 := by decide
    have hsW := hB1.size
    clear eX
    gi_wp2_with (first
      | (gi_at_builtin; refine wpListIn_append_own _ rfl _ _ 113 rfl w.heap.size 110 i0 z0 3 32 epEnt.und hi0 hz0 hs0 hb0 hc0 (by decide) _ _ _ rfl (hV.alloc _) ⟨W.heap.size, 0, none⟩ 1 1 (entC [x]) rfl rfl hnew (entC_one _) (by unfold maxLen; omega) (by omega) (by simp; omega) ?_; intro v' w3 hown' hg3 _
         have hap := bV.appended hne hV hsW (Nat.le_refl _) hown' hg3
         obtain ⟨g', cap', rfl⟩ := ownsRow_succ hown'
         have c3 := hap.1.cell
         have f3 := hap.1.frozen
         go_frame)
      | gi_in)
    refine ⟨hap.2.2.2.1.from _, KeepsWalks.of_others hap.2.2.2.1, ⟨_, hap.2.1, ?_, trivial⟩, hB1.trans hap.2.2.2.2⟩
    have := hap.2.2.1
    rw [← entC_app] at this
    simpa using this
  case done =>
    rintro D zs W hD hS ⟨⟨v, bV, hV, _⟩, hB1⟩ hK
    have cS := bV.cell
    gi_wp2
    refine ⟨by simp, .inl ⟨_, _, rfl, run_takeDeferred hK, ?_⟩⟩
    exact ⟨_, results_tmp rfl _ _ _, v, zs, rfl, hS, ownsRow_putObj hV _ hK rfl, hB1.trans (belowK_b (w := w) (Nat.le_refl _) W D _ _ (by omega) hK rfl rfl)⟩
  case stop =>
    rintro D c pre W _ _ h _
    exact h.elim
set_option maxRecDepth 100000 in
set_option maxHeartbeats 4000000 in
theorem tappendSeq_in (n : Nat) (hn : 2 ≤ n) (g : Nat) (lb : Array Value) (eg : ∀ args w, (callFunc g args).run Tryz.prog w = .ok (.enter g args) w) (S : List Tok → Prop) (N : Nat) (hN : N ≤ 1000000) (w : World)
    (hseq : SeqStopsK Fence.wide (n - 1) Tryz.prog g lb (fun x : Tok => #[tokV x]) KeepsWalks S (fun _ => True) N w) :
    CallsIn Fence.wide n Tryz.prog 163 #[.slice none 0 0, .func (.func g) #[] lb] w fun e w' => ∃ (v : Value) (ss : List Tok), e = .returned v ∧ S ss ∧ w'.ownsRow w.heap.size 108 2 v ss.length (tokC ss) ∧ Below w.heap.size w w' := by
  obtain ⟨i0, z0, hi0, hz0, hs0, hb0, hc0⟩ := epTok.info
  refine callsIn_of_wp_marks Tryz.func163 rfl trivial ?_ rfl
  simp only [Tryz.ntmps163, List.size_toArray, List.length_cons, List.length_nil, Nat.reduceAdd, Nat.reduceSub, Array.replicate_succ, Array.replicate_zero, List.push_toArray, List.append_toArray, List.nil_append, List.cons_append]
  gi_wp2
  have bS := Boxed.new w 140 (.slice none 0 0)
  have hB0 : Below w.heap.size w (w.alloc (.cells #[.slice none 0 0] 140)) := (Below.refl _ w).alloc (Nat.le_refl _) _
  have hsz : (w.alloc (.cells #[.slice none 0 0] 140)).heap.size = w.heap.size + 1 := by simp
  obtain ⟨W0, hW0⟩ : ∃ W0, w.alloc (.cells #[.slice none 0 0] 140) = W0 := ⟨_, rfl⟩
  rw [hW0] at bS hB0 hsz ⊢
  clear hW0
  refine wpIn_rangeFunc_ownH rfl (by omega) (gf := g) (lb := lb) rfl trivial eg hseq walksK_t walksK_b hB0 (fun _ => rfl)
    (fun pre W => (∃ v, Boxed W w.heap.size 140 v ∧ W.ownsRow w.heap.size 108 2 v pre.length (tokC pre) ∧ True) ∧ Below w.heap.size w W)
    (fun _ _ _ => False)
    (OwnFrom.and (Own.from (holdsRow_own _ _ _ _ _ (fun (pre : List Tok) => pre.length) (fun pre => tokC pre) (fun _ _ => True)) _) (ownFrom_below (Nat.le_refl _) (by omega)))
    (fun _ _ _ _ _ hs _ _ => hs)
    ⟨⟨_, bS, World.ownsRow_nil .., trivial⟩, hB0⟩
    (fun x a' W => ∃ Bx, w.heap.size < Bx ∧ W.heap[Bx]? = some (.cells #[.int .i64 x.1, .int .i64 x.2] 108 (0, 0)) ∧ a' = { tmps := #[.slice none 0 0, .func (.func g) #[] lb, .pointer (some ⟨w.heap.size, 0, none⟩), undef, .slice none 0 0, .pointer (some ⟨Bx, 0, none⟩), .func (.func g) #[] lb, tokV x, undef, undef, undef, undef, undef], defers := [] })
    (fun x a' _ X Y row hs hg hr => by obtain ⟨Bx, h1, h2, h3⟩ := hs; exact ⟨Bx, h1, cellsAt_own (β := Unit) Bx _ _ () X Y row h2 hg (fun r e => (hr r e).2), h3⟩)
    ?assign ?body ?done ?stop
  case assign =>
    rintro l pre x W K ⟨⟨v, bV, hV, _⟩, hB1⟩ hK
    gi_wp2
    exact hK _ _ ((KeepsOthers.alloc _ _).from _) (KeepsWalks.alloc _ _) ⟨⟨v, bV.alloc _, hV.alloc _, trivial⟩, hB1.alloc hB1.size _⟩ ⟨W.heap.size, bV.lt, heap_alloc_new W _, rfl⟩
  case body =>
    rintro l pre x a' W hl ⟨r, hr⟩ ⟨⟨v, bV, hV, _⟩, hB1⟩ ⟨Bx, hBx, bX, rfl⟩ hlt
    have cV := bV.cell
    obtain ⟨eX, _⟩ := row_facts bX
    have x0 := eX 0
    have x1 := eX 1
    skip
    simp only [List.getElem?_toArray, List.getElem?_cons_succ, List.getElem?_cons_zero] at x0 x1
    have hnew : ∀ j u, (tokC [x])[j]? = some u → (W.alloc (.cells #[.int .i64 x.1, .int .i64 x.2] 108)).cell? ((⟨W.heap.size, 0, none⟩ : Addr).add j) = some u := fun j u hu => by
      rw [World.addr_add, Nat.zero_add, (row_facts (heap_alloc_new W _)).1 j]
      simpa [tokC] using hu
    have hne : (140 : Nat) ≠ 108 := by decide
    have hsW := hB1.size
    clear eX
    gi_wp2_with (first
      | (gi_at_builtin; refine wpListIn_append_own _ rfl _ _ 140 rfl w.heap.size 108 i0 z0 2 16 epTok.und hi0 hz0 hs0 hb0 hc0 (by decide) _ _ _ rfl (hV.alloc _) ⟨W.heap.size, 0, none⟩ 1 1 (tokC [x]) rfl rfl hnew (tokC_one _) (by unfold maxLen; omega) (by omega) (by simp; omega) ?_; intro v' w3 hown' hg3 _
         have hap := bV.appended hne hV hsW (Nat.le_refl _) hown' hg3
         obtain ⟨g', cap', rfl⟩ := ownsRow_succ hown'
         have c3 := hap.1.cell
         have f3 := hap.1.frozen
         go_frame)
      | gi_in)
    refine ⟨hap.2.2.2.1.from _, KeepsWalks.of_others hap.2.2.2.1, ⟨_, hap.2.1, ?_, trivial⟩, hB1.trans hap.2.2.2.2⟩
    have := hap.2.2.1
    rw [← tokC_app] at this
    simpa using this
  case done =>
    rintro D zs W hD hS ⟨⟨v, bV, hV, _⟩, hB1⟩ hK
    have cS := bV.cell
    gi_wp2
    refine ⟨by simp, .inl ⟨_, _, rfl, run_takeDeferred hK, ?_⟩⟩
    exact ⟨_, results_tmp rfl _ _ _, v, zs, rfl, hS, ownsRow_putObj hV _ hK rfl, hB1.trans (belowK_b (w := w) (Nat.le_refl _) W D _ _ (by omega) hK rfl rfl)⟩
  case stop =>
    rintro D c pre W _ _ h _
    exact h.elim
end Go.Proofs.YtnniimfinakioaaGreatDoor
namespace Go.Proofs.YtnniimfinakioaaGreatDoor
open Go.RowKit Go.Shelf Go.Sort

section
variable {α : Type}
theorem flatG (enc : α → List Value) (k : Nat) (hk : ∀ x, (enc x).length = k) : ∀ (l : List α) (j r : Nat), r < k → (l.flatMap enc)[j * k + r]? = (l[j]?).bind fun x => (enc x)[r]?
  | [], _, _, _ => by simp
  | x :: l, 0, r, hr => by
    rw [List.flatMap_cons, List.getElem?_append_left (by rw [hk]; omega)]
    simp
  | x :: l, j + 1, r, hr => by
    have e : (j + 1) * k + r = k + (j * k + r) := by rw [Nat.add_mul, Nat.one_mul]; omega
    rw [List.flatMap_cons, e, List.getElem?_append_right (by rw [hk]; omega), hk, Nat.add_sub_cancel_left, flatG enc k hk l j r hr]
    simp
theorem flatN (enc : α → List Value) (k : Nat) (hk : ∀ x, (enc x).length = k) (l : List α) : (l.flatMap enc).length = l.length * k := by
  induction l with
  | nil => simp
  | cons x l ih => rw [List.flatMap_cons, List.length_append, ih, hk, List.length_cons, Nat.add_mul, Nat.one_mul, Nat.add_comm]
variable [Inhabited α]
theorem flatK_list (enc : α → List Value) (k : Nat) (hk0 : 0 < k) (hk : ∀ x, (enc x).length = k) (d : Array α) : (flatK enc k d).toList = d.toList.flatMap enc := by
  apply List.ext_getElem?
  intro t
  by_cases ht : t < d.size * k
  · have hj : t / k < d.size := (Nat.div_lt_iff_lt_mul hk0).2 ht
    have e : t / k * k + t % k = t := by rw [Nat.mul_comm]; exact Nat.div_add_mod t k
    have h1 : (flatK enc k d)[t]? = some ((enc d[t / k]!)[t % k]!) := by
      rw [← get_flatK enc k d t ht, getElem!_pos _ t (by simpa using ht), Array.getElem?_eq_getElem]
    have h2 := flatG enc k hk d.toList (t / k) (t % k) (Nat.mod_lt _ hk0)
    rw [e] at h2
    rw [h2, Array.getElem?_toList, h1, Array.getElem?_toList, Array.getElem?_eq_getElem hj]
    simp only [Option.bind_some]
    have hr : t % k < (enc d[t / k]).length := by rw [hk]; exact Nat.mod_lt _ hk0
    rw [getElem!_pos d (t / k) hj, getElem!_pos (enc d[t / k]) (t % k) hr, List.getElem?_eq_getElem hr]
  · rw [Array.getElem?_toList, Array.getElem?_eq_none (by simp; omega), List.getElem?_eq_none (by rw [flatN enc k hk]; simp; omega)]

theorem putCells_take (cur F : Array Value) (h : F.size ≤ cur.size) : (putCells id 0 F cur).toList.take F.size = F.toList := by
  apply List.ext_getElem?
  intro j
  by_cases hj : j < F.size
  · rw [List.getElem?_take_of_lt hj, Array.getElem?_toList]
    simp [putCells, hj, show j < cur.size by omega]
  · rw [List.getElem?_take_eq_none (by omega), List.getElem?_eq_none (by simp; omega)]
theorem sorted_block {w : World} {g n : Nat} {os : Array Obj} {cur : Array Value} {e : TypeId} {fr : Nat × Nat} (F : Array Value) (hb : w.heap[g]? = some (.cells cur e fr)) :
    (grow (putRow id (Sort.ahead w n) g 0 F) os).heap[g]? = some (.cells (putCells id 0 F cur) e fr) := by
  have hg : g < w.heap.size := (Array.getElem?_eq_some_iff.1 hb).1
  rw [heap_grow_old _ _ (by simpa using hg)]
  simp [putRow, mapBlock, Sort.ahead, Array.getElem?_modify, hb, onCells]
theorem sorted_grown {w : World} {g n : Nat} {os : Array Obj} (F : Array Value) : w.grownBy (grow (putRow id (Sort.ahead w n) g 0 F) os) (some g) := by
  refine ⟨rfl, rfl, rfl, by simp, fun k hk hne => ?_⟩
  rw [heap_grow_old _ _ (by simpa using hk)]
  have : g ≠ k := fun e => hne (by rw [e])
  simp [putRow, mapBlock, Sort.ahead, Array.getElem?_modify, this]

/-- A row that is sorted. -/
theorem holdsK_of {w : World} {g : Nat} {cur : Array Value} {e : TypeId} (enc : α → List Value) (k : Nat) (hk0 : 0 < k) (hk : ∀ x, (enc x).length = k) (ss : List α) (hb : w.heap[g]? = some (.cells cur e (0, 0))) (ht : cur.toList.take (ss.length * k) = ss.flatMap enc) : HoldsK enc k w g 0 ss.toArray := by
  intro j hj
  have hj' : j < ss.length * k := by simpa using hj
  refine ⟨?_, by simp [World.frozen?, hb]⟩
  have h1 : (cur.toList.take (ss.length * k))[j]? = (flatK enc k ss.toArray).toList[j]? := by rw [ht, flatK_list enc k hk0 hk]
  rw [List.getElem?_take_of_lt hj', Array.getElem?_toList, Array.getElem?_toList] at h1
  have h2 := (row_facts hb).1 (0 + j)
  rw [h2, Nat.zero_add, h1, getElem!_pos _ j hj, Array.getElem?_eq_getElem hj]
  rfl
theorem sortedK_owns {w : World} {base g cap n : Nat} {e : TypeId} {os : Array Obj} {cur : Array Value} (enc : α → List Value) (k : Nat) (hk0 : 0 < k) (hk : ∀ x, (enc x).length = k) {m : Nat} (d : Array α) (hl : d.size = m) (hbase : base ≤ g) (hb : w.heap[g]? = some (.cells cur e (0, 0)))
    (h1 : m ≤ cap) (h2 : cap ≤ maxLen) (h3 : cur.size = cap * k) :
    (sortWorldK enc k w g 0 n d os).ownsRow base e k (.slice (some ⟨g, 0, none⟩) m cap) m (d.toList.flatMap enc) := by
  have hle : (flatK enc k d).size ≤ cur.size := by rw [size_flatK, h3, hl]; exact Nat.mul_le_mul_right _ h1
  refine ⟨by rw [flatN enc k hk]; simp [hl], .inr ⟨g, cap, _, rfl, hbase, sorted_block _ hb, h1, h2, by simp [putCells, h3], ?_⟩⟩
  rw [← flatK_list enc k hk0 hk, ← putCells_take cur _ hle, size_flatK, hl]

/-- One order, one sorted row. -/
theorem sorted_is {bef : α → α → Bool} (O : Ordr bef) {L : List α} (hL : L.Pairwise fun a b => bef a b = true) {d : Array α} (hp : d.toList.Perm L) (hs : SortedIn bef 0 d.size d) : d.toList = L := by
  have irr : ∀ a, bef a a = false := O.irr
  have hn : L.Nodup := hL.imp fun {a b} h e => by subst e; rw [irr] at h; cases h
  have hnd : d.toList.Nodup := hp.nodup_iff.2 hn
  refine List.Perm.eq_of_pairwise (le := fun a b => bef a b = true) ?_ ?_ hL hp
  · intro a b _ _ h1 h2
    have := O.tr _ _ _ h1 h2
    rw [irr] at this
    cases this
  · rw [List.pairwise_iff_getElem]
    intro i j hi hj hij
    have h := hs i j (Nat.zero_le _) hij (by simpa using hj)
    rw [getElem!_pos d i (by simpa using hi), getElem!_pos d j (by simpa using hj)] at h
    have hne : d.toList[i] ≠ d.toList[j] := fun e => by
      have := (List.getElem_inj (h₀ := hi) (h₁ := hj) hnd).1 e
      omega
    simp only [Array.getElem_toList] at hne ⊢
    rcases O.tot _ _ hne with h' | h'
    · exact h'
    · rw [h'] at h; cases h
end

theorem esortNone (p : Option Addr) (cap : Nat) (fv : Value) (w : World) : Calls Tryz.prog 128 #[.slice p 0 cap, fv] w fun e w' => e = .returned (.tuple #[]) ∧ w' = w := AnyF.slices_SortFunc_none Tryz.sortEnt p cap fv w

theorem ecollect_any (g : Nat) (lb : Array Value) (eg : ∀ args w, (callFunc g args).run Tryz.prog w = .ok (.enter g args) w) (S : List Ent → Prop) (N : Nat) (hN : N ≤ 1000000) (w : World)
    (hseq : SeqStopsK Fence.wide 4 Tryz.prog g lb (fun x : Ent => #[entV x]) KeepsWalks S (fun _ => True) N w) :
    Calls Tryz.prog 127 #[.func (.func g) #[] lb] w fun e w' => ∃ (v : Value) (ss : List Ent), e = .returned v ∧ S ss ∧ w'.ownsRow w.heap.size 110 3 v ss.length (entC ss) ∧ Below w.heap.size w w' := by
  have h := callsIn_wide.1 (eappendSeq_in 5 (by omega) g lb eg S N hN w hseq)
  go_enter Tryz.func127, Tryz.ntmps127
  go_wp2_with fail
  refine h.mono ?_
  rintro e w' ⟨v, ss, rfl, h1, h2, h3⟩
  go_wp2_with fail
  go_ret
  exact ⟨v, ss, rfl, h1, h2, h3⟩

set_option maxHeartbeats 1000000 in
theorem esorted_any (w : World) (Bm : Nat) (v : Value) (ks L : List Ent) (hBm : Bm < w.heap.size) (hc : w.cell? ⟨Bm, 0, none⟩ = some v) (hV : MapV entV w v ks) (hp : ks.Perm L) (hL : L.Pairwise fun a b => aheadB a b = true) (hN : ks.length ≤ 1000000) :
    Calls Tryz.prog 94 #[.func (.func 129) #[] #[.pointer (some ⟨Bm, 0, none⟩)], .func (.func 96) #[] #[]] w fun e w' =>
      ∃ r, e = .returned r ∧ w'.ownsRow w.heap.size 110 3 r L.length (entC L) ∧ Below w.heap.size w w' := by
  have h := ecollect_any 129 #[.pointer (some ⟨Bm, 0, none⟩)] (enters_of Tryz.func129 (by kernel_rfl) rfl) _ ks.length hN w (ekeys_stops 4 Bm (by omega) v ks w hBm hc hV)
  go_enter Tryz.func94, Tryz.ntmps94
  go_wp2_with fail
  refine h.mono ?_
  rintro e w1 ⟨r, ss, rfl, hS, hrow, hb⟩
  have hlen : ss.length = L.length := (hS.trans hp).length_eq
  have hbd : ss.length ≤ 1000000 := by have := hS.length_eq; omega
  rcases hrow.2 with ⟨rfl, hz⟩ | ⟨gb, cap, cur, rfl, hbase, hgb, r1, r2, r3, r4⟩
  · have hL0 : L = [] := List.eq_nil_of_length_eq_zero (by omega)
    have hs0 : ss = [] := List.eq_nil_of_length_eq_zero hz
    subst hL0
    subst hs0
    have HR := hide hrow
    clear hrow
    go_wp2_with fail
    refine (esortNone _ _ _ _).mono ?_
    rintro e w' ⟨rfl, rfl⟩
    go_wp2_with fail
    go_ret
    exact ⟨_, rfl, HR.out, hb⟩
  · have hH : HoldsK encE 3 w1 gb 0 ss.toArray := holdsK_of encE 3 (by decide) (fun _ => rfl) ss hgb r4
    have hs := sortEnt_any gb 0 cap ss.toArray w1 hH (lt_of_heap hgb) (by rw [List.size_toArray]; exact Nat.lt_of_le_of_lt hbd (by decide))
    simp only [List.size_toArray] at hs
    have HG := hide hgb
    have HLEN := hide hlen
    clear hgb hH hrow hlen
    go_wp2_with fail
    refine hs.mono ?_
    rintro e w' ⟨rfl, d', n, os, hpi, hso, rfl⟩
    have hd : d'.size = ss.length := by simpa using hpi.1
    have hdp : d'.toList.Perm L := by
      have := hpi.2.2
      have e1 : d'.extract 0 ss.length = d' := Array.extract_eq_self_of_le (by omega)
      have e2 : ss.toArray.extract 0 ss.length = ss.toArray := Array.extract_eq_self_of_le (by simp)
      rw [e1, e2] at this
      exact (show d'.toList.Perm ss from this).trans (hS.trans hp)
    have hdL : d'.toList = L := sorted_is ord_ahead hL hdp (by
      rw [hd]
      have e : ltOf cmpEnt = aheadB := funext fun a => funext fun b => cmpEnt_lt a b
      rw [← e]
      exact hso)
    have ho := sortedK_owns (os := os) (n := n) (base := w.heap.size) encE 3 (by decide) (fun _ => rfl) d' hd hbase HG.out r1 r2 r3
    rw [hdL] at ho
    have HO := hide ho
    have hB9 : Below w.heap.size w (sortWorldK encE 3 w1 gb 0 n d' os) := hb.grown (sorted_grown (g := gb) (n := n) (os := os) (flatK encE 3 d')) hb.size (fun j hj => by cases hj; exact hbase)
    have HB := hide hB9
    clear hB9
    clear ho
    generalize sortWorldK encE 3 w1 gb 0 n d' os = w9 at *
    go_wp2_with fail
    go_ret
    exact ⟨_, rfl, by rw [← HLEN.out]; exact HO.out, HB.out⟩
theorem tsortNone (p : Option Addr) (cap : Nat) (fv : Value) (w : World) : Calls Tryz.prog 149 #[.slice p 0 cap, fv] w fun e w' => e = .returned (.tuple #[]) ∧ w' = w := AnyF.slices_SortFunc_none Tryz.sortTok p cap fv w

theorem tcollect_any (g : Nat) (lb : Array Value) (eg : ∀ args w, (callFunc g args).run Tryz.prog w = .ok (.enter g args) w) (S : List Tok → Prop) (N : Nat) (hN : N ≤ 1000000) (w : World)
    (hseq : SeqStopsK Fence.wide 4 Tryz.prog g lb (fun x : Tok => #[tokV x]) KeepsWalks S (fun _ => True) N w) :
    Calls Tryz.prog 148 #[.func (.func g) #[] lb] w fun e w' => ∃ (v : Value) (ss : List Tok), e = .returned v ∧ S ss ∧ w'.ownsRow w.heap.size 108 2 v ss.length (tokC ss) ∧ Below w.heap.size w w' := by
  have h := callsIn_wide.1 (tappendSeq_in 5 (by omega) g lb eg S N hN w hseq)
  go_enter Tryz.func148, Tryz.ntmps148
  go_wp2_with fail
  refine h.mono ?_
  rintro e w' ⟨v, ss, rfl, h1, h2, h3⟩
  go_wp2_with fail
  go_ret
  exact ⟨v, ss, rfl, h1, h2, h3⟩

set_option maxHeartbeats 1000000 in
theorem tsorted_any (w : World) (Bm : Nat) (v : Value) (ks L : List Tok) (hBm : Bm < w.heap.size) (hc : w.cell? ⟨Bm, 0, none⟩ = some v) (hV : MapV tokV w v ks) (hp : ks.Perm L) (hL : L.Pairwise fun a b => beforeB a b = true) (hN : ks.length ≤ 1000000) :
    Calls Tryz.prog 121 #[.func (.func 150) #[] #[.pointer (some ⟨Bm, 0, none⟩)], .func (.func 123) #[] #[]] w fun e w' =>
      ∃ r, e = .returned r ∧ w'.ownsRow w.heap.size 108 2 r L.length (tokC L) ∧ Below w.heap.size w w' := by
  have h := tcollect_any 150 #[.pointer (some ⟨Bm, 0, none⟩)] (enters_of Tryz.func150 (by kernel_rfl) rfl) _ ks.length hN w (tkeys_stops 4 Bm (by omega) v ks w hBm hc hV)
  go_enter Tryz.func121, Tryz.ntmps121
  go_wp2_with fail
  refine h.mono ?_
  rintro e w1 ⟨r, ss, rfl, hS, hrow, hb⟩
  have hlen : ss.length = L.length := (hS.trans hp).length_eq
  have hbd : ss.length ≤ 1000000 := by have := hS.length_eq; omega
  rcases hrow.2 with ⟨rfl, hz⟩ | ⟨gb, cap, cur, rfl, hbase, hgb, r1, r2, r3, r4⟩
  · have hL0 : L = [] := List.eq_nil_of_length_eq_zero (by omega)
    have hs0 : ss = [] := List.eq_nil_of_length_eq_zero hz
    subst hL0
    subst hs0
    have HR := hide hrow
    clear hrow
    go_wp2_with fail
    refine (tsortNone _ _ _ _).mono ?_
    rintro e w' ⟨rfl, rfl⟩
    go_wp2_with fail
    go_ret
    exact ⟨_, rfl, HR.out, hb⟩
  · have hH : HoldsK encT 2 w1 gb 0 ss.toArray := holdsK_of encT 2 (by decide) (fun _ => rfl) ss hgb r4
    have hs := sortTok_any gb 0 cap ss.toArray w1 hH (lt_of_heap hgb) (by rw [List.size_toArray]; exact Nat.lt_of_le_of_lt hbd (by decide))
    simp only [List.size_toArray] at hs
    have HG := hide hgb
    have HLEN := hide hlen
    clear hgb hH hrow hlen
    go_wp2_with fail
    refine hs.mono ?_
    rintro e w' ⟨rfl, d', n, os, hpi, hso, rfl⟩
    have hd : d'.size = ss.length := by simpa using hpi.1
    have hdp : d'.toList.Perm L := by
      have := hpi.2.2
      have e1 : d'.extract 0 ss.length = d' := Array.extract_eq_self_of_le (by omega)
      have e2 : ss.toArray.extract 0 ss.length = ss.toArray := Array.extract_eq_self_of_le (by simp)
      rw [e1, e2] at this
      exact (show d'.toList.Perm ss from this).trans (hS.trans hp)
    have hdL : d'.toList = L := sorted_is ord_before hL hdp (by
      rw [hd]
      have e : ltOf cmpTok = beforeB := funext fun a => funext fun b => cmpTok_lt a b
      rw [← e]
      exact hso)
    have ho := sortedK_owns (os := os) (n := n) (base := w.heap.size) encT 2 (by decide) (fun _ => rfl) d' hd hbase HG.out r1 r2 r3
    rw [hdL] at ho
    have HO := hide ho
    have hB9 : Below w.heap.size w (sortWorldK encT 2 w1 gb 0 n d' os) := hb.grown (sorted_grown (g := gb) (n := n) (os := os) (flatK encT 2 d')) hb.size (fun j hj => by cases hj; exact hbase)
    have HB := hide hB9
    clear hB9
    clear ho
    generalize sortWorldK encT 2 w1 gb 0 n d' os = w9 at *
    go_wp2_with fail
    go_ret
    exact ⟨_, rfl, by rw [← HLEN.out]; exact HO.out, HB.out⟩
end Go.Proofs.YtnniimfinakioaaGreatDoor
namespace Go.Proofs.YtnniimfinakioaaGreatDoor
open Go.RowKit Go.Shelf

set_option maxHeartbeats 1000000 in
theorem entries_any (w : World) (vE vK : Value) (ks L : List Ent) (h : MapV entV w vE ks) (hp : ks.Perm L) (hL : L.Pairwise fun a b => aheadB a b = true) (hN : ks.length ≤ 1000000) :
    Calls Tryz.prog 69 #[.agg #[vE, vK]] w fun e w' => ∃ r, e = .returned r ∧ w'.ownsRow w.heap.size 110 3 r L.length (entC L) ∧ Below w.heap.size w w' := by
  obtain ⟨m, rfl⟩ : ∃ m, vE = .map m := ⟨_, h.form⟩
  have hb : Below w.heap.size w ((w.alloc (.cells #[.map m, vK] 90)).alloc (.cells #[.map m] 87)) := below2 w _ _
  have q : ((w.alloc (.cells #[.map m, vK] 90)).alloc (.cells #[.map m] 87)).heap[w.heap.size + 1]? = some (.cells #[.map m] 87) := new_at _ _ (by simp)
  have hs := esorted_any _ (w.heap.size + 1) (.map m) ks L (by simp) ((row_facts q).1 0) (h.below hb fun _ hb => h.lt hb) hp hL hN
  go_enter Tryz.func69, Tryz.ntmps69
  go_wp2_with fail
  refine (ekeys_any m _).mono ?_
  rintro e w' ⟨rfl, rfl⟩
  go_wp2_with fail
  refine hs.mono ?_
  rintro e w' ⟨r, rfl, h1, h2⟩
  have HB := hide (hb.trans (h2.mono hb.size))
  have HO := hide (own_mono h1 hb.size)
  clear hs h1 h2 hb
  go_wp2_with fail
  go_ret
  exact ⟨r, rfl, HO.out, HB.out⟩
set_option maxHeartbeats 1000000 in
theorem known_any (w : World) (vE vK : Value) (ks L : List Tok) (h : MapV tokV w vK ks) (hp : ks.Perm L) (hL : L.Pairwise fun a b => beforeB a b = true) (hN : ks.length ≤ 1000000) :
    Calls Tryz.prog 83 #[.agg #[vE, vK]] w fun e w' => ∃ r, e = .returned r ∧ w'.ownsRow w.heap.size 108 2 r L.length (tokC L) ∧ Below w.heap.size w w' := by
  obtain ⟨m, rfl⟩ : ∃ m, vK = .map m := ⟨_, h.form⟩
  have hb : Below w.heap.size w ((w.alloc (.cells #[vE, .map m] 90)).alloc (.cells #[.map m] 88)) := below2 w _ _
  have q : ((w.alloc (.cells #[vE, .map m] 90)).alloc (.cells #[.map m] 88)).heap[w.heap.size + 1]? = some (.cells #[.map m] 88) := new_at _ _ (by simp)
  have hs := tsorted_any _ (w.heap.size + 1) (.map m) ks L (by simp) ((row_facts q).1 0) (h.below hb fun _ hb => h.lt hb) hp hL hN
  go_enter Tryz.func83, Tryz.ntmps83
  go_wp2_with fail
  refine (tkeys_any m _).mono ?_
  rintro e w' ⟨rfl, rfl⟩
  go_wp2_with fail
  refine hs.mono ?_
  rintro e w' ⟨r, rfl, h1, h2⟩
  have HB := hide (hb.trans (h2.mono hb.size))
  have HO := hide (own_mono h1 hb.size)
  clear hs h1 h2 hb
  go_wp2_with fail
  go_ret
  exact ⟨r, rfl, HO.out, HB.out⟩
end Go.Proofs.YtnniimfinakioaaGreatDoor
