/-
  Contracts of stage 6: the reference's SameInts, Right. slices.Backward over a slice of bytes: the iterator's contract. (In a fence.). Contracts of stage 6: the reference's Missed, the program's missed. Contracts of stage 6: root, vanishing.
-/
import Derived.Test.YtbilfhipmebmlaaDoorPfi
import Derived.RangeFuncBox
import Derived.RangeFuncLeaves
import Derived.RangeFuncBound
import Derived.RangeFuncNested
import Derived.RangeFuncCalls
import Derived.Shelf.Abstract
import Derived.Shelf.RegionOpen
import Derived.WalkKit
import Derived.OwnWalkIn
import Derived.TacticsInMore
import Derived.LoopNIn
import Derived.LoopIn
import Derived.Test.YtbilfhipmebmlaaDoorPbd
import Derived.Test.YtbilfhipmebmlaaDoorMr
namespace Go.Proofs.YtbilfhipmebmlaaDoor
set_option linter.unusedVariables false
set_option linter.unusedSimpArgs false
open Go.RowKit

set_option maxRecDepth 100000 in
set_option maxHeartbeats 1000000 in
theorem refSameInts6_any {B B' : Nat} (a b : List Nat) (A A' : Option Addr) (c c' : Nat) (w : World) (h : Rds w B A (a.map pv)) (h' : Rds w B' A' (b.map pv)) (hl : a.length ≤ 140737488355328) :
    Calls Tryd.prog 35 #[.slice A a.length c, .slice A' b.length c'] w fun e w' => e = .returned (.bool (sameB a b)) ∧ ∃ n, w' = w.drewN n := by
  by_cases hab : a.length = b.length
  rotate_left
  · have hr := sameB_len hab
    have t : ((a.length : Int) != (b.length : Int)) = true := by simp only [bne_iff_ne, ne_eq]; omega
    rw [hr]
    clear hab h h' hr
    go_enter Tryd.func35, Tryd.ntmps35
    go_wp2_with fail
    go_ret
    exact ⟨rfl, 0, rfl⟩
  have ha := Lib.hid h
  have hb := Lib.hid h'
  obtain ⟨r, hr0⟩ : ∃ r, r = sameB a b := ⟨_, rfl⟩
  have hr := Lib.hid hr0
  rw [← hr0]
  obtain ⟨n, hn0⟩ : ∃ n, n = a.length := ⟨_, rfl⟩
  have hn : Hid (n = a.length ∧ n = b.length) := ⟨hn0, by omega⟩
  rw [show a.length = n by omega, show b.length = n by omega]
  have hnl : n ≤ 140737488355328 := by omega
  clear h h' hr0 hn0 hab hl
  go_enter Tryd.func35, Tryd.ntmps35
  go_wp2_with fail
  go_loopw [5] (fun i wr => ∃ k m : Nat, k ≤ n ∧ i = .int .i64 k ∧ Hid (a.take k = b.take k) ∧ wr = w.drewN m) (fun i _ => n - (intOf i).toNat)
  case atStart => exact ⟨0, 0, by omega, rfl, rfl, rfl⟩
  case round =>
    obtain ⟨k, m, hk, rfl, heq, rfl⟩ := hrel
    by_cases hlt : k < n
    · have t : (k : Int) < (n : Int) := by omega
      have t0 : 0 ≤ (k : Int) := by omega
      obtain ⟨x, hx⟩ : ∃ x, a[k]? = some x := ⟨_, List.getElem?_eq_getElem (by have := hn.out.1; omega)⟩
      obtain ⟨y, hy⟩ : ∃ x, b[k]? = some x := ⟨_, List.getElem?_eq_getElem (by have := hn.out.2; omega)⟩
      obtain ⟨ad, rfl, _, hca⟩ := ha.out.look (k := k) (u := pv x) (by rw [List.getElem?_map, hx]; rfl)
      obtain ⟨bd, rfl, _, hcb⟩ := hb.out.look (k := k) (u := pv y) (by rw [List.getElem?_map, hy]; rfl)
      have hx' := Lib.hid hx
      have hy' := Lib.hid hy
      unfold pv at hca hcb
      clear hx hy
      by_cases hxy : x = y
      · subst hxy
        have hnx := Lib.hid (take_next heq.out hx'.out hy'.out)
        go_wp2_with fail
        go_quiet (fail)
        go_wp2
        go_roundw
        case rel => exact ⟨k + 1, _, by omega, by go_num, hnx, by first | rfl | (go_simp; done) | (go_simp; rfl)⟩
        case measure => simp [intOf]; omega
      · have tne : ((x : Int) != (y : Int)) = true := by simp only [bne_iff_ne, ne_eq]; omega
        have hf : Hid (r = false) := by show _ = _; rw [hr.out]; exact sameB_false hx'.out hy'.out hxy
        clear hxy
        go_wp2_with fail
        go_quiet (fail)
        go_wp2
        go_ret
        exact ⟨by rw [hf.out]; rfl, _, by first | rfl | (go_simp; done) | (go_simp; rfl)⟩
    · have t : ¬ (k : Int) < (n : Int) := by omega
      have hf : Hid (r = true) := by
        have := heq.out
        rw [List.take_of_length_le (by have := hn.out.1; omega), List.take_of_length_le (by have := hn.out.2; omega)] at this
        show _ = _
        rw [hr.out, this]
        unfold sameB
        simp
      go_wp2_with fail
      go_ret
      exact ⟨by rw [hf.out]; rfl, m, rfl⟩

/-- No two of the first n are equal. -/
def Dist (xs : List UInt8) (n : Nat) : Prop := ∀ i k, k < i → i < n → co xs i ≠ co xs k

/-- What Right ends with. -/
def RightEnd (w : World) (D : Prop) (e : Ending) (w' : World) : Prop := ∃ b, e = .returned (.bool b) ∧ (b = true ↔ D) ∧ ∃ n, w' = w.drewN n

set_option maxRecDepth 100000 in
set_option maxHeartbeats 2000000 in
theorem refRight_any {B : Nat} (a : List UInt8) (A A' : Option Addr) (c n' c' : Nat) (w : World) (h : Rds w B A (a.map bv)) (hl : a.length ≤ 140737488355328) (hl' : n' ≤ 140737488355328) :
    Calls Tryd.prog 37 #[.slice A a.length c, .slice A' n' c'] w (RightEnd w (Dist a a.length ∧ a.length = n')) := by
  have ha := Lib.hid h
  obtain ⟨n, hn0⟩ : ∃ n, n = a.length := ⟨_, rfl⟩
  have hn := Lib.hid hn0
  rw [← hn0] at hl ⊢
  obtain ⟨D, hD0⟩ : ∃ D : Prop, (Dist a n ∧ n = n') = D := ⟨_, rfl⟩
  rw [hD0]
  have hD : Hid (D ↔ Dist a n ∧ n = n') := by show D ↔ _; rw [← hD0]
  clear h hn0 hD0
  go_enter Tryd.func37, Tryd.ntmps37
  go_wp2_with fail
  go_loopw [5] (fun v wr => ∃ i m : Nat, i ≤ n ∧ v = .int .i64 i ∧ Hid (Dist a i) ∧ wr = w.drewN m) (fun v _ => n - (intOf v).toNat)
  case atStart => exact ⟨0, 0, by omega, rfl, (fun i k h1 h2 => by omega), rfl⟩
  case round =>
    obtain ⟨i, m, hi, rfl, hd, rfl⟩ := hrel
    by_cases hlt : i < n
    · have ti : (i : Int) < (n : Int) := by omega
      have ti0 : 0 ≤ (i : Int) := by omega
      go_wp2_with fail
      go_loopw [6] (fun v wr => ∃ k m : Nat, k ≤ i ∧ v = .int .i64 k ∧ Hid (∀ j, j < k → co a i ≠ co a j) ∧ wr = w.drewN m) (fun v _ => i - (intOf v).toNat)
      case atStart => exact ⟨0, m, by omega, rfl, (fun j h => by omega), rfl⟩
      case round =>
        obtain ⟨k, m, hk, rfl, hne, rfl⟩ := hrel
        by_cases hltk : k < i
        · have t : (k : Int) < (i : Int) := by omega
          have t0 : 0 ≤ (k : Int) := by omega
          have tn : (k : Int) < (n : Int) := by omega
          have hx := at_co (p := a) (k := i) (by rw [← hn.out]; exact hlt)
          have hy := at_co (p := a) (k := k) (by rw [← hn.out]; omega)
          obtain ⟨ad, rfl, _, hca⟩ := ha.out.look (k := i) (u := bv (co a i)) (by rw [List.getElem?_map, hx]; rfl)
          obtain ⟨bd, e, _, hcb⟩ := ha.out.look (k := k) (u := bv (co a k)) (by rw [List.getElem?_map, hy]; rfl)
          cases e
          obtain ⟨x, hx1⟩ : ∃ x, x = co a i := ⟨_, rfl⟩
          obtain ⟨y, hy1⟩ : ∃ y, y = co a k := ⟨_, rfl⟩
          rw [← hx1] at hca
          rw [← hy1] at hcb
          have hx1' := Lib.hid hx1
          have hy1' := Lib.hid hy1
          unfold bv at hca hcb
          clear hx hy hx1 hy1
          by_cases hxy : x = y
          · subst hxy
            have hf : Hid (¬ Dist a n) := fun hD => hD i k hltk hlt (by rw [← hx1'.out, ← hy1'.out])
            go_wp2_with fail
            go_quiet (fail)
            go_wp2
            go_ret
            exact ⟨false, by first | rfl | (go_simp; done) | (go_simp; rfl), ⟨fun h => (by cases h), fun h => absurd (hD.out.1 h).1 hf.out⟩, _, by first | rfl | (go_simp; done) | (go_simp; rfl)⟩
          · have tne : (((x.toNat : Nat) : Int) == ((y.toNat : Nat) : Int)) = false := by
              simp only [beq_eq_false_iff_ne, ne_eq]; intro e; exact hxy (UInt8.toNat_inj.1 (by omega))
            have hnx : Hid (∀ j, j < k + 1 → co a i ≠ co a j) := fun j hj => by
              by_cases hjk : j = k
              · subst hjk; rw [← hx1'.out, ← hy1'.out]; exact hxy
              · exact hne.out j (by omega)
            clear hxy
            go_wp2_with fail
            go_quiet (fail)
            go_wp2
            go_roundw
            case rel => exact ⟨k + 1, _, by omega, by go_num, hnx, by first | rfl | (go_simp; done) | (go_simp; rfl)⟩
            case measure => simp [intOf]; omega
        · have t : ¬ (k : Int) < (i : Int) := by omega
          have hd' : Hid (Dist a (i + 1)) := fun j q h1 h2 => by
            by_cases hj : j = i
            · subst hj; exact hne.out q (by omega)
            · exact hd.out j q h1 (by omega)
          go_wp2_with fail
          go_roundw
          case rel => exact ⟨i + 1, m, by omega, by go_num, hd', by trivial⟩
          case measure => simp [intOf]; omega
    · have t : ¬ (i : Int) < (n : Int) := by omega
      have hin : i = n := by omega
      by_cases hnn : n = n'
      · have te : ((n : Int) == (n' : Int)) = true := by simp [hnn]
        have hr : Hid (Dist a n) := by have := hd.out; rw [hin] at this; exact this
        go_wp2_with fail
        go_ret
        exact ⟨true, by first | rfl | (go_simp; done) | (go_simp; rfl), ⟨fun _ => hD.out.2 ⟨hr.out, hnn⟩, fun _ => rfl⟩, m, rfl⟩
      · have te : ((n : Int) == (n' : Int)) = false := by
          simp only [beq_eq_false_iff_ne, ne_eq]; omega
        go_wp2_with fail
        go_ret
        exact ⟨false, by first | rfl | (go_simp; done) | (go_simp; rfl), ⟨fun h => (by cases h), fun h => absurd (hD.out.1 h).2 hnn⟩, m, rfl⟩
end Go.Proofs.YtbilfhipmebmlaaDoor

namespace Go.Proofs.YtbilfhipmebmlaaDoor
set_option linter.unusedVariables false
set_option linter.unusedSimpArgs false
open Go.RowKit Go.Shelf
attribute [local go_sem] Oper.semAt_some

/-- What has come when k rounds are over. -/
def bkw (p : List UInt8) (k : Nat) : List (Nat × UInt8) := (List.range k).map fun j => (p.length - 1 - j, co p (p.length - 1 - j))
theorem bkw_succ {p : List UInt8} {k m : Nat} (h : k + (m + 1) = p.length) : bkw p (k + 1) = bkw p k ++ [(m, co p m)] := by
  simp only [bkw, List.range_succ, List.map_append, List.map_cons, List.map_nil]
  rw [show p.length - 1 - k = m by omega]
theorem bkw_len (p : List UInt8) (k : Nat) : (bkw p k).length = k := by simp [bkw]
/-- What a round keeps: the blocks below, and the box of the slice. -/
def KeepB (Bs n₀ : Nat) (W W' : World) : Prop := Below n₀ W W' ∧ W'.cell? ⟨Bs, 0, none⟩ = W.cell? ⟨Bs, 0, none⟩
theorem KeepB.refl (Bs n₀ : Nat) (W : World) : KeepB Bs n₀ W W := ⟨Below.refl _ _, rfl⟩
theorem KeepB.trans {Bs n₀ : Nat} {A B C : World} (h : KeepB Bs n₀ A B) (k : KeepB Bs n₀ B C) : KeepB Bs n₀ A C := ⟨h.1.trans k.1, k.2.trans h.2⟩

set_option maxRecDepth 100000 in
set_option maxHeartbeats 2000000 in
theorem backward1_in (F : Fence) (n : Nat) (hf : F.fn 100) (hro : F.round = none) (hn : 1 ≤ n) (l Bs n₀ N c : Nat) (p : List UInt8) (A : Option Addr) (hN : p.length = N) (hl : N ≤ 140737488355328) (J Jx : List (Nat × UInt8) → World → Prop)
    (hY : ∀ pre x W, J pre W → pre.length < N → YieldAt F (n - 1) Tryd.prog l #[.int .i64 (x.1 : Int), .int .u8 (x.2.toNat : Int)] W fun e W' =>
      (e = .returned (.bool true) ∧ J (pre ++ [x]) W' ∧ KeepB Bs n₀ W W') ∨ (e = .returned (.bool false) ∧ Jx (pre ++ [x]) W'))
    (W : World) (hBs : W.cell? ⟨Bs, 0, none⟩ = some (.slice A N c)) (hr : Rds W n₀ A (p.map bv)) (h0 : J [] W) :
    CallsIn F n Tryd.prog 100 #[.func (.yield l) #[] #[], .pointer (some ⟨Bs, 0, none⟩)] W fun e W' => (∃ v, e = .returned v) ∧
      ((∃ ys, ys = bkw p N ∧ J ys W') ∨ (∃ pre, True ∧ Jx pre W')) := by
  have hN' := Lib.hid hN
  have hr' := Lib.hid hr
  clear hN hr
  refine callsIn_of_wp Tryd.func100 rfl hf ?_ hro
  simp only [Tryd.ntmps100, List.size_toArray, List.length_cons, List.length_nil, Nat.reduceAdd, Nat.reduceSub, Array.replicate_succ, Array.replicate_zero, List.push_toArray, List.append_toArray, List.nil_append, List.cons_append]
  gi_wp2
  gi_loopw [3] (fun i wr => ∃ k m : Nat, k + m = N ∧ i = .int .i64 ((m : Int) - 1) ∧ J (bkw p k) wr ∧ KeepB Bs n₀ W wr)
    (fun i _ => (intOf i + 1).toNat)
  case atStart => exact ⟨0, N, by omega, by go_num, h0, KeepB.refl _ _ _⟩
  case round =>
    obtain ⟨k, m, hk, rfl, hJs, hnx⟩ := hrel
    have hb2 := hnx.2.trans hBs
    cases m with
    | zero =>
      rw [show (((0 : Nat) : Int) - 1) = -1 from rfl]
      obtain rfl : k = N := by omega
      gi_wp2
      go_end0
      exact ⟨⟨_, rfl⟩, .inl ⟨_, rfl, hJs⟩⟩
    | succ m =>
      have hs := bkw_succ (p := p) (k := k) (m := m) (by have := hN'.out; omega)
      have hx := at_co (p := p) (k := m) (by have := hN'.out; omega)
      obtain ⟨ad, rfl, _, hca⟩ := (hr'.out.below hnx.1).look (k := m) (u := bv (co p m)) (by rw [List.getElem?_map, hx]; rfl)
      obtain ⟨fn, tmps, assign, body, hy, hR⟩ := hY _ (m, co p m) wr hJs (by rw [bkw_len]; omega)
      dsimp only at hy
      rw [← hs] at hR
      have hs' := Lib.hid hs
      unfold bv at hca
      clear hx hs
      generalize co p m = x at *
      rw [show (((m + 1 : Nat) : Int) - 1) = (m : Int) by omega]
      have t : (m : Int) < (N : Int) := by omega
      have t0 : 0 ≤ (m : Int) := by omega
      gi_wp2
      refine hR.mono ?_
      rintro e W3 (⟨rfl, hJ3, hk3⟩ | ⟨rfl, hJx3⟩)
      · gi_wp2
        go_roundw
        case rel => exact ⟨k + 1, m, by omega, by go_num, hJ3, hnx.trans hk3⟩
        case measure => simp [intOf]
      · gi_wp2
        refine bodyPost_ret (results_none rfl _ _ _) rfl ?_
        exact ⟨⟨_, rfl⟩, .inr ⟨_, trivial, hJx3⟩⟩

set_option maxHeartbeats 1000000 in
theorem backward_in (F : Fence) (n : Nat) (hf : F.fn 63) (hro : F.round = none) (a : Option Addr) (len cap : Nat) (w : World) :
    CallsIn F n Tryd.prog 63 #[.slice a len cap] w fun e w' => e = .returned (.func (.func 100) #[] #[.pointer (some ⟨w.heap.size, 0, none⟩)]) ∧ w' = w.alloc (.cells #[.slice a len cap] 22) := by
  refine callsIn_of_wp Tryd.func63 rfl hf ?_ hro
  simp only [Tryd.ntmps63, List.size_toArray, List.length_cons, List.length_nil, Nat.reduceAdd, Nat.reduceSub, Array.replicate_succ, Array.replicate_zero, List.push_toArray, List.append_toArray, List.nil_append, List.cons_append]
  gi_wp2
  go_ret
  exact ⟨rfl, rfl⟩
theorem backward_stops (F : Fence) (n : Nat) (hf : F.fn 100) (hro : F.round = none) (hn : 1 ≤ n) (Bs n₀ : Nat) (A : Option Addr) (N c : Nat) (p : List UInt8) (hN : p.length = N) (hl : N ≤ 140737488355328) (w : World) (hB : Bs < w.heap.size) (hn₀ : n₀ ≤ w.heap.size)
    (hc : w.cell? ⟨Bs, 0, none⟩ = some (.slice A N c)) (hr : Rds w n₀ A (p.map bv)) :
    SeqStopsK F n Tryd.prog 100 #[.pointer (some ⟨Bs, 0, none⟩)] (fun x : Nat × UInt8 => #[Value.int .i64 (x.1 : Int), Value.int .u8 (x.2.toNat : Int)]) (KeepB Bs n₀) (fun ys => ys = bkw p N) (fun pre => True) N w := fun l J Jx W hW _ _ hY h0 =>
  backward1_in F n hf hro hn l Bs n₀ N c p A hN hl J Jx hY W ((hW.cell (p := ⟨Bs, 0, none⟩) hB).trans hc) (hr.below (hW.mono hn₀)) h0
theorem keepB_t {Bs n₀ : Nat} {A B C : World} (h : KeepB Bs n₀ A B) (k : KeepB Bs n₀ B C) : KeepB Bs n₀ A C := h.trans k
theorem keepB_b {Bs n₀ : Nat} {w : World} (hB : Bs < w.heap.size) (hn : n₀ ≤ w.heap.size) (W : World) (l : Nat) (o o' : Obj) (hl : w.heap.size ≤ l) (h : W.heap[l]? = some o) (ho : o.isCells = false) (hw : o.isWalk = false) : KeepB Bs n₀ W (W.putObj l o') :=
  ⟨belowK_b hn W l o o' hl h ho hw, (belowK_b (n₀ := Bs + 1) (by omega) W l o o' hl h ho hw).cell (p := ⟨Bs, 0, none⟩) (by show Bs < Bs + 1; omega)⟩

/-- The value, as it grows. -/
def acc (x : UInt8) (pre : List (Nat × UInt8)) : UInt8 := pre.foldl (fun s c => Gf.mul s x ^^^ c.2) 0
theorem acc_snoc (x : UInt8) (pre : List (Nat × UInt8)) (c : Nat × UInt8) : acc x (pre ++ [c]) = Gf.mul (acc x pre) x ^^^ c.2 := by simp [acc]
theorem acc_bkw (p : List UInt8) (x : UInt8) : ∀ k, k ≤ p.length → acc x (bkw p k) = ev (p.drop (p.length - k)) x := by
  intro k
  induction k with
  | zero => intro _; simp [acc, bkw, ev]
  | succ k ih =>
    intro hk
    rw [bkw_succ (m := p.length - 1 - k) (by omega), acc_snoc, ih (by omega), ev_drop (k := p.length - (k + 1)) x (by omega), show p.length - (k + 1) + 1 = p.length - k by omega, show p.length - 1 - k = p.length - (k + 1) by omega]
theorem acc_all (p : List UInt8) (x : UInt8) : acc x (bkw p p.length) = ev p x := by
  rw [acc_bkw p x _ (Nat.le_refl _), Nat.sub_self]; rfl

set_option maxRecDepth 100000 in
set_option maxHeartbeats 2000000 in
theorem eval_any (p : List UInt8) (x : UInt8) (A : Option Addr) (N c : Nat) (w : World) (hN : p.length = N) (hl : N ≤ 140737488355328) (hr : Rds w w.heap.size A (p.map bv)) (ht : PTab 0 w) :
    Calls Tryd.prog 16 #[.slice A N c, bv x] w fun e W' => e = .returned (bv (ev p x)) ∧ Below w.heap.size w W' := by
  refine (callsIn_wide (n := 5)).1 ?_
  have hro : Fence.wide.round = none := rfl
  have HM := Lib.hid (fun a b W (h : PTab 0 W) => mul_any a b W h)
  have ht' := Lib.hid ht
  have hr' := Lib.hid hr
  have hN' := Lib.hid hN
  clear ht hr hN
  unfold bv
  refine callsIn_of_wp_marks Tryd.func16 rfl trivial ?_ hro
  simp only [Tryd.ntmps16, List.size_toArray, List.length_cons, List.length_nil, Nat.reduceAdd, Nat.reduceSub, Array.replicate_succ, Array.replicate_zero, List.push_toArray, List.append_toArray, List.nil_append, List.cons_append]
  gi_wp2_with (refine ⟨trivial, ?_⟩; gi_at_call 63; refine (backward_in Fence.wide 4 trivial hro _ _ _ _).mono ?_; rintro e w' ⟨rfl, rfl⟩)
  have bX := Boxed.new w 5 (.int .u8 (x.toNat : Int))
  have bV := Boxed.new (w.alloc (.cells #[.int .u8 (x.toNat : Int)] 5)) 5 (.int .u8 0)
  have bN := Boxed.new ((w.alloc (.cells #[.int .u8 (x.toNat : Int)] 5)).alloc (.cells #[.int .u8 0] 5)) 22 (.slice A N c)
  rw [World.size_alloc] at bV
  rw [World.size_alloc, World.size_alloc] at bN
  have hB0 : Below w.heap.size w (((w.alloc (.cells #[.int .u8 (x.toNat : Int)] 5)).alloc (.cells #[.int .u8 0] 5)).alloc (.cells #[.slice A N c] 22)) := (((Below.refl _ w).alloc (Nat.le_refl _) _).alloc (by simp) _).alloc (by simp; omega) _
  refine wpIn_rangeFunc_ownG hro (by omega) (gf := 100) (lb := #[.pointer (some ⟨w.heap.size + 1 + 1, 0, none⟩)]) rfl trivial (enters_of Tryd.func100 (by kernel_rfl) rfl)
    (backward_stops Fence.wide 4 trivial hro (by omega) (w.heap.size + 1 + 1) w.heap.size A N c p hN'.out hl _ (by simp) (by simp; omega) bN.cell (hr'.out.below hB0)) keepB_t (keepB_b (by simp) (by simp; omega)) (Below.refl _ _) (fun _ => rfl)
    (fun pre W => ((W.cell? ⟨w.heap.size + 1, 0, none⟩ = some (.int .u8 ((acc x pre).toNat : Int)) ∧ W.frozen? ⟨w.heap.size + 1, 0, none⟩ = false) ∧ W.cell? ⟨w.heap.size, 0, none⟩ = some (.int .u8 (x.toNat : Int))) ∧ Below w.heap.size w W)
    (fun _ _ _ => False)
    (OwnFrom.and (Own.from (fun s A B row hs hg hr => ⟨⟨cell_kept hs.1.1 hg hr, (frozen_kept hs.1.1 hg hr).trans hs.1.2⟩, cell_kept hs.2 hg hr⟩) _) (ownFrom_below (Nat.le_refl _) (by simp; omega)))
    (fun _ _ _ _ _ hs _ _ => hs)
    ⟨⟨⟨(bV.alloc _).cell, (bV.alloc _).frozen⟩, ((bX.alloc _).alloc _).cell⟩, hB0⟩
    (fun y => { tmps := #[.slice A N c, .int .u8 (x.toNat : Int), undef, .pointer (some ⟨w.heap.size, 0, none⟩), .int .u8 0, .pointer (some ⟨w.heap.size + 1, 0, none⟩), undef, .int .u8 (y.2.toNat : Int), .slice A N c, .func (.func 100) #[] #[.pointer (some ⟨w.heap.size + 1 + 1, 0, none⟩)], .int .i64 (y.1 : Int), .int .u8 (y.2.toNat : Int), undef, undef, undef, undef, undef, undef], defers := [] }) ?assign ?body ?done ?stop
  case assign =>
    intro l x W K hK
    gi_wp2
    exact hK
  case body =>
    rintro l pre y W ⟨⟨⟨hc, hf⟩, hx⟩, hB⟩ _
    have hM := HM.out (acc x pre) x W (ht'.out.below hB ht'.out.1)
    unfold bv at hM
    have hs := Lib.hid (acc_snoc x pre y)
    generalize acc x pre = v at *
    generalize Gf.mul v x = m at *
    have hd : 1 ≤ 5 - 1 - 1 := by omega
    gi_wp2_with (refine ⟨trivial, ?_⟩; gi_at_call 36; refine (CallsIn.inRound l (callsIn_wide.2 hM)).mono ?_; rintro e w' ⟨rfl, n2, rfl⟩)
    rw [u8_xor_bv, ← hs.out]
    have hne : (⟨w.heap.size + 1, 0, none⟩ : Addr) ≠ ⟨w.heap.size, 0, none⟩ := by intro e; have := congrArg Addr.block e; simp at this
    have hne2 : (⟨w.heap.size + 1, 0, none⟩ : Addr) ≠ ⟨w.heap.size + 1 + 1, 0, none⟩ := by intro e; have := congrArg Addr.block e; simp at this
    have hR : Below w.heap.size W W := Below.refl _ W
    have hW : Below w.heap.size W (W.drewN n2) := ⟨hR.os, hR.tape, hR.output, hR.size, hR.block⟩
    have hKO : KeepsOthers W ((W.drewN n2).setCell ⟨w.heap.size + 1, 0, none⟩ (.int .u8 ((acc x (pre ++ [y])).toNat : Int))) := KeepsOthers.trans (⟨Nat.le_refl _, fun _ _ h _ => h⟩ : KeepsOthers W (W.drewN n2)) (KeepsOthers.setCell (W.drewN n2) _ _)
    exact ⟨hKO.from _, ⟨hW.setCell (p := ⟨w.heap.size + 1, 0, none⟩) (by show w.heap.size ≤ w.heap.size + 1; omega) _, World.cell?_setCell_other _ _ _ _ hne2⟩,
      ⟨⟨World.cell?_setCell_same' _ _ _ (by show (W.cell? _).isSome = true; rw [hc]; rfl), by rw [World.frozen?_setCell]; exact hf⟩, (World.cell?_setCell_other _ _ _ _ hne).trans hx⟩, (hB.trans hW).setCell (p := ⟨w.heap.size + 1, 0, none⟩) (by show w.heap.size ≤ w.heap.size + 1; omega) _⟩
  case done =>
    rintro D ys W hD rfl ⟨⟨⟨hc, _⟩, _⟩, hB⟩ hK
    rw [← hN'.out, acc_all] at hc
    gi_wp2
    refine ⟨by simp, .inl ⟨_, _, rfl, run_takeDeferred hK, ?_⟩⟩
    exact ⟨_, results_tmp rfl _ _ _, rfl, hB.trans (belowK_b (w := w) (Nat.le_refl _) W D _ _ (by simp at hD; omega) hK rfl rfl)⟩
  case stop =>
    rintro D c pre W _ _ h _
    exact h.elim
end Go.Proofs.YtbilfhipmebmlaaDoor

namespace Go.Proofs.YtbilfhipmebmlaaDoor
set_option linter.unusedVariables false
set_option linter.unusedSimpArgs false
open Go.RowKit

/-- The indices, below k, of the points that a polynomial misses. -/
def missL (p xs ys : List UInt8) (k : Nat) : List Nat := (List.range k).filter fun i => decide (ev p (co xs i) ≠ co ys i)
theorem missL_yes {p xs ys : List UInt8} {k : Nat} (h : ev p (co xs k) ≠ co ys k) : missL p xs ys (k + 1) = missL p xs ys k ++ [k] := by
  unfold missL
  rw [List.range_succ, List.filter_append]
  simp [h]
theorem missL_no {p xs ys : List UInt8} {k : Nat} (h : ev p (co xs k) = co ys k) : missL p xs ys (k + 1) = missL p xs ys k := by
  unfold missL
  rw [List.range_succ, List.filter_append]
  simp [h]
theorem missL_len (p xs ys : List UInt8) (k : Nat) : (missL p xs ys k).length ≤ k := by
  unfold missL
  exact Nat.le_trans (List.length_filter_le _ _) (by simp)
theorem below_dN {B : Nat} {a w : World} (h : Below B a w) (n : Nat) : Below B a (w.drewN n) := ⟨h.os, h.tape, h.output, h.size, h.block⟩

set_option maxRecDepth 100000 in
set_option maxHeartbeats 4000000 in
theorem refMissed_any {B : Nat} (p xs ys : List UInt8) (A A1 A2 : Option Addr) (c c1 c2 np nx ny : Nat) (w : World) (h : Rds w B A (p.map bv)) (h1 : Rds w B A1 (xs.map bv)) (h2 : Rds w B A2 (ys.map bv)) (hB : B ≤ w.heap.size) (hnp : np = p.length) (hnx : nx = xs.length) (hny : ny = ys.length) (hxy : nx ≤ ny) (hlp : np ≤ 100000) (hl : nx ≤ 100000) :
    Calls Tryd.prog 39 #[.slice A np c, .slice A1 nx c1, .slice A2 ny c2] w fun e w' => ∃ v, e = .returned v ∧ OwnP w' w.heap.size v (missL p xs ys nx) ∧ Below w.heap.size w w' := by
  have hX := Lib.hid h1
  have hY := Lib.hid h2
  have hBs := Lib.hid hB
  have hnx' := Lib.hid hnx
  have hny' := Lib.hid hny
  have EV : Hid (∀ (x : UInt8) (W : World), Below w.heap.size w W → Calls Tryd.prog 17 #[.slice A np c, bv x] W fun e w' => e = .returned (bv (ev p x)) ∧ w' = W) := fun x W hW => by
    rw [hnp]
    exact refEval_any p x A c W (h.below (hW.mono hB)) (by omega)
  clear h h1 h2 hB hnx hny hnp
  go_enter Tryd.func39, Tryd.ntmps39
  go_wp2_with fail
  go_loopw [7, 8] (fun v i wr => ∃ k : Nat, k ≤ nx ∧ i = .int .i64 k ∧ OwnP wr w.heap.size v (missL p xs ys k) ∧ Below w.heap.size w wr) (fun _ i _ => nx - (intOf i).toNat)
  case atStart => exact ⟨0, by omega, rfl, ownP_nil _ _, Below.refl _ _⟩
  case round =>
    obtain ⟨k, hk, rfl, ho, hbw⟩ := hrel
    have hsz := hbw.size
    by_cases hlt : k < nx
    · have t : (k : Int) < (nx : Int) := by omega
      have ty : (k : Int) < (ny : Int) := by omega
      have t0 : 0 ≤ (k : Int) := by omega
      have hx := at_co (p := xs) (k := k) (by rw [← hnx'.out]; exact hlt)
      have hy := at_co (p := ys) (k := k) (by rw [← hny'.out]; omega)
      obtain ⟨ad, rfl, _, hca⟩ := (hX.out.below (hbw.mono hBs.out)).look (k := k) (u := bv (co xs k)) (by rw [List.getElem?_map, hx]; rfl)
      obtain ⟨bd, rfl, _, hcb⟩ := (hY.out.below (hbw.mono hBs.out)).look (k := k) (u := bv (co ys k)) (by rw [List.getElem?_map, hy]; rfl)
      have hyes : Hid (ev p (co xs k) ≠ co ys k → missL p xs ys (k + 1) = missL p xs ys k ++ [k]) := missL_yes
      have hno : Hid (ev p (co xs k) = co ys k → missL p xs ys (k + 1) = missL p xs ys k) := missL_no
      have hml := missL_len p xs ys k
      have hbw' := Lib.hid hbw
      have ho' := Lib.hid ho
      have EVk := Lib.hid (EV.out (co xs k))
      generalize ev p (co xs k) = r at *
      generalize co xs k = x at *
      generalize co ys k = y at *
      have hll : (missL p xs ys k).length ≤ 1000000 := by omega
      generalize missL p xs ys k = L at *
      unfold bv at hca hcb
      clear hx hy ho hbw hml
      by_cases hxy : r = y
      · have te : (((r.toNat : Nat) : Int) != ((y.toNat : Nat) : Int)) = false := by rw [hxy]; simp
        have hL := Lib.hid (hno.out hxy)
        clear hyes hno hxy
        have EVq : Hid (∀ W, Below w.heap.size w W → Calls Tryd.prog 17 #[.slice A np c, .int .u8 (x.toNat : Int)] W fun e w' => e = .returned (.int .u8 (r.toNat : Int)) ∧ w' = W) := fun W hW => EVk.out W hW
        go_wp2_with fail
        go_quiet (refine Calls.quiet_of_same ((EVq.out _ (below_dN hbw'.out _)).mono fun e w' hh => hh))
        go_wp2
        go_roundw
        case rel => exact ⟨k + 1, by omega, by go_num, by rw [hL.out]; exact ho'.out, below_dN hbw'.out _⟩
        case measure => simp [intOf]; omega
      · have te := u8_int_ne hxy
        have hL := Lib.hid (hyes.out hxy)
        clear hyes hno hxy
        have EVq : Hid (∀ W, Below w.heap.size w W → Calls Tryd.prog 17 #[.slice A np c, .int .u8 (x.toNat : Int)] W fun e w' => e = .returned (.int .u8 (r.toNat : Int)) ∧ w' = W) := fun W hW => EVk.out W hW
        go_wp2_with fail
        go_quiet (refine Calls.quiet_of_same ((EVq.out _ (below_dN hbw'.out _)).mono fun e w' hh => hh))
        have hoq : OwnP (wr.drewN nq) w.heap.size u7 L := ho'.out
        have hbq := Lib.hid (below_dN hbw'.out nq)
        generalize wr.drewN nq = wq at *
        go_wp2_with (at_builtin; go_must (refine push_piv rfl _ _ rfl w.heap.size u7 L k _ rfl rfl rfl hoq hll hbq.out.size ?_); intro v' w1 ho1 hg1)
        go_roundw
        case rel => exact ⟨k + 1, by omega, by go_num, by rw [hL.out]; exact ho1, below_grown hbq.out hoq hg1 hbq.out.size⟩
        case measure => simp [intOf]; omega
    · have t : ¬ (k : Int) < (nx : Int) := by omega
      obtain rfl : k = nx := by omega
      go_wp2_with fail
      go_ret
      exact ⟨_, by first | rfl | (go_simp; done) | (go_simp; rfl), ho, hbw⟩

set_option maxRecDepth 100000 in
set_option maxHeartbeats 4000000 in
theorem missed_any {B : Nat} (p xs ys : List UInt8) (A A1 A2 : Option Addr) (c c1 c2 np nx ny : Nat) (w : World) (h : Rds w B A (p.map bv)) (h1 : Rds w B A1 (xs.map bv)) (h2 : Rds w B A2 (ys.map bv)) (hB : B ≤ w.heap.size) (hnp : np = p.length) (hnx : nx = xs.length) (hny : ny = ys.length) (hxy : nx ≤ ny) (hlp : np ≤ 100000) (hl : nx ≤ 100000) (ht : PTab 0 w) :
    Calls Tryd.prog 74 #[.slice A np c, .slice A1 nx c1, .slice A2 ny c2] w fun e w' => ∃ v, e = .returned v ∧ OwnP w' w.heap.size v (missL p xs ys nx) ∧ Below w.heap.size w w' := by
  have hX := Lib.hid h1
  have hY := Lib.hid h2
  have hBs := Lib.hid hB
  have hnx' := Lib.hid hnx
  have hny' := Lib.hid hny
  have EV : Hid (∀ (x : UInt8) (W : World), Below w.heap.size w W → Calls Tryd.prog 16 #[.slice A np c, bv x] W fun e w' => e = .returned (bv (ev p x)) ∧ Below W.heap.size W w') := fun x W hW => by
    exact eval_any p x A np c W hnp.symm (by omega) ((h.below (hW.mono hB)).more (Nat.le_trans hB hW.size)) (ht.below hW ht.1)
  clear h h1 h2 hB hnx hny hnp ht
  go_enter Tryd.func74, Tryd.ntmps74
  go_wp2_with fail
  go_loopw [7, 12] (fun v i wr => ∃ k : Nat, k ≤ nx ∧ i = .int .i64 k ∧ OwnP wr w.heap.size v (missL p xs ys k) ∧ Below w.heap.size w wr) (fun _ i _ => nx - (intOf i).toNat)
  case atStart => exact ⟨0, by omega, rfl, ownP_nil _ _, Below.refl _ _⟩
  case round =>
    obtain ⟨k, hk, rfl, ho, hbw⟩ := hrel
    have hsz := hbw.size
    by_cases hlt : k < nx
    · have t : (k : Int) < (nx : Int) := by omega
      have ty : (k : Int) < (ny : Int) := by omega
      have t0 : 0 ≤ (k : Int) := by omega
      have hx := at_co (p := xs) (k := k) (by rw [← hnx'.out]; exact hlt)
      have hy := at_co (p := ys) (k := k) (by rw [← hny'.out]; omega)
      obtain ⟨ad, rfl, _, hca⟩ := (hX.out.below (hbw.mono hBs.out)).look (k := k) (u := bv (co xs k)) (by rw [List.getElem?_map, hx]; rfl)
      obtain ⟨bd, rfl, hbd, hcb⟩ := (hY.out.below (hbw.mono hBs.out)).look (k := k) (u := bv (co ys k)) (by rw [List.getElem?_map, hy]; rfl)
      have hyes : Hid (ev p (co xs k) ≠ co ys k → missL p xs ys (k + 1) = missL p xs ys k ++ [k]) := missL_yes
      have hno : Hid (ev p (co xs k) = co ys k → missL p xs ys (k + 1) = missL p xs ys k) := missL_no
      have hml := missL_len p xs ys k
      have hbw' := Lib.hid hbw
      have ho' := Lib.hid ho
      have EVk := Lib.hid (EV.out (co xs k))
      generalize ev p (co xs k) = r at *
      generalize co xs k = x at *
      generalize co ys k = y at *
      have hll : (missL p xs ys k).length ≤ 1000000 := by omega
      generalize missL p xs ys k = L at *
      unfold bv at hca hcb
      have hbdl : bd.block < w.heap.size := Nat.lt_of_lt_of_le hbd hBs.out
      have zb : ∀ z : ExtOf wr.drew, z.world.cell? (bd.add k) = some (.int .u8 (y.toNat : Int)) := fun z => (Below.cell (p := bd.add k) (z.ext) (by rw [add_block]; exact Nat.lt_of_lt_of_le hbdl hbw'.out.size)).trans hcb
      clear hx hy ho hbw hml
      by_cases hxy : r = y
      · have te : (((r.toNat : Nat) : Int) != ((y.toNat : Nat) : Int)) = false := by rw [hxy]; simp
        have hL := Lib.hid (hno.out hxy)
        clear hyes hno hxy
        have EVq : Hid (∀ W, Below w.heap.size w W → Calls Tryd.prog 16 #[.slice A np c, .int .u8 (x.toNat : Int)] W fun e w' => e = .returned (.int .u8 (r.toNat : Int)) ∧ Below W.heap.size W w') := fun W hW => EVk.out W hW
        go_wp2_with fail
        refine wp_region_planM [] [(true, 0), (true, 1), (true, 3), (true, 4), (true, 5), (true, 6), (false, 2), (true, 7)] (by decide) (by kernel_rfl) (by kernel_rfl) (by decide) (by intro c a d v w h; cases d <;> exact h) ?_
        change wpPlanM _ _ _ _ _ _ wr.drew
        iterate 6 (refine wpPlanM_plain rfl (fun K hK => ?_); go_simp; refine hK _ ?_; clear hK K)
        clear zb
        refine wpPlanM_call rfl (fun K hK => ?_)
        go_wp2_with fail
        refine (EVq.out _ (drewBelowB hbw'.out)).mono ?_
        rintro e w4 ⟨rfl, hb4⟩
        go_wp2_with fail
        refine planPostL_normal ⟨.inr hb4, hK _ _ ?_⟩
        clear hK K
        have hoq : OwnP w4 w.heap.size u7 L := ho'.out.kept (fun b _ hlt => hb4.block b hlt)
        have hbq := Lib.hid ((drewBelowB hbw'.out).trans (hb4.mono hbw'.out.size))
        clear hb4
        iterate 1 (refine wpPlanM_plain rfl (fun K hK => ?_); go_simp; refine hK _ ?_; clear hK K)
        refine wpPlanM_nil ?_
        have hoqH := Lib.hid hoq
        clear hoq
        go_wp2_with fail
        go_roundw
        case rel => exact ⟨k + 1, by omega, by go_num, by rw [hL.out]; exact hoqH.out, hbq.out⟩
        case measure => simp [intOf]; omega
      · have te := u8_int_ne hxy
        have hL := Lib.hid (hyes.out hxy)
        clear hyes hno hxy
        have EVq : Hid (∀ W, Below w.heap.size w W → Calls Tryd.prog 16 #[.slice A np c, .int .u8 (x.toNat : Int)] W fun e w' => e = .returned (.int .u8 (r.toNat : Int)) ∧ Below W.heap.size W w') := fun W hW => EVk.out W hW
        go_wp2_with fail
        refine wp_region_planM [] [(true, 0), (true, 1), (true, 3), (true, 4), (true, 5), (true, 6), (false, 2), (true, 7)] (by decide) (by kernel_rfl) (by kernel_rfl) (by decide) (by intro c a d v w h; cases d <;> exact h) ?_
        change wpPlanM _ _ _ _ _ _ wr.drew
        iterate 6 (refine wpPlanM_plain rfl (fun K hK => ?_); go_simp; refine hK _ ?_; clear hK K)
        clear zb
        refine wpPlanM_call rfl (fun K hK => ?_)
        go_wp2_with fail
        refine (EVq.out _ (drewBelowB hbw'.out)).mono ?_
        rintro e w4 ⟨rfl, hb4⟩
        go_wp2_with fail
        refine planPostL_normal ⟨.inr hb4, hK _ _ ?_⟩
        clear hK K
        have hoq : OwnP w4 w.heap.size u7 L := ho'.out.kept (fun b _ hlt => hb4.block b hlt)
        have hbq := Lib.hid ((drewBelowB hbw'.out).trans (hb4.mono hbw'.out.size))
        clear hb4
        iterate 1 (refine wpPlanM_plain rfl (fun K hK => ?_); go_simp; refine hK _ ?_; clear hK K)
        refine wpPlanM_nil ?_
        go_wp2_with (at_builtin; go_must (refine push_piv rfl _ _ rfl w.heap.size u7 L k _ rfl rfl rfl hoq hll hbq.out.size ?_); intro v' w1 ho1 hg1)
        go_roundw
        case rel => exact ⟨k + 1, by omega, by go_num, by rw [hL.out]; exact ho1, below_grown hbq.out hoq hg1 hbq.out.size⟩
        case measure => simp [intOf]; omega
    · have t : ¬ (k : Int) < (nx : Int) := by omega
      obtain rfl : k = nx := by omega
      go_wp2_with fail
      go_ret
      exact ⟨_, by first | rfl | (go_simp; done) | (go_simp; rfl), ho, hbw⟩
end Go.Proofs.YtbilfhipmebmlaaDoor

namespace Go.Proofs.YtbilfhipmebmlaaDoor
set_option linter.unusedVariables false
set_option linter.unusedSimpArgs false
open Go.RowKit

/-- A whole block that is the call's own. -/
theorem own_blk {w : World} {g B n : Nat} {X : List UInt8} (h : Blk w g (X.map bv) 5) (hB : B ≤ g) (hn : X.length = n) (hm : n ≤ maxLen) : OwnB w B (.slice (some ⟨g, 0, none⟩) n n) X := by
  subst hn
  refine ⟨by rw [List.length_map]; simp, .inr ⟨g, X.length, (X.map bv).toArray, rfl, hB, h, Nat.le_refl _, hm, by simp, ?_⟩⟩
  simp only [Nat.mul_one]
  rw [List.take_of_length_le (by simp)]
/-- The product of all (x - a). -/
def van (xs : List UInt8) : Nat → List UInt8
  | 0 => [1]
  | k + 1 => trim (pmul (van xs k) [co xs k, 1])
theorem van_len (xs : List UInt8) : ∀ k, (van xs k).length ≤ 2 * k + 1 := by
  intro k
  induction k with
  | zero => simp [van]
  | succ k ih =>
    have h1 := dg_le (pmul (van xs k) [co xs k, 1])
    rw [pmul_len] at h1
    simp only [List.length_cons, List.length_nil] at h1
    rw [van, trim_len]
    omega

set_option maxRecDepth 100000 in
set_option maxHeartbeats 1000000 in
theorem root_any (a : UInt8) (w : World) : Calls Tryd.prog 105 #[bv a] w fun e w' => e = .returned (.slice (some ⟨w.heap.size, 0, none⟩) 2 2) ∧ OwnB w' w.heap.size (.slice (some ⟨w.heap.size, 0, none⟩) 2 2) [a, 1] ∧ Below w.heap.size w w' := by
  have hB : ∀ o, Below w.heap.size w (w.alloc o) := fun o => (Below.refl _ _).alloc (Nat.le_refl _) _
  have hO := Lib.hid (own_blk (X := [a, 1]) (Blk.new w ([a, 1].map bv) 5) (Nat.le_refl _) rfl (by unfold maxLen; simp))
  unfold bv
  go_enter Tryd.func105, Tryd.ntmps105
  go_wp2_with fail
  go_ret
  exact ⟨rfl, hO.out, hB _⟩

set_option maxRecDepth 100000 in
set_option maxHeartbeats 2000000 in
theorem vanishing_any {B : Nat} (xs : List UInt8) (A : Option Addr) (c n : Nat) (w : World) (h : Rds w B A (xs.map bv)) (hB : B ≤ w.heap.size) (hn : n = xs.length) (hl : n ≤ 1000) (ht : PTab 0 w) :
    Calls Tryd.prog 73 #[.slice A n c] w fun e w' => ∃ v, e = .returned v ∧ OwnB w' w.heap.size v (van xs n) ∧ Below w.heap.size w w' := by
  have hX := Lib.hid h
  have hBs := Lib.hid hB
  have hn' := Lib.hid hn
  have ht' := Lib.hid ht
  have hB0 : Hid (Below w.heap.size w (w.alloc (.cells #[.int .u8 1] 5))) := (Below.refl _ _).alloc (Nat.le_refl _) _
  have hO0 := Lib.hid (own_blk (X := [1]) (Blk.new w ([1].map bv) 5) (Nat.le_refl _) rfl (by unfold maxLen; simp))
  clear h hB hn ht
  go_enter Tryd.func73, Tryd.ntmps73
  go_wp2_with fail
  go_loopw [3, 9] (fun v i wr => ∃ k : Nat, k ≤ n ∧ i = .int .i64 k ∧ Hid (OwnB wr w.heap.size v (van xs k)) ∧ Hid (Below w.heap.size w wr)) (fun _ i _ => n - (intOf i).toNat)
  case atStart => exact ⟨0, by omega, rfl, hO0.out, hB0.out⟩
  case round =>
    obtain ⟨k, hk, rfl, ho, hbw⟩ := hrel
    by_cases hlt : k < n
    · have t : (k : Int) < (n : Int) := by omega
      have t0 : 0 ≤ (k : Int) := by omega
      have hx := at_co (p := xs) (k := k) (by rw [← hn'.out]; exact hlt)
      obtain ⟨ad, rfl, _, hca⟩ := (hX.out.below (hbw.out.mono hBs.out)).look (k := k) (u := bv (co xs k)) (by rw [List.getElem?_map, hx]; rfl)
      have hvan : Hid (van xs (k + 1) = trim (pmul (van xs k) [co xs k, 1])) := rfl
      have hvl := van_len xs k
      obtain ⟨Av, cv, rfl, hcv, hcm, _, _⟩ := own_form ho.out
      have hrv : Hid (Rds wr wr.heap.size Av ((van xs k).map bv)) := Rds.own ho.out
      generalize co xs k = x at *
      have RT := Lib.hid (root_any x wr)
      generalize van xs k = V at *
      have PR : Hid (∀ W, Below wr.heap.size wr W → OwnB W wr.heap.size (.slice (some ⟨wr.heap.size, 0, none⟩) 2 2) [x, 1] → Calls Tryd.prog 66 #[.slice Av V.length cv, .slice (some ⟨wr.heap.size, 0, none⟩) 2 2] W fun e w' => ∃ v, e = .returned v ∧ OwnB w' W.heap.size v (trim (pmul V [x, 1])) ∧ Below W.heap.size W w') := fun W hW hO =>
        product6_any (B := W.heap.size) V [x, 1] Av (some ⟨wr.heap.size, 0, none⟩) cv 2 W ((hrv.out.below hW).more hW.size) (Rds.own hO) (Nat.le_refl _) (by omega) (by simp) (ht'.out.below (hbw.out.trans (hW.mono hbw.out.size)) ht'.out.1)
      unfold bv at hca RT
      generalize V.length = nv at *
      clear hx hrv ho
      go_wp2_with fail
      refine RT.out.mono ?_
      rintro e w2 ⟨rfl, ho2, hb2⟩
      have PR2 := Lib.hid (PR.out w2 hb2 ho2)
      have hb2' := Lib.hid (hbw.out.trans (hb2.mono hbw.out.size))
      clear ho2 hb2 PR RT
      go_wp2_with fail
      refine PR2.out.mono ?_
      rintro e w3 ⟨v3, rfl, ho3, hb3⟩
      have ho3' : Hid (OwnB w3 w.heap.size v3 (van xs (k + 1))) := by
        show OwnB _ _ _ _
        rw [hvan.out]
        exact ownB_low ho3 hb2'.out.size
      have hb3' := Lib.hid (hb2'.out.trans (hb3.mono hb2'.out.size))
      clear ho3 hb3
      go_wp2_with fail
      go_roundw
      case rel => exact ⟨k + 1, by omega, by go_num, ho3', hb3'⟩
      case measure => simp [intOf]; omega
    · have t : ¬ (k : Int) < (n : Int) := by omega
      obtain rfl : k = n := by omega
      go_wp2_with fail
      go_ret
      exact ⟨_, by first | rfl | (go_simp; done) | (go_simp; rfl), ho.out, hbw.out⟩
end Go.Proofs.YtbilfhipmebmlaaDoor
