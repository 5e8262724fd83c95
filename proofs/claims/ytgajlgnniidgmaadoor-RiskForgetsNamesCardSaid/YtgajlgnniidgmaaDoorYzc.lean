/-
  Stage 12: the documentation's example: its numbers, and the law's function that makes it. Stage 12: the example in memory; what each call of sanity returns. Stage 12: sanity, the walk. (Written by tools/genyb.py.). Stage 12: the law's count; the maths of Least.
-/
import Derived.Test.YtgajlgnniidgmaaDoorVuy
import Derived.Test.YtgajlgnniidgmaaDoorVpl
import Derived.Test.YtgajlgnniidgmaaDoorVmr
namespace Go.Proofs.YtgajlgnniidgmaaDoor
set_option linter.unusedVariables false
set_option linter.unusedSimpArgs false
open Go.RowKit Go.Maps

/-- A peril of two data pieces and a global one. -/
structure Ex12 (q : Prl) (al ch : List Int) : Prop where
  D : q.D = 2
  G : q.G = 1
  Gs : q.Gs = []
  al : q.al = al
  ch : q.ch = ch
def ckB (al ch : List Int) : Bool := decide (chkP ⟨2, none, 0, 0, 1, [], none, 0, 0, al, none, 0, 0, ch⟩ = 0)
theorem Ex12.chk {q : Prl} {al ch : List Int} (h : Ex12 q al ch) (hk : ckB al ch = true) : chkP q = 0 := by
  unfold ckB at hk
  have := of_decide_eq_true hk
  unfold chkP at this ⊢
  rw [h.D, h.G, h.Gs, h.al, h.ch]
  exact this
/-- Does it lose the chunk? -/
def loB (al : List Int) (f : Nat) : Bool := !decide (rk7 2 0 (pcL 2 [] (lft f al 0 0) 3) = 2)
theorem Ex12.los {q : Prl} {al ch : List Int} (h : Ex12 q al ch) (hl : al.length = 3) (f : Nat) : loB al f = true ↔ LosP q f := by
  unfold loB LosP
  rw [Bool.not_eq_true', decide_eq_false_iff_not]
  refine not_congr ?_
  have hlt := lft_lt f al 0 0 (by decide)
  rw [hl] at hlt
  have hr : rk7 2 0 (pcL 2 [] (lft f al 0 0) 3) = 2 ↔ Full7 (pcL 2 [] (lft f al 0 0) 3) 2 := rk7_full fun r hr => by
    obtain ⟨k, _, _, rfl⟩ := pcL_mem.1 hr
    exact crow_len _ _ _ _
  rw [hr]
  unfold RecP
  rw [h.D, h.G, h.Gs, h.al, Int.toNat_natCast]
  constructor
  · intro hh
    exact ⟨by decide +kernel, Int.natCast_nonneg _, by
      have e : (2 : Int) ^ (Int.toNat 2 + [].length (α := List Int) + Int.toNat 1) = 8 := by decide
      rw [e]; omega, hh⟩
  · intro hh
    exact hh.2.2.2
theorem Ex12.sum {q : Prl} {al ch : List Int} (h : Ex12 q al ch) (hl : al.length = 3) (n : Nat) : lsum q n = fsum (fun f => if loB al f = true then prw f ch else 0) n := by
  rw [lsum_fsum]
  refine fsum_congr fun f _ => ?_
  rw [h.ch]
  by_cases hh : loB al f = true
  · rw [if_pos hh, if_pos ((h.los hl f).1 hh)]
  · rw [if_neg hh, if_neg (fun hc => hh ((h.los hl f).2 hc))]
theorem ex_208 : fsum (fun f => if loB [0, 1, 2] f = true then prw f [1, 2, 4] else 0) 8 = 208 := by decide +kernel
theorem ex_1408 : fsum (fun f => if loB [0, 1, 2] f = true then prw f [16, 2, 4] else 0) 8 = 1408 := by decide +kernel
theorem ex_128 : fsum (fun f => if loB [0, 1, 2] f = true then prw f [0, 2, 4] else 0) 8 = 128 := by decide +kernel
theorem ex_736 : fsum (fun f => if loB [0, 1, -1] f = true then prw f [1, 2, 4] else 0) 8 = 736 := by decide +kernel
theorem ex_lo : [loB [0, 1, 2] 0, loB [0, 1, 2] 1, loB [0, 1, 2] 2, loB [0, 1, 2] 3, loB [0, 1, 2] 4, loB [0, 1, 2] 5, loB [0, 1, 2] 6] = [false, false, false, true, false, true, true] := by decide +kernel
theorem cnt7_lit : cnt7 3 = 2 ∧ cnt7 7 = 3 ∧ cnt7 5 = 2 ∧ cnt7 6 = 2 := by
  refine ⟨?_, ?_, ?_, ?_⟩ <;> simp [cnt7_pos, cnt7_zero]
theorem Ex12.least {q : Prl} (h : Ex12 q [0, 1, 2] [1, 2, 4]) : lstV q = 3 := by
  have e := ex_lo
  injection e with e0 e
  injection e with e1 e
  injection e with e2 e
  injection e with e3 e
  injection e with e4 e
  injection e with e5 e
  injection e with e6 e
  obtain ⟨c3, c7, c5, c6⟩ := cnt7_lit
  have no : ∀ f, loB [0, 1, 2] f = false → ¬ LosP q f := fun f hf hc => by rw [(h.los rfl f).2 hc] at hf; cases hf
  have s0 : lsq q 7 0 = 7 := by rw [lsq]
  have s1 : lsq q 7 1 = 7 := by rw [lsq_no (fun hh => no 0 e0 hh.2), s0]
  have s2 : lsq q 7 2 = 7 := by rw [lsq_no (fun hh => no 1 e1 hh.2), s1]
  have s3 : lsq q 7 3 = 7 := by rw [lsq_no (fun hh => no 2 e2 hh.2), s2]
  have s4 : lsq q 7 4 = 3 := lsq_yes (by rw [s3]; unfold befB; rw [c3, c7]; rfl) ((h.los rfl 3).1 e3)
  have s5 : lsq q 7 5 = 3 := by rw [lsq_no (fun hh => no 4 e4 hh.2), s4]
  have s6 : lsq q 7 6 = 3 := by
    rw [lsq_no (fun hh => ?_), s5]
    have h1 := hh.1
    rw [s5] at h1
    unfold befB at h1
    rw [c5, c3, if_pos rfl] at h1
    revert h1
    decide
  have s7 : lsq q 7 7 = 3 := by
    rw [lsq_no (fun hh => ?_), s6]
    have h1 := hh.1
    rw [s6] at h1
    unfold befB at h1
    rw [c6, c3, if_pos rfl] at h1
    revert h1
    decide
  unfold lstV
  rw [h.ch]
  exact s7
end Go.Proofs.YtgajlgnniidgmaaDoor

namespace Go.Proofs.YtgajlgnniidgmaaDoor
set_option linter.unusedVariables false
set_option linter.unusedSimpArgs false
open Go.RowKit Go.Maps

theorem PerM.more {W : World} {B B' : Nat} {p : Prl} (h : PerM W B p) (hB : B ≤ B') (hw : B' ≤ W.heap.size) : PerM W B' p := by
  obtain ⟨⟨⟨vs, h1, h2, h3⟩, q1, q2, q3, q4⟩, a1, a2, a3, a4, a5, a6⟩ := h
  refine ⟨⟨⟨vs, h1, h2.more hB, fun i v g hv hg => ?_⟩, hw, q2, q3, q4⟩, a1.more hB, a2, a3, a4.more hB, a5, a6⟩
  obtain ⟨a, c, e1, e2, e3, e4, e5⟩ := h3 i v g hv hg
  exact ⟨a, c, e1, e2, e3, e4, e5.more hB⟩
def exQ (a b : Nat) (al : List Int) : Prl := ⟨2, none, 0, 0, 1, [], some ⟨a, 0, none⟩, 3, 3, al, some ⟨b, 0, none⟩, 3, 3, [1, 2, 4]⟩
theorem exQ_prv (a b : Nat) (al : List Int) : prv (exQ a b al) = .agg #[.int .i64 2, .slice none 0 0, .int .i64 1, .slice (some ⟨a, 0, none⟩) 3 3, .slice (some ⟨b, 0, none⟩) 3 3] := rfl
theorem exQ_ex (a b : Nat) (al : List Int) : Ex12 (exQ a b al) al [1, 2, 4] := ⟨rfl, rfl, rfl, rfl, rfl⟩
theorem exQ_cap (a b : Nat) (al : List Int) : CapP (exQ a b al) := ⟨fun _ => rfl, (fun h => by cases h), (fun h => by cases h)⟩
theorem exQ_per {w : World} {B a b : Nat} {x y z : Int} (hB : B ≤ w.heap.size) (ha : a < B) (hb : b < B) (h1 : Blk w a [iv x, iv y, iv z] 3) (h2 : Blk w b [iv 1, iv 2, iv 4] 3) : PerM w B (exQ a b [x, y, z]) := by
  refine ⟨⟨⟨[], rfl, Rds.empty, fun i v g hv => by simp at hv⟩, hB, rfl, (show 0 ≤ 140737488355328 by decide), fun g hg => by cases hg⟩, ?_, rfl, (show 3 ≤ 140737488355328 by decide), ?_, rfl, (show 3 ≤ 140737488355328 by decide)⟩
  · intro _
    obtain ⟨ad, e, hl, hc⟩ := h1.rds 0 3 (by simp)
    cases e
    exact ⟨_, rfl, ha, hc⟩
  · intro _
    obtain ⟨ad, e, hl, hc⟩ := h2.rds 0 3 (by simp)
    cases e
    exact ⟨_, rfl, hb, hc⟩

set_option maxRecDepth 100000 in
set_option maxHeartbeats 4000000 in
theorem example_any12 (w : World) : Calls Tryd.prog 28 #[] w fun e w' => (∃ a b, e = .returned (prv (exQ a b [0, 1, 2])) ∧ w.heap.size ≤ a ∧ w.heap.size ≤ b ∧ a ≠ b ∧ Blk w' a [iv 0, iv 1, iv 2] 3 ∧ Blk w' b [iv 1, iv 2, iv 4] 3) ∧ Below w.heap.size w w' := by
  have hsz := Lib.hid size_prl
  have hun : Hid (Tryd.prog.underlying 27 = _) := Tryd.underlying27
  have h0 : Hid (∀ a b, prv (exQ a b [0, 1, 2]) = .agg #[.int .i64 2, .slice none 0 0, .int .i64 1, .slice (some ⟨a, 0, none⟩) 3 3, .slice (some ⟨b, 0, none⟩) 3 3]) := fun a b => exQ_prv a b _
  obtain ⟨W1, hW1⟩ : ∃ W1, W1 = w.alloc (.cells #[.int .i64 0, .slice none 0 0, .int .i64 0, .slice none 0 0, .slice none 0 0] 27) := ⟨_, rfl⟩
  have Z1 : Hid (Blk W1 w.heap.size [.int .i64 0, .slice none 0 0, .int .i64 0, .slice none 0 0, .slice none 0 0] 27) := by show Blk _ _ _ _; rw [hW1]; exact Blk.new _ [_, _, _, _, _] _
  have E1 : Hid (Below w.heap.size w W1) := by show Below _ _ _; rw [hW1]; exact (Below.refl _ _).alloc (Nat.le_refl _) _
  have s1 : Hid (W1.heap.size = w.heap.size + 1) := by show _ = _; rw [hW1]; simp
  obtain ⟨W2, hW2⟩ : ∃ W2, W2 = W1.alloc (.cells #[.int .i64 0, .int .i64 1, .int .i64 2] 3) := ⟨_, rfl⟩
  have b2 : Hid (Blk W2 W1.heap.size [iv 0, iv 1, iv 2] 3) := by show Blk _ _ _ _; rw [hW2]; exact Blk.new _ [_, _, _] _
  have Z2 : Hid (Blk W2 w.heap.size [.int .i64 0, .slice none 0 0, .int .i64 0, .slice none 0 0, .slice none 0 0] 27) := by show Blk _ _ _ _; rw [hW2]; exact Z1.out.alloc _
  have E2 : Hid (Below w.heap.size w W2) := by show Below _ _ _; rw [hW2]; exact E1.out.alloc E1.out.size _
  have s2 : Hid (W2.heap.size = w.heap.size + 1 + 1) := by show _ = _; rw [hW2]; simp [s1.out]
  obtain ⟨W3, hW3⟩ : ∃ W3, W3 = W2.alloc (.cells #[.int .i64 1, .int .i64 2, .int .i64 4] 3) := ⟨_, rfl⟩
  have b3 : Hid (Blk W3 W2.heap.size [iv 1, iv 2, iv 4] 3) := by show Blk _ _ _ _; rw [hW3]; exact Blk.new _ [_, _, _] _
  have c2 : Hid (Blk W3 W1.heap.size [iv 0, iv 1, iv 2] 3) := by show Blk _ _ _ _; rw [hW3]; exact b2.out.alloc _
  have Z3 : Hid (Blk W3 w.heap.size [.int .i64 0, .slice none 0 0, .int .i64 0, .slice none 0 0, .slice none 0 0] 27) := by show Blk _ _ _ _; rw [hW3]; exact Z2.out.alloc _
  have E3 : Hid (Below w.heap.size w W3) := by show Below _ _ _; rw [hW3]; exact E2.out.alloc E2.out.size _
  have hWW : Hid (((w.alloc (.cells #[.int .i64 0, .slice none 0 0, .int .i64 0, .slice none 0 0, .slice none 0 0] 27)).alloc (.cells #[.int .i64 0, .int .i64 1, .int .i64 2] 3)).alloc (.cells #[.int .i64 1, .int .i64 2, .int .i64 4] 3) = W3) := by show _ = _; rw [hW3, hW2, hW1]
  rw [s1.out] at b2 c2
  rw [s2.out] at b3
  clear hW1 hW2 hW3 Z1 Z2 E1 E2 b2
  go_enter Tryd.func28, Tryd.ntmps28
  go_wp2_with (first | (rw [hWW.out]; refine wpList_row_store rfl 27 _ _ rfl [.int .i64 2, .slice none 0 0, .int .i64 1, .slice (some ⟨w.heap.size + 1, 0, none⟩) 3 3, .slice (some ⟨w.heap.size + 1 + 1, 0, none⟩) 3 3] rfl rfl Z3.out hsz.out rfl (five_one12 _ _ _ _ _ _ _ _ _ _ _) ?_; intro w8 hw8 ho8) | fail)
  refine bodyPost_ret (ret_blk rfl _ _ (g := w.heap.size) rfl hw8.out _ hun.out rfl hsz.out) rfl ?_
  exact ⟨⟨w.heap.size + 1, w.heap.size + 1 + 1, by rw [h0.out], by omega, by omega, by omega, c2.out.only ho8 (by omega), b3.out.only ho8 (by omega)⟩, E3.out.trans (ho8.below (Nat.le_refl _))⟩

section
variable {B : Nat} {q : Prl} {w : World}
theorem s12_total (h : Ex12 q [0, 1, 2] [1, 2, 4]) (hM : PerM w B q) (ht : PTab 2 w) : Calls Tryd.prog 12 #[prv q] w fun e w' => e = .returned (.tuple #[.int .i64 4096, .int .i64 0]) ∧ Below w.heap.size w w' := by
  have := rTotal_any q w hM ht
  rw [h.chk (by decide +kernel), if_pos rfl, h.ch] at this
  exact this
theorem s12_loss {al ch : List Int} {V : Int} (h : Ex12 q al ch) (hk : ckB al ch = true) (hl : al.length = 3) (hc : ch.length = 3) (hV : fsum (fun f => if loB al f = true then prw f ch else 0) 8 = V) (hM : PerM w B q) (ht : PTab 2 w) :
    Calls Tryd.prog 14 #[prv q] w fun e w' => e = .returned (.tuple #[.int .i64 V, .int .i64 0]) ∧ Below w.heap.size w w' := by
  have := rLoss_any q w hM ht
  rw [h.chk hk, if_pos rfl, h.ch, hc, h.sum hl, show 2 ^ 3 = 8 from rfl, hV] at this
  exact this
theorem s12_least (h : Ex12 q [0, 1, 2] [1, 2, 4]) (hM : PerM w B q) (ht : PTab 2 w) : Calls Tryd.prog 15 #[prv q] w fun e w' => e = .returned (.tuple #[.int .i64 3, .int .i64 0]) ∧ Below w.heap.size w w' := by
  have := rLeast_any q w hM ht
  rw [h.chk (by decide +kernel), if_pos rfl, h.least] at this
  exact this
theorem s12_mil (h : Ex12 q [0, 1, 2] [1, 2, 4]) (hM : PerM w B q) (ht : PTab 2 w) : Calls Tryd.prog 17 #[prv q] w fun e w' => e = .returned (.tuple #[.int .i64 50782, .int .i64 0]) ∧ Below w.heap.size w w' := by
  have := rMil_any q w hM ht (by rw [h.ch]; decide)
  rw [h.chk (by decide +kernel), if_pos rfl, h.ch, h.sum rfl] at this
  rw [show (2 : Nat) ^ [(1 : Int), 2, 4].length = 8 from rfl, ex_208] at this
  exact this
theorem s12_lost (h : Ex12 q [0, 1, 2] [1, 2, 4]) (s : Nat) (b : Bool) (hs : s < 8) (hb : loB [0, 1, 2] s = b) (hM : PerM w B q) (ht : PTab 2 w) : Calls Tryd.prog 13 #[prv q, .int .i64 s] w fun e w' => e = .returned (.tuple #[.bool b, .int .i64 0]) ∧ Below w.heap.size w w' := by
  refine (rLost_any q (s : Int) w hM ht).mono ?_
  rintro e w' ⟨⟨b', rfl, h2⟩, h3⟩
  have hr : (0 : Int) ≤ (s : Int) ∧ (s : Int) < 2 ^ q.ch.length := by
    rw [h.ch]
    have e : (2 : Int) ^ [(1 : Int), 2, 4].length = 8 := by decide
    rw [e]; omega
  have hz := h.chk (by decide +kernel)
  rw [if_neg (fun hh => hh hz), if_pos hr]
  have hbb : b' = b := by
    rw [← hb]
    rw [Int.toNat_natCast, ← h.los rfl s] at h2
    cases hx : loB [0, 1, 2] s with
    | true => exact h2.2 ⟨hz, hr.1, hr.2, hx⟩
    | false =>
      cases hy : b' with
      | false => rfl
      | true => have := (h2.1 hy).2.2.2; rw [hx] at this; cases this
  rw [hbb]
  exact ⟨rfl, h3⟩
theorem s12_cmp {p : Prl} (h : Ex12 q [0, 1, 2] [1, 2, 4]) (h2 : Ex12 p [0, 1, -1] [1, 2, 4]) (hM : PerM w B q) (hM2 : PerM w B p) (ht : PTab 2 w) : Calls Tryd.prog 16 #[prv q, prv p] w fun e w' => e = .returned (.tuple #[.int .i64 (-1), .int .i64 0]) ∧ Below w.heap.size w w' := by
  have := rCompare_any q p w hM hM2 ht
  have e0 : cmpE q p = 0 := by unfold cmpE; rw [h.chk (by decide +kernel), if_pos rfl, h2.chk (by decide +kernel)]
  have e1 : cmpI (scl q) (scl p) = -1 := by
    unfold scl
    rw [h.ch, h2.ch, h.sum rfl, h2.sum rfl, show (2 : Nat) ^ [(1 : Int), 2, 4].length = 8 from rfl, ex_208, ex_736]
    decide +kernel
  rw [e0, if_pos rfl, e1] at this
  exact this
end
theorem exQ_ok (a b : Nat) : PrlOk (exQ a b [0, 1, 2]) := chkP_ok.1 ((exQ_ex a b [0, 1, 2]).chk (by decide +kernel))
end Go.Proofs.YtgajlgnniidgmaaDoor

namespace Go.Proofs.YtgajlgnniidgmaaDoor
set_option linter.unusedVariables false
set_option linter.unusedSimpArgs false
open Go.RowKit Go.Maps

theorem prv_eq12 (q : Prl) : prv q = .agg #[.int .i64 q.D, .slice q.A q.n q.c, .int .i64 q.G, .slice q.A1 q.n1 q.c1, .slice q.A2 q.n2 q.c2] := rfl
set_option maxRecDepth 100000 in
set_option maxHeartbeats 16000000 in
theorem sanity_any12 (w : World) (ht : PTab 2 w) : Calls Tryd.prog 10 #[] w fun e w' => e = .returned (.bool true) ∧ Below w.heap.size w w' := by
  have hsz := Lib.hid size_prl
  have hun : Hid (Tryd.prog.underlying 27 = _) := Tryd.underlying27
  have hii := Lib.hid size_int12
  have hT := Lib.hid ht
  have E : Hid (Below w.heap.size w w) := Below.refl _ _
  clear ht
  go_enter Tryd.func10, Tryd.ntmps10
  go_wp2_with fail
  have T := Lib.hid (hT.out.on E.out)
  have C := example_any12 w
  refine C.mono ?_
  rintro e v1 ⟨⟨a, b, rfl, ha, hbb, hab, hA, hC⟩, hb⟩
  clear C T
  replace E : Hid (Below w.heap.size w v1) := E.out.trans (hb.mono E.out.size)
  have T := Lib.hid (hT.out.on E.out)
  clear hb
  have M : Hid (PerM v1 v1.heap.size (exQ a b [0, 1, 2])) := exQ_per (Nat.le_refl _) hA.lt hC.lt hA hC
  clear ha hbb hab hA hC
  rw [exQ_prv]
  have Xn : Hid (Blk (v1.alloc (.cells #[.int .i64 0, .slice none 0 0, .int .i64 0, .slice none 0 0, .slice none 0 0] 27)) v1.heap.size [.int .i64 0, .slice none 0 0, .int .i64 0, .slice none 0 0, .slice none 0 0] 27) := Blk.new _ [_, _, _, _, _] _
  have hal : Hid (Below v1.heap.size v1 (v1.alloc (.cells #[.int .i64 0, .slice none 0 0, .int .i64 0, .slice none 0 0, .slice none 0 0] 27))) := (Below.refl _ _).alloc (Nat.le_refl _) _
  go_upto_region 2 with (refine wpList_row_store rfl 27 _ _ rfl [.int .i64 2, .slice none 0 0, .int .i64 1, .slice (some ⟨a, 0, none⟩) 3 3, .slice (some ⟨b, 0, none⟩) 3 3] rfl rfl Xn.out hsz.out rfl (five_one12 _ _ _ _ _ _ _ _ _ _ _) ?_; intro v2 hw ho)
  have hb : Below v1.heap.size v1 v2 := hal.out.trans (ho.below (Nat.le_refl _))
  clear T
  replace E : Hid (Below w.heap.size w v2) := E.out.trans (hb.mono E.out.size)
  have T := Lib.hid (hT.out.on E.out)
  replace M := Lib.hid (M.out.keep hb)
  have X := Lib.hid hw.out
  clear hb hw ho hal Xn
  go_wp2_with (first | (refine wpList_blk_load rfl 27 _ rfl 0 rfl X.out [_, _, _, _, _] rfl _ hun.out rfl hsz.out ?_) | fail)
  have C := s12_total (exQ_ex a b _) M.out T.out
  rw [exQ_prv] at C
  refine C.mono ?_
  rintro e v3 ⟨rfl, hb⟩
  clear C T
  replace E : Hid (Below w.heap.size w v3) := E.out.trans (hb.mono E.out.size)
  have T := Lib.hid (hT.out.on E.out)
  replace M := Lib.hid (M.out.keep hb)
  replace X := Lib.hid (X.out.below hb X.out.lt)
  clear hb
  go_wp2_with (first | (refine wpList_blk_load rfl 27 _ rfl 0 rfl X.out [_, _, _, _, _] rfl _ hun.out rfl hsz.out ?_) | fail)
  have C := s12_lost (exQ_ex a b _) 1 false (by decide) (by decide +kernel) M.out T.out
  rw [exQ_prv] at C
  refine C.mono ?_
  rintro e v4 ⟨rfl, hb⟩
  clear C T
  replace E : Hid (Below w.heap.size w v4) := E.out.trans (hb.mono E.out.size)
  have T := Lib.hid (hT.out.on E.out)
  replace M := Lib.hid (M.out.keep hb)
  replace X := Lib.hid (X.out.below hb X.out.lt)
  clear hb
  go_wp2_with (first | (refine wpList_blk_load rfl 27 _ rfl 0 rfl X.out [_, _, _, _, _] rfl _ hun.out rfl hsz.out ?_) | fail)
  have C := s12_lost (exQ_ex a b _) 3 true (by decide) (by decide +kernel) M.out T.out
  rw [exQ_prv] at C
  refine C.mono ?_
  rintro e v5 ⟨rfl, hb⟩
  clear C T
  replace E : Hid (Below w.heap.size w v5) := E.out.trans (hb.mono E.out.size)
  have T := Lib.hid (hT.out.on E.out)
  replace M := Lib.hid (M.out.keep hb)
  replace X := Lib.hid (X.out.below hb X.out.lt)
  clear hb
  go_wp2_with (first | (refine wpList_blk_load rfl 27 _ rfl 0 rfl X.out [_, _, _, _, _] rfl _ hun.out rfl hsz.out ?_) | fail)
  have C := s12_loss (exQ_ex a b _) (by decide +kernel) rfl rfl ex_208 M.out T.out
  rw [exQ_prv] at C
  refine C.mono ?_
  rintro e v6 ⟨rfl, hb⟩
  clear C T
  replace E : Hid (Below w.heap.size w v6) := E.out.trans (hb.mono E.out.size)
  have T := Lib.hid (hT.out.on E.out)
  replace M := Lib.hid (M.out.keep hb)
  replace X := Lib.hid (X.out.below hb X.out.lt)
  clear hb
  go_wp2_with (first | (refine wpList_blk_load rfl 27 _ rfl 0 rfl X.out [_, _, _, _, _] rfl _ hun.out rfl hsz.out ?_) | fail)
  have C := s12_least (exQ_ex a b _) M.out T.out
  rw [exQ_prv] at C
  refine C.mono ?_
  rintro e v7 ⟨rfl, hb⟩
  clear C T
  replace E : Hid (Below w.heap.size w v7) := E.out.trans (hb.mono E.out.size)
  have T := Lib.hid (hT.out.on E.out)
  replace M := Lib.hid (M.out.keep hb)
  replace X := Lib.hid (X.out.below hb X.out.lt)
  clear hb
  go_wp2_with (first | (refine wpList_blk_load rfl 27 _ rfl 0 rfl X.out [_, _, _, _, _] rfl _ hun.out rfl hsz.out ?_) | fail)
  have C := rGiven_any (exQ a b [0, 1, 2]) 0 true 16 rfl v7 M.out M.out.le (exQ_ok a b) (exQ_cap a b _) (fun g hg => by cases hg) (show 0 < 3 by decide)
  rw [exQ_prv] at C
  refine C.mono ?_
  rintro e v8 ⟨⟨qf, rfl, hMq, f0, f1, f2, f3, f4, f5, f6, f7, f8, f9⟩, hb⟩
  clear C T
  replace E : Hid (Below w.heap.size w v8) := E.out.trans (hb.mono E.out.size)
  have T := Lib.hid (hT.out.on E.out)
  replace M := Lib.hid (M.out.keep hb)
  replace X := Lib.hid (X.out.below hb X.out.lt)
  clear hb
  have qfx : Hid (Ex12 qf [0, 1, 2] [16, 2, 4]) := ⟨f1, f2, f3, f4, f5⟩
  have F : Hid (PerM v8 v8.heap.size qf) := hMq
  clear f0 f1 f2 f3 f4 f5 f6 f7 f8 f9 hMq
  rw [show prv qf = .agg #[.int .i64 qf.D, .slice qf.A qf.n qf.c, .int .i64 qf.G, .slice qf.A1 qf.n1 qf.c1, .slice qf.A2 qf.n2 qf.c2] from rfl]
  have Xn : Hid (Blk (v8.alloc (.cells #[.int .i64 0, .slice none 0 0, .int .i64 0, .slice none 0 0, .slice none 0 0] 27)) v8.heap.size [.int .i64 0, .slice none 0 0, .int .i64 0, .slice none 0 0, .slice none 0 0] 27) := Blk.new _ [_, _, _, _, _] _
  have hal : Hid (Below v8.heap.size v8 (v8.alloc (.cells #[.int .i64 0, .slice none 0 0, .int .i64 0, .slice none 0 0, .slice none 0 0] 27))) := (Below.refl _ _).alloc (Nat.le_refl _) _
  go_upto_region 8 with (refine wpList_row_store rfl 27 _ _ rfl [.int .i64 qf.D, .slice qf.A qf.n qf.c, .int .i64 qf.G, .slice qf.A1 qf.n1 qf.c1, .slice qf.A2 qf.n2 qf.c2] rfl rfl Xn.out hsz.out rfl (five_one12 _ _ _ _ _ _ _ _ _ _ _) ?_; intro v9 hw ho)
  have hb : Below v8.heap.size v8 v9 := hal.out.trans (ho.below (Nat.le_refl _))
  clear T
  replace E : Hid (Below w.heap.size w v9) := E.out.trans (hb.mono E.out.size)
  have T := Lib.hid (hT.out.on E.out)
  replace M := Lib.hid (M.out.keep hb)
  replace X := Lib.hid (X.out.below hb X.out.lt)
  replace F := Lib.hid (F.out.keep hb)
  have XF := Lib.hid hw.out
  clear hb hw ho hal Xn
  go_wp2_with (first | (refine wpList_blk_load rfl 27 _ rfl 0 rfl X.out [_, _, _, _, _] rfl _ hun.out rfl hsz.out ?_) | (refine wpList_blk_load rfl 27 _ rfl 0 rfl XF.out [_, _, _, _, _] rfl _ hun.out rfl hsz.out ?_) | fail)
  have C := rGiven_any (exQ a b [0, 1, 2]) 0 false 0 rfl v9 M.out M.out.le (exQ_ok a b) (exQ_cap a b _) (fun g hg => by cases hg) (show 0 < 3 by decide)
  rw [exQ_prv] at C
  refine C.mono ?_
  rintro e v10 ⟨⟨qs, rfl, hMq, f0, f1, f2, f3, f4, f5, f6, f7, f8, f9⟩, hb⟩
  clear C T
  replace E : Hid (Below w.heap.size w v10) := E.out.trans (hb.mono E.out.size)
  have T := Lib.hid (hT.out.on E.out)
  replace M := Lib.hid (M.out.keep hb)
  replace X := Lib.hid (X.out.below hb X.out.lt)
  replace F := Lib.hid (F.out.keep hb)
  replace XF := Lib.hid (XF.out.below hb XF.out.lt)
  clear hb
  have qsx : Hid (Ex12 qs [0, 1, 2] [0, 2, 4]) := ⟨f1, f2, f3, f4, f5⟩
  have S : Hid (PerM v10 v10.heap.size qs) := hMq
  clear f0 f1 f2 f3 f4 f5 f6 f7 f8 f9 hMq
  rw [show prv qs = .agg #[.int .i64 qs.D, .slice qs.A qs.n qs.c, .int .i64 qs.G, .slice qs.A1 qs.n1 qs.c1, .slice qs.A2 qs.n2 qs.c2] from rfl]
  have Xn : Hid (Blk (v10.alloc (.cells #[.int .i64 0, .slice none 0 0, .int .i64 0, .slice none 0 0, .slice none 0 0] 27)) v10.heap.size [.int .i64 0, .slice none 0 0, .int .i64 0, .slice none 0 0, .slice none 0 0] 27) := Blk.new _ [_, _, _, _, _] _
  have hal : Hid (Below v10.heap.size v10 (v10.alloc (.cells #[.int .i64 0, .slice none 0 0, .int .i64 0, .slice none 0 0, .slice none 0 0] 27))) := (Below.refl _ _).alloc (Nat.le_refl _) _
  go_upto_region 9 with (refine wpList_row_store rfl 27 _ _ rfl [.int .i64 qs.D, .slice qs.A qs.n qs.c, .int .i64 qs.G, .slice qs.A1 qs.n1 qs.c1, .slice qs.A2 qs.n2 qs.c2] rfl rfl Xn.out hsz.out rfl (five_one12 _ _ _ _ _ _ _ _ _ _ _) ?_; intro v11 hw ho)
  have hb : Below v10.heap.size v10 v11 := hal.out.trans (ho.below (Nat.le_refl _))
  clear T
  replace E : Hid (Below w.heap.size w v11) := E.out.trans (hb.mono E.out.size)
  have T := Lib.hid (hT.out.on E.out)
  replace M := Lib.hid (M.out.keep hb)
  replace X := Lib.hid (X.out.below hb X.out.lt)
  replace F := Lib.hid (F.out.keep hb)
  replace XF := Lib.hid (XF.out.below hb XF.out.lt)
  replace S := Lib.hid (S.out.keep hb)
  have XS := Lib.hid hw.out
  clear hb hw ho hal Xn
  go_wp2_with (first | (refine wpList_blk_load rfl 27 _ rfl 0 rfl X.out [_, _, _, _, _] rfl _ hun.out rfl hsz.out ?_) | (refine wpList_blk_load rfl 27 _ rfl 0 rfl XF.out [_, _, _, _, _] rfl _ hun.out rfl hsz.out ?_) | (refine wpList_blk_load rfl 27 _ rfl 0 rfl XS.out [_, _, _, _, _] rfl _ hun.out rfl hsz.out ?_) | fail)
  have C := s12_loss qfx.out (by decide +kernel) rfl rfl ex_1408 F.out T.out
  rw [prv_eq12] at C
  refine C.mono ?_
  rintro e v12 ⟨rfl, hb⟩
  clear C T
  replace E : Hid (Below w.heap.size w v12) := E.out.trans (hb.mono E.out.size)
  have T := Lib.hid (hT.out.on E.out)
  replace M := Lib.hid (M.out.keep hb)
  replace X := Lib.hid (X.out.below hb X.out.lt)
  replace F := Lib.hid (F.out.keep hb)
  replace XF := Lib.hid (XF.out.below hb XF.out.lt)
  replace S := Lib.hid (S.out.keep hb)
  replace XS := Lib.hid (XS.out.below hb XS.out.lt)
  clear hb
  go_wp2_with (first | (refine wpList_blk_load rfl 27 _ rfl 0 rfl X.out [_, _, _, _, _] rfl _ hun.out rfl hsz.out ?_) | (refine wpList_blk_load rfl 27 _ rfl 0 rfl XF.out [_, _, _, _, _] rfl _ hun.out rfl hsz.out ?_) | (refine wpList_blk_load rfl 27 _ rfl 0 rfl XS.out [_, _, _, _, _] rfl _ hun.out rfl hsz.out ?_) | fail)
  have C := s12_loss qsx.out (by decide +kernel) rfl rfl ex_128 S.out T.out
  rw [prv_eq12] at C
  refine C.mono ?_
  rintro e v13 ⟨rfl, hb⟩
  clear C T
  replace E : Hid (Below w.heap.size w v13) := E.out.trans (hb.mono E.out.size)
  have T := Lib.hid (hT.out.on E.out)
  replace M := Lib.hid (M.out.keep hb)
  replace X := Lib.hid (X.out.below hb X.out.lt)
  replace F := Lib.hid (F.out.keep hb)
  replace XF := Lib.hid (XF.out.below hb XF.out.lt)
  replace S := Lib.hid (S.out.keep hb)
  replace XS := Lib.hid (XS.out.below hb XS.out.lt)
  clear hb
  clear F S XF XS qfx qsx
  go_wp2_with (first | (refine wpList_blk_load rfl 27 _ rfl 0 rfl X.out [_, _, _, _, _] rfl _ hun.out rfl hsz.out ?_) | fail)
  have C := s12_mil (exQ_ex a b _) M.out T.out
  rw [exQ_prv] at C
  refine C.mono ?_
  rintro e v14 ⟨rfl, hb⟩
  clear C T
  replace E : Hid (Below w.heap.size w v14) := E.out.trans (hb.mono E.out.size)
  have T := Lib.hid (hT.out.on E.out)
  replace M := Lib.hid (M.out.keep hb)
  replace X := Lib.hid (X.out.below hb X.out.lt)
  clear hb
  go_wp2_with (first | (refine wpList_blk_load rfl 27 _ rfl 0 rfl X.out [_, _, _, _, _] rfl _ hun.out rfl hsz.out ?_) | fail)
  have hlm := Lib.hid M.out.le
  have hE0 := Lib.hid E.out.size
  have hx0 : Hid (v1.heap.size < v14.heap.size) := X.out.lt
  have C := example_any12 v14
  refine C.mono ?_
  rintro e v15 ⟨⟨a2, b2, rfl, ha, hbb, hab, hA, hC⟩, hb⟩
  have hkw0 := Lib.hid hb.size
  clear C T
  replace E : Hid (Below w.heap.size w v15) := E.out.trans (hb.mono E.out.size)
  have T := Lib.hid (hT.out.on E.out)
  replace M := Lib.hid (M.out.keep hb)
  replace X := Lib.hid (X.out.below hb X.out.lt)
  clear hb
  have hA2 := Lib.hid hA
  have hC2 := Lib.hid hC
  have ha2 := Lib.hid ha
  have hb2 := Lib.hid hbb
  have hab2 := Lib.hid hab
  clear ha hbb hab hA hC
  rw [exQ_prv]
  have hkw : Hid (v14.heap.size ≤ v15.heap.size) := hkw0.out
  have hlA : Hid (a2 < v15.heap.size) := hA2.out.lt
  have hlC : Hid (b2 < v15.heap.size) := hC2.out.lt
  skip
  have Xn : Hid (Blk (v15.alloc (.cells #[.int .i64 0, .slice none 0 0, .int .i64 0, .slice none 0 0, .slice none 0 0] 27)) v15.heap.size [.int .i64 0, .slice none 0 0, .int .i64 0, .slice none 0 0, .slice none 0 0] 27) := Blk.new _ [_, _, _, _, _] _
  have hal : Hid (Below v15.heap.size v15 (v15.alloc (.cells #[.int .i64 0, .slice none 0 0, .int .i64 0, .slice none 0 0, .slice none 0 0] 27))) := (Below.refl _ _).alloc (Nat.le_refl _) _
  go_upto_region 13 with (refine wpList_row_store rfl 27 _ _ rfl [.int .i64 2, .slice none 0 0, .int .i64 1, .slice (some ⟨a2, 0, none⟩) 3 3, .slice (some ⟨b2, 0, none⟩) 3 3] rfl rfl Xn.out hsz.out rfl (five_one12 _ _ _ _ _ _ _ _ _ _ _) ?_; intro v16 hw ho)
  have hb : Below v15.heap.size v15 v16 := hal.out.trans (ho.below (Nat.le_refl _))
  clear T
  replace E : Hid (Below w.heap.size w v16) := E.out.trans (hb.mono E.out.size)
  have T := Lib.hid (hT.out.on E.out)
  replace M := Lib.hid (M.out.keep hb)
  replace X := Lib.hid (X.out.below hb X.out.lt)
  replace hA2 := Lib.hid (hA2.out.below hb hA2.out.lt)
  replace hC2 := Lib.hid (hC2.out.below hb hC2.out.lt)
  have XN := Lib.hid hw.out
  clear hb hw ho hal Xn
  have hkx : Hid (v15.heap.size < v16.heap.size) := XN.out.lt
  have p3 := XN.out.cell (j := 3) rfl
  have hxa : Hid (v1.heap.size < a2) := Nat.lt_of_lt_of_le hx0.out ha2.out
  go_upto_region 14 with (refine wpList_blk_store rfl 3 _ _ rfl 2 (.int .i64 (-1)) rfl rfl hA2.out hii.out (by decide) (one_int _ _) ?_; intro v17 hw ho)
  have hA3 : Hid (Blk v17 a2 [iv 0, iv 1, iv (-1)] 3) := hw.out
  have hC3 : Hid (Blk v17 b2 [iv 1, iv 2, iv 4] 3) := hC2.out.only ho (fun h => hab2.out h.symm)
  have hsz3 : v17.heap.size = v16.heap.size := ho.size
  have hk : Below v14.heap.size v16 v17 := ho.below ha2.out
  have N : Hid (PerM v17 v15.heap.size (exQ a2 b2 [0, 1, -1])) := exQ_per (by rw [hsz3]; exact Nat.le_of_lt hkx.out) hlA.out hlC.out hA3.out hC3.out
  replace M : Hid (PerM v17 v15.heap.size (exQ a b [0, 1, 2])) := (M.out.below (hk.mono hlm.out)).more (Nat.le_trans hlm.out hkw.out) (by rw [hsz3]; exact Nat.le_of_lt hkx.out)
  replace X := Lib.hid (X.out.only ho (Nat.ne_of_lt hxa.out))
  replace XN := Lib.hid (XN.out.only ho (fun h => by have := hlA.out; omega))
  replace E : Hid (Below w.heap.size w v17) := E.out.trans (hk.mono hE0.out)
  clear T p3
  have T := Lib.hid (hT.out.on E.out)
  clear hw ho hk hA2 hC2 hA3 hC3 hsz3 hxa hlA hlC
  go_wp2_with (first | (refine wpList_blk_load rfl 27 _ rfl 0 rfl X.out [_, _, _, _, _] rfl _ hun.out rfl hsz.out ?_) | (refine wpList_blk_load rfl 27 _ rfl 0 rfl XN.out [_, _, _, _, _] rfl _ hun.out rfl hsz.out ?_) | fail)
  have C := s12_loss (exQ_ex a2 b2 _) (by decide +kernel) rfl rfl ex_736 N.out T.out
  rw [exQ_prv] at C
  refine C.mono ?_
  rintro e v18 ⟨rfl, hb⟩
  clear C T
  replace E : Hid (Below w.heap.size w v18) := E.out.trans (hb.mono E.out.size)
  have T := Lib.hid (hT.out.on E.out)
  replace M := Lib.hid (M.out.keep hb)
  replace N := Lib.hid (N.out.keep hb)
  replace X := Lib.hid (X.out.below hb X.out.lt)
  replace XN := Lib.hid (XN.out.below hb XN.out.lt)
  clear hb
  go_wp2_with (first | (refine wpList_blk_load rfl 27 _ rfl 0 rfl X.out [_, _, _, _, _] rfl _ hun.out rfl hsz.out ?_) | (refine wpList_blk_load rfl 27 _ rfl 0 rfl XN.out [_, _, _, _, _] rfl _ hun.out rfl hsz.out ?_) | fail)
  have C := s12_cmp (exQ_ex a b _) (exQ_ex a2 b2 _) M.out N.out T.out
  rw [exQ_prv] at C
  rw [exQ_prv] at C
  refine C.mono ?_
  rintro e v19 ⟨rfl, hb⟩
  clear C T
  replace E : Hid (Below w.heap.size w v19) := E.out.trans (hb.mono E.out.size)
  have T := Lib.hid (hT.out.on E.out)
  replace M := Lib.hid (M.out.keep hb)
  replace N := Lib.hid (N.out.keep hb)
  replace X := Lib.hid (X.out.below hb X.out.lt)
  replace XN := Lib.hid (XN.out.below hb XN.out.lt)
  clear hb
  go_wp2_with fail
  go_ret
  exact ⟨rfl, E.out⟩
end Go.Proofs.YtgajlgnniidgmaaDoor

namespace Go.Proofs.YtgajlgnniidgmaaDoor
set_option linter.unusedVariables false
set_option linter.unusedSimpArgs false
open Go.RowKit Go.Maps

set_option maxRecDepth 100000 in
set_option maxHeartbeats 2000000 in
theorem count12_any (s : Nat) (w : World) (hs : s < 4096) : Calls Tryd.prog 27 #[.int .i64 s] w fun e w' => e = .returned (.int .i64 (cnt7 s)) ∧ w' = w := by
  obtain ⟨R, hR⟩ : ∃ R, R = cnt7 s := ⟨_, rfl⟩
  rw [← hR]
  have hRs : R ≤ 4096 := by rw [hR]; exact Nat.le_trans (cnt7_le s s (Nat.le_refl _)) (by omega)
  go_enter Tryd.func27, Tryd.ntmps27
  go_wp2_with fail
  go_loopg [0, 3] s (fun g s0 s3 wx => ∃ v t : Nat, v ≤ g ∧ v < 4096 ∧ s0 = .int .i64 v ∧ s3 = .int .i64 t ∧ Hid (R = t + cnt7 v) ∧ wx = w)
  case atStart => exact ⟨s, 0, by omega, hs, rfl, rfl, by show R = 0 + cnt7 s; omega, rfl⟩
  case round =>
    obtain ⟨v, t, hvg, hv, rfl, rfl, hI, rfl⟩ := hrel
    clear hR
    by_cases h0 : v = 0
    · have hz : Hid (R = t) := by show R = t; rw [hI.out, h0, cnt7_zero]; omega
      subst h0
      have hz0 : ¬ ((0 : Int) > 0) := by omega
      go_wp2_with fail
      go_ret
      exact ⟨(by rw [hz.out]; rfl), rfl⟩
    · have hp : (v : Int) > 0 := by omega
      have hb := and1_12 v
      obtain ⟨h, hh⟩ : ∃ h, h = v / 2 := ⟨_, rfl⟩
      obtain ⟨r, hr⟩ : ∃ r, r = v % 2 := ⟨_, rfl⟩
      obtain ⟨t2, ht2⟩ : ∃ t2, t2 = t + r := ⟨_, rfl⟩
      have hI2 : Hid (R = t2 + cnt7 h) := by show R = t2 + cnt7 h; rw [hI.out, cnt7_pos (by omega), ht2, hh, hr]; omega
      have ht4 : t2 < 1000000000 := by have := hI2.out; omega
      rw [← hr] at hb
      have eh : (v : Int) / 2 = (h : Int) := by omega
      have et : (t : Int) + (r : Int) = (t2 : Int) := by omega
      have ft := wrapN12 ht4
      have hh1 : h + 1 ≤ v := by omega
      clear hI hr ht2 hh
      go_wp2_with fail
      cases gk with
      | zero => omega
      | succ gk =>
        go_roundg gk
        case measure => omega
        case rel => exact ⟨h, t2, by omega, by omega, by first | rfl | (go_num; done), by first | rfl | (go_num; done), hI2, by first | rfl | trivial⟩


/-- A set loses a domain. -/
theorem bit_parts {f d : Nat} (h : f.testBit d = true) : ∃ u v, v < 2 ^ d ∧ f = 2 ^ d * (2 * u + 1) + v := by
  rw [Nat.testBit_eq_decide_div_mod_eq, decide_eq_true_eq] at h
  refine ⟨f / 2 ^ d / 2, f % 2 ^ d, Nat.mod_lt _ (Nat.two_pow_pos d), ?_⟩
  rw [show 2 * (f / 2 ^ d / 2) + 1 = f / 2 ^ d by omega]
  exact (Nat.div_add_mod f (2 ^ d)).symm
theorem cnt7_drop {f d : Nat} (h : f.testBit d = true) : cnt7 (f - 2 ^ d) + 1 = cnt7 f ∧ 2 ^ d ≤ f := by
  obtain ⟨u, v, hv, rfl⟩ := bit_parts h
  have e : 2 ^ d * (2 * u + 1) + v - 2 ^ d = 2 ^ d * (2 * u) + v := by rw [Nat.mul_add, Nat.mul_one]; omega
  rw [e, cnt7_split_r _ _ _ hv, cnt7_split_r _ _ _ hv, cnt7_even_r, cnt7_odd_r]
  refine ⟨by omega, ?_⟩
  rw [Nat.mul_add, Nat.mul_one]
  omega
theorem befB_le {a b : Nat} (h : befB a b = true) : cnt7 a ≤ cnt7 b := by
  unfold befB at h
  by_cases e : cnt7 a = cnt7 b
  · omega
  · rw [if_neg e] at h
    have := of_decide_eq_true h
    omega
theorem befB_ge {a b : Nat} (h : ¬ befB a b = true) : cnt7 b ≤ cnt7 a := by
  unfold befB at h
  by_cases e : cnt7 a = cnt7 b
  · omega
  · rw [if_neg e, decide_eq_true_eq] at h
    omega
theorem lsq_min {p : Prl} {all : Nat} : ∀ m, cnt7 (lsq p all m) ≤ cnt7 all ∧ (lsq p all m = all ∨ LosP p (lsq p all m)) ∧ ∀ f, f < m → LosP p f → cnt7 (lsq p all m) ≤ cnt7 f
  | 0 => ⟨by rw [lsq]; exact Nat.le_refl _, .inl (by rw [lsq]), fun f h => absurd h (by omega)⟩
  | m + 1 => by
    obtain ⟨h1, h2, h3⟩ := lsq_min (p := p) (all := all) m
    by_cases hc : befB m (lsq p all m) = true ∧ LosP p m
    · rw [lsq_yes hc.1 hc.2]
      have := befB_le hc.1
      refine ⟨by omega, .inr hc.2, fun f hf hl => ?_⟩
      rcases Nat.lt_or_ge f m with h | h
      · have := h3 f h hl; omega
      · rw [show f = m by omega]; exact Nat.le_refl _
    · rw [lsq_no hc]
      refine ⟨h1, h2, fun f hf hl => ?_⟩
      rcases Nat.lt_or_ge f m with h | h
      · exact h3 f h hl
      · have : f = m := by omega
        subst this
        exact befB_ge fun hb => hc ⟨hb, hl⟩
theorem lft_all {n : Nat} : ∀ (l : List Int) (k u : Nat), (∀ d ∈ l, -1 ≤ d ∧ d < n) → lft (2 ^ n - 1) l k u = u
  | [], k, u, _ => rfl
  | d :: l, k, u, h => by
    rw [lft, if_neg, lft_all l (k + 1) u fun x hx => h x (List.mem_cons_of_mem _ hx)]
    rintro ⟨h1, h2⟩
    obtain ⟨h3, h4⟩ := h d (List.mem_cons_self ..)
    rw [Nat.testBit_two_pow_sub_one, decide_eq_false_iff_not] at h2
    omega
theorem los_all {p : Prl} (OK : PrlOk p) : LosP p (2 ^ p.ch.length - 1) := fun hR => by
  rw [lft_all _ _ _ (fun d hd => by have := OK.al d hd; exact ⟨this.1, by omega⟩)] at hR
  have h := hR.2.2.2
  have hD := (cchk_ok OK.cod).1
  have := h (fun _ => 1) (fun r hr => by
    obtain ⟨k, _, hb, _⟩ := pcL_mem.1 hr
    rw [show ((0 : Nat) : Int).toNat = 0 from rfl, Nat.zero_testBit] at hb
    cases hb) 0 (by omega)
  revert this
  decide
theorem lst_facts {p : Prl} (OK : PrlOk p) : LosP p (lstV p) ∧ lstV p < 2 ^ p.ch.length ∧ ∀ f, f < 2 ^ p.ch.length → LosP p f → cnt7 (lstV p) ≤ cnt7 f := by
  have hp : 0 < 2 ^ p.ch.length := Nat.two_pow_pos _
  obtain ⟨h1, h2, h3⟩ := lsq_min (p := p) (all := 2 ^ p.ch.length - 1) (2 ^ p.ch.length - 1)
  have h4 := lsq_lt (p := p) (all := 2 ^ p.ch.length - 1) (2 ^ p.ch.length - 1) (Nat.le_refl _)
  unfold lstV
  refine ⟨?_, by omega, fun f hf hl => ?_⟩
  · rcases h2 with h | h
    · rw [h]; exact los_all OK
    · exact h
  · rcases Nat.lt_or_ge f (2 ^ p.ch.length - 1) with h | h
    · exact h3 f h hl
    · rw [show f = 2 ^ p.ch.length - 1 by omega]; exact h1
theorem lst_drop {p : Prl} (OK : PrlOk p) {d : Nat} (h : (lstV p).testBit d = true) : ¬ LosP p (lstV p - 2 ^ d) := fun hl => by
  obtain ⟨h1, h2, h3⟩ := lst_facts OK
  obtain ⟨h4, h5⟩ := cnt7_drop h
  have := h3 (lstV p - 2 ^ d) (Nat.lt_of_le_of_lt (Nat.sub_le _ _) h2) hl
  omega
end Go.Proofs.YtgajlgnniidgmaaDoor
