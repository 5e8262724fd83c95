/-
  Stage 14 (clock): Latest and Earliest of the program and of the specification. (Written by tools/genul.py.)
-/
import Derived.Test.YtbkgbjimooobbaaUk
namespace Go.Proofs.Ytbkgbjimooobbaa
set_option linter.unusedVariables false
set_option linter.unusedSimpArgs false
open Go.RowKit

/-- What Latest returns. -/
def LatR (rate : Int) (l : List Rdg) (due n e : Int) : Prop :=
  (¬ chkA rate l due = 0 ∧ n = 0 ∧ e = chkA rate l due) ∨ (chkA rate l due = 0 ∧ ∃ i : Nat, SrR (fun j : Nat => decide (due < bndHi rate l j)) 3600000001 i ∧ ((i = 0 ∧ n = 0 ∧ e = 8) ∨ (¬ i = 0 ∧ n = (i : Int) - 1 ∧ e = 0)))
/-- What Earliest returns. -/
def EarR (rate : Int) (l : List Rdg) (due n e : Int) : Prop :=
  (¬ chkA rate l due = 0 ∧ n = 0 ∧ e = chkA rate l due) ∨ (chkA rate l due = 0 ∧ ∃ i : Nat, SrR (fun j : Nat => decide (due ≤ bndLo rate l j)) 3600000001 i ∧ ((3600000000 < i ∧ n = 0 ∧ e = 8) ∨ (¬ 3600000000 < i ∧ n = (i : Int) ∧ e = 0)))
theorem LatR.uniq {rate due n e n' e' : Int} {l : List Rdg} (h : LatR rate l due n e) (h' : LatR rate l due n' e') : n = n' ∧ e = e' := by
  rcases h with ⟨a, rfl, rfl⟩ | ⟨a, i, hi, b⟩
  · rcases h' with ⟨a', rfl, rfl⟩ | ⟨a', _⟩
    · exact ⟨rfl, rfl⟩
    · exact absurd a' a
  · rcases h' with ⟨a', _⟩ | ⟨a', j, hj, b'⟩
    · exact absurd a a'
    · obtain rfl := hi.uniq hj
      rcases b with ⟨c, rfl, rfl⟩ | ⟨c, rfl, rfl⟩ <;> rcases b' with ⟨c', rfl, rfl⟩ | ⟨c', rfl, rfl⟩
      · exact ⟨rfl, rfl⟩
      · exact absurd c c'
      · exact absurd c' c
      · exact ⟨rfl, rfl⟩
theorem EarR.uniq {rate due n e n' e' : Int} {l : List Rdg} (h : EarR rate l due n e) (h' : EarR rate l due n' e') : n = n' ∧ e = e' := by
  rcases h with ⟨a, rfl, rfl⟩ | ⟨a, i, hi, b⟩
  · rcases h' with ⟨a', rfl, rfl⟩ | ⟨a', _⟩
    · exact ⟨rfl, rfl⟩
    · exact absurd a' a
  · rcases h' with ⟨a', _⟩ | ⟨a', j, hj, b'⟩
    · exact absurd a a'
    · obtain rfl := hi.uniq hj
      rcases b with ⟨c, rfl, rfl⟩ | ⟨c, rfl, rfl⟩ <;> rcases b' with ⟨c', rfl, rfl⟩ | ⟨c', rfl, rfl⟩
      · exact ⟨rfl, rfl⟩
      · exact absurd c c'
      · exact absurd c' c
      · exact ⟨rfl, rfl⟩
set_option maxRecDepth 100000 in
set_option maxHeartbeats 4000000 in
theorem latest_any {B : Nat} (k : Clk) (due : Int) (w : World) (m : ClkM w B k) :
    Calls Try.prog 7 #[.agg #[.int .i64 k.rate, .slice k.A k.n k.c], .int .i64 due] w fun e w' => ∃ n e', e = .returned (.tuple #[.int .i64 n, .int .i64 e']) ∧ LatR k.rate k.l due n e' ∧ Below w.heap.size w w' := by
  rcases k with ⟨rate, A, n, c, l⟩
  dsimp only at *
  obtain ⟨W2, hW2⟩ : ∃ W2, W2 = (w.alloc (.cells #[.int .i64 rate, .slice A n c] 30)).alloc (.cells #[.int .i64 due] 3) := ⟨_, rfl⟩
  have E : Hid (Below w.heap.size w W2) := by show Below _ _ _; rw [hW2]; exact ((Below.refl _ _).alloc (Nat.le_refl _) _).alloc (by simp) _
  have X1 : Hid (Blk W2 w.heap.size [.int .i64 rate, .slice A n c] 30) := by show Blk _ _ _ _; rw [hW2]; exact (Blk.new w [_, _] _).alloc _
  have X2 : Hid (Blk W2 (w.heap.size + 1) [.int .i64 due] 3) := by show Blk _ _ _ _; rw [hW2]; exact (Blk.new _ [_] _).at (by simp)
  have M := Lib.hid (m.below E.out)
  have hW2' := Lib.hid hW2
  clear hW2 m
  have hszc := Lib.hid size_clk
  have hunc : Hid (Try.prog.underlying 30 = _) := Try.underlying30
  have hmf : ∀ (fn : Fn) (first cap : Array Value) (w : World), (Instr.makeFunc fn first cap).run Try.prog w = .ok (.func fn first cap) w := fun _ _ _ _ => rfl
  have CC := Lib.hid (fun W (h : ClkM W B ⟨rate, A, n, c, l⟩) => checkAt_any _ due W h)
  dsimp only at CC
  obtain ⟨z, hz⟩ : ∃ z, chkA rate l due = z := ⟨_, rfl⟩
  rw [hz] at CC
  have hzH := Lib.hid hz
  by_cases h : z = 0
  · subst h
    obtain ⟨hk, hi⟩ := chkA_ok.1 hz
    obtain ⟨k0, k1, k2, k3, k4⟩ := chk_facts hk
    have CF := Lib.hid (fun W (h : ClkM W B ⟨rate, A, n, c, l⟩) (hX : Blk W (w.heap.size + 1) [.int .i64 due] 3) => first_any 19 [.pointer (some ⟨w.heap.size + 1, 0, none⟩)] (fun a b => decide (due < b)) _ W (enter_of Try.func19 (by kernel_rfl) (by kernel_rfl))
      (fun a b W' hW' => latest1_any a b due (w.heap.size + 1) W' (hX.below hW' hX.lt)) (fun a b a2 b2 h h2 hp => decide_eq_true (by have := of_decide_eq_true hp; omega)) rfl h k0 k1 k3)
    dsimp only at CF
    clear hk hi hz k4 k3
    have p1 := X2.out.cell (j := 0) rfl
    go_enter Try.func7, Try.ntmps7
    go_upto_region 1 with fail
    generalize hgg : (w.alloc _).alloc _ = Wg
    have hgW : W2 = Wg := by rw [← hgg, hW2'.out]
    clear hgg hW2'
    subst hgW
    go_wp2_with (refine wpList_blk_load rfl 30 _ rfl 0 rfl X1.out [_, _] rfl _ hunc.out rfl hszc.out ?_)
    refine (CC.out _ M.out).mono ?_
    rintro e w3 ⟨rfl, hb⟩
    replace E : Hid (Below w.heap.size w w3) := E.out.trans (hb.mono E.out.size)
    replace X1 := Lib.hid (X1.out.below hb X1.out.lt)
    replace X2 := Lib.hid (X2.out.below hb X2.out.lt)
    replace M := Lib.hid (M.out.below hb)
    clear hb CC p1
    go_wp2_with (refine wpList_blk_load rfl 30 _ rfl 0 rfl X1.out [_, _] rfl _ hunc.out rfl hszc.out ?_)
    refine (CF.out _ M.out X2.out).mono ?_
    rintro e w4 ⟨i, rfl, hs, hb⟩
    have hs' := Lib.hid hs
    replace E : Hid (Below w.heap.size w w4) := E.out.trans (hb.mono E.out.size)
    clear hb hs CF
    by_cases hi0 : i = 0
    · subst hi0
      go_wp2_with fail
      go_ret2
      exact ⟨0, 8, rfl, .inr ⟨hzH.out, 0, hs'.out, .inl ⟨rfl, rfl, rfl⟩⟩, E.out⟩
    · have ti : ((i : Int) == 0) = false := by simp only [beq_eq_false_iff_ne, ne_eq]; omega
      have hi1 := hs'.out.1
      have hw1 : IntKind.i64.wrap ((i : Int) - 1) = (i : Int) - 1 := by rw [IntKind.wrap_i64]; omega
      have ti' : (i == 0) = false := by simp only [beq_eq_false_iff_ne, ne_eq]; exact hi0
      go_wp2_with fail
      go_ret2
      exact ⟨(i : Int) - 1, 0, rfl, .inr ⟨hzH.out, i, hs'.out, .inr ⟨hi0, rfl, rfl⟩⟩, E.out⟩
  · have tz : (z == 0) = false := by simpa using h
    clear hz
    have p1 := X2.out.cell (j := 0) rfl
    go_enter Try.func7, Try.ntmps7
    go_upto_region 1 with fail
    generalize hgg : (w.alloc _).alloc _ = Wg
    have hgW : W2 = Wg := by rw [← hgg, hW2'.out]
    clear hgg hW2'
    subst hgW
    go_wp2_with (refine wpList_blk_load rfl 30 _ rfl 0 rfl X1.out [_, _] rfl _ hunc.out rfl hszc.out ?_)
    refine (CC.out _ M.out).mono ?_
    rintro e w3 ⟨rfl, hb⟩
    replace E : Hid (Below w.heap.size w w3) := E.out.trans (hb.mono E.out.size)
    replace X1 := Lib.hid (X1.out.below hb X1.out.lt)
    replace X2 := Lib.hid (X2.out.below hb X2.out.lt)
    replace M := Lib.hid (M.out.below hb)
    clear hb CC p1
    go_wp2_with fail
    go_ret2
    exact ⟨0, z, rfl, .inl ⟨by rw [hzH.out]; exact h, rfl, hzH.out.symm⟩, E.out⟩

set_option maxRecDepth 100000 in
set_option maxHeartbeats 4000000 in
theorem earliest_any {B : Nat} (k : Clk) (due : Int) (w : World) (m : ClkM w B k) :
    Calls Try.prog 8 #[.agg #[.int .i64 k.rate, .slice k.A k.n k.c], .int .i64 due] w fun e w' => ∃ n e', e = .returned (.tuple #[.int .i64 n, .int .i64 e']) ∧ EarR k.rate k.l due n e' ∧ Below w.heap.size w w' := by
  rcases k with ⟨rate, A, n, c, l⟩
  dsimp only at *
  obtain ⟨W2, hW2⟩ : ∃ W2, W2 = (w.alloc (.cells #[.int .i64 rate, .slice A n c] 30)).alloc (.cells #[.int .i64 due] 3) := ⟨_, rfl⟩
  have E : Hid (Below w.heap.size w W2) := by show Below _ _ _; rw [hW2]; exact ((Below.refl _ _).alloc (Nat.le_refl _) _).alloc (by simp) _
  have X1 : Hid (Blk W2 w.heap.size [.int .i64 rate, .slice A n c] 30) := by show Blk _ _ _ _; rw [hW2]; exact (Blk.new w [_, _] _).alloc _
  have X2 : Hid (Blk W2 (w.heap.size + 1) [.int .i64 due] 3) := by show Blk _ _ _ _; rw [hW2]; exact (Blk.new _ [_] _).at (by simp)
  have M := Lib.hid (m.below E.out)
  have hW2' := Lib.hid hW2
  clear hW2 m
  have hszc := Lib.hid size_clk
  have hunc : Hid (Try.prog.underlying 30 = _) := Try.underlying30
  have hmf : ∀ (fn : Fn) (first cap : Array Value) (w : World), (Instr.makeFunc fn first cap).run Try.prog w = .ok (.func fn first cap) w := fun _ _ _ _ => rfl
  have CC := Lib.hid (fun W (h : ClkM W B ⟨rate, A, n, c, l⟩) => checkAt_any _ due W h)
  dsimp only at CC
  obtain ⟨z, hz⟩ : ∃ z, chkA rate l due = z := ⟨_, rfl⟩
  rw [hz] at CC
  have hzH := Lib.hid hz
  by_cases h : z = 0
  · subst h
    obtain ⟨hk, hi⟩ := chkA_ok.1 hz
    obtain ⟨k0, k1, k2, k3, k4⟩ := chk_facts hk
    have CF := Lib.hid (fun W (h : ClkM W B ⟨rate, A, n, c, l⟩) (hX : Blk W (w.heap.size + 1) [.int .i64 due] 3) => first_any 20 [.pointer (some ⟨w.heap.size + 1, 0, none⟩)] (fun a b => decide (due ≤ a)) _ W (enter_of Try.func20 (by kernel_rfl) (by kernel_rfl))
      (fun a b W' hW' => earliest1_any a b due (w.heap.size + 1) W' (hX.below hW' hX.lt)) (fun a b a2 b2 h h2 hp => decide_eq_true (by have := of_decide_eq_true hp; omega)) rfl h k0 k1 k3)
    dsimp only at CF
    clear hk hi hz k4 k3
    have p1 := X2.out.cell (j := 0) rfl
    go_enter Try.func8, Try.ntmps8
    go_upto_region 1 with fail
    generalize hgg : (w.alloc _).alloc _ = Wg
    have hgW : W2 = Wg := by rw [← hgg, hW2'.out]
    clear hgg hW2'
    subst hgW
    go_wp2_with (refine wpList_blk_load rfl 30 _ rfl 0 rfl X1.out [_, _] rfl _ hunc.out rfl hszc.out ?_)
    refine (CC.out _ M.out).mono ?_
    rintro e w3 ⟨rfl, hb⟩
    replace E : Hid (Below w.heap.size w w3) := E.out.trans (hb.mono E.out.size)
    replace X1 := Lib.hid (X1.out.below hb X1.out.lt)
    replace X2 := Lib.hid (X2.out.below hb X2.out.lt)
    replace M := Lib.hid (M.out.below hb)
    clear hb CC p1
    go_wp2_with (refine wpList_blk_load rfl 30 _ rfl 0 rfl X1.out [_, _] rfl _ hunc.out rfl hszc.out ?_)
    refine (CF.out _ M.out X2.out).mono ?_
    rintro e w4 ⟨i, rfl, hs, hb⟩
    have hs' := Lib.hid hs
    replace E : Hid (Below w.heap.size w w4) := E.out.trans (hb.mono E.out.size)
    clear hb hs CF
    by_cases hi0 : 3600000000 < i
    · have ti : (3600000000 : Int) < (i : Int) := by omega
      go_wp2_with fail
      go_ret2
      exact ⟨0, 8, rfl, .inr ⟨hzH.out, i, hs'.out, .inl ⟨hi0, rfl, rfl⟩⟩, E.out⟩
    · have ti : ¬ (3600000000 : Int) < (i : Int) := by omega
      go_wp2_with fail
      go_ret2
      exact ⟨(i : Int), 0, rfl, .inr ⟨hzH.out, i, hs'.out, .inr ⟨hi0, rfl, rfl⟩⟩, E.out⟩
  · have tz : (z == 0) = false := by simpa using h
    clear hz
    have p1 := X2.out.cell (j := 0) rfl
    go_enter Try.func8, Try.ntmps8
    go_upto_region 1 with fail
    generalize hgg : (w.alloc _).alloc _ = Wg
    have hgW : W2 = Wg := by rw [← hgg, hW2'.out]
    clear hgg hW2'
    subst hgW
    go_wp2_with (refine wpList_blk_load rfl 30 _ rfl 0 rfl X1.out [_, _] rfl _ hunc.out rfl hszc.out ?_)
    refine (CC.out _ M.out).mono ?_
    rintro e w3 ⟨rfl, hb⟩
    replace E : Hid (Below w.heap.size w w3) := E.out.trans (hb.mono E.out.size)
    replace X1 := Lib.hid (X1.out.below hb X1.out.lt)
    replace X2 := Lib.hid (X2.out.below hb X2.out.lt)
    replace M := Lib.hid (M.out.below hb)
    clear hb CC p1
    go_wp2_with fail
    go_ret2
    exact ⟨0, z, rfl, .inl ⟨by rw [hzH.out]; exact h, rfl, hzH.out.symm⟩, E.out⟩

end Go.Proofs.Ytbkgbjimooobbaa
