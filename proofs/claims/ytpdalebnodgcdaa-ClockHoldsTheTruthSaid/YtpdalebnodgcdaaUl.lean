/-
  Stage 14 (clock): Latest and Earliest of the program and of the specification. (Written by tools/genul.py.)
-/
import Derived.Test.YtpdalebnodgcdaaUk
namespace Go.Proofs.Ytpdalebnodgcdaa
set_option linter.unusedVariables false
set_option linter.unusedSimpArgs false
open Go.RowKit

/-- What Latest returns. -/
def LatR (rate : Int) (l : List Rdg) (due n e : Int) : Prop :=
  (¬ chkA rate l due = 0 ∧ n = 0 ∧ e = chkA rate l due) ∨ (chkA rate l due = 0 ∧ ∃ i : Nat, SrR (fun j : Nat => decide (due < bndHi rate l j)) 3600000001 i ∧ ((i = 0 ∧ n = 0 ∧ e = 8) ∨ (¬ i = 0 ∧ n = (i : Int) - 1 ∧ e = 0)))
/-- What Earliest returns. -/
def EarR (rate : Int) (l : List Rdg) (due n e : Int) : Prop :=
  (¬ chkA rate l due = 0 ∧ n = 0 ∧ e = chkA rate l due) ∨ (chkA rate l due = 0 ∧ ∃ i : Nat, SrR (fun j : Nat => decide (due ≤ bndLo rate l j)) 3600000001 i ∧ ((3600000000 < i ∧ n = 0 ∧ e = 8) ∨ (¬ 3600000000 < i ∧ n = (i : Int) ∧ e = 0)))
theorem LatR.uniq {rate due n e n' e' : Int} {l : List Rdg} (h : LatR rate l due n e) (h' : LatR rate l due n' e') : n = n' ∧ e = e' := by
  rcases h with ⟨a, rfl, rfl⟩ | ⟨a, i, hi, b⟩
  · rcases h' with ⟨a', rfl, rfl⟩ | ⟨a', _⟩
    · exact ⟨rfl, rfl⟩
    · exact absurd a' a
  · rcases h' with ⟨a', _⟩ | ⟨a', j, hj, b'⟩
    · exact absurd a a'
    · obtain rfl := hi.uniq hj
      rcases b with ⟨c, rfl, rfl⟩ | ⟨c, rfl, rfl⟩ <;> rcases b' with ⟨c', rfl, rfl⟩ | ⟨c', rfl, rfl⟩
      · exact ⟨rfl, rfl⟩
      · exact absurd c c'
      · exact absurd c' c
      · exact ⟨rfl, rfl⟩
theorem EarR.uniq {rate due n e n' e' : Int} {l : List Rdg} (h : EarR rate l due n e) (h' : EarR rate l due n' e') : n = n' ∧ e = e' := by
  rcases h with ⟨a, rfl, rfl⟩ | ⟨a, i, hi, b⟩
  · rcases h' with ⟨a', rfl, rfl⟩ | ⟨a', _⟩
    · exact ⟨rfl, rfl⟩
    · exact absurd a' a
  · rcases h' with ⟨a', _⟩ | ⟨a', j, hj, b'⟩
    · exact absurd a a'
    · obtain rfl := hi.uniq hj
      rcases b with ⟨c, rfl, rfl⟩ | ⟨c, rfl, rfl⟩ <;> rcases b' with ⟨c', rfl, rfl⟩ | ⟨c', rfl, rfl⟩
      · exact ⟨rfl, rfl⟩
      · exact absurd c c'
      · exact absurd c' c
      · exact ⟨rfl, rfl⟩
theorem size_fnd : (Try.prog.info? 65).map (·.size) = some 2 := by kernel_rfl

set_option maxRecDepth 100000 in
set_option maxHeartbeats 4000000 in
theorem latest_any {B : Nat} (k : Clk) (due : Int) (w : World) (m : ClkM w B k) :
    Calls Try.prog 28 #[.agg #[.int .i64 k.rate, .slice k.A k.n k.c], .int .i64 due] w fun e w' => ∃ n e', e = .returned (.tuple #[.int .i64 n, .int .i64 e']) ∧ LatR k.rate k.l due n e' ∧ Below w.heap.size w w' := by
  rcases k with ⟨rate, A, n, c, l⟩
  dsimp only at *
  obtain ⟨W2, hW2⟩ : ∃ W2, W2 = (w.alloc (.cells #[.int .i64 rate, .slice A n c] 24)).alloc (.cells #[.int .i64 due] 3) := ⟨_, rfl⟩
  have E : Hid (Below w.heap.size w W2) := by show Below _ _ _; rw [hW2]; exact ((Below.refl _ _).alloc (Nat.le_refl _) _).alloc (by simp) _
  have X1 : Hid (Blk W2 w.heap.size [.int .i64 rate, .slice A n c] 24) := by show Blk _ _ _ _; rw [hW2]; exact (Blk.new w [_, _] _).alloc _
  have X2 : Hid (Blk W2 (w.heap.size + 1) [.int .i64 due] 3) := by show Blk _ _ _ _; rw [hW2]; exact (Blk.new _ [_] _).at (by simp)
  have M := Lib.hid (m.below E.out)
  have hW2' := Lib.hid hW2
  clear hW2 m
  have hszc := Lib.hid size_clk
  have hunc : Hid (Try.prog.underlying 24 = _) := Try.underlying24
  have hmf : ∀ (fn : Fn) (first cap : Array Value) (w : World), (Instr.makeFunc fn first cap).run Try.prog w = .ok (.func fn first cap) w := fun _ _ _ _ => rfl
  have CC := Lib.hid (fun W (h : ClkM W B ⟨rate, A, n, c, l⟩) => checkAt_any _ due W h)
  dsimp only at CC
  obtain ⟨z, hz⟩ : ∃ z, chkA rate l due = z := ⟨_, rfl⟩
  rw [hz] at CC
  have hzH := Lib.hid hz
  by_cases h : z = 0
  · subst h
    obtain ⟨hk, hi⟩ := chkA_ok.1 hz
    obtain ⟨k0, k1, k2, k3, k4⟩ := chk_facts hk
    have CF := Lib.hid (fun W (h : ClkM W B ⟨rate, A, n, c, l⟩) (hX : Blk W (w.heap.size + 1) [.int .i64 due] 3) => first_any 49 [.pointer (some ⟨w.heap.size + 1, 0, none⟩)] (fun a b => decide (due < b)) _ W (enter_of Try.func49 (by kernel_rfl) (by kernel_rfl))
      (fun a b W' hW' => latest1_any a b due (w.heap.size + 1) W' (hX.below hW' hX.lt)) (fun a b a2 b2 h h2 hp => decide_eq_true (by have := of_decide_eq_true hp; omega)) rfl h k0 k1 k3)
    dsimp only at CF
    clear hk hi hz k4 k3
    have p1 := X2.out.cell (j := 0) rfl
    go_enter Try.func28, Try.ntmps28
    go_upto_region 1 with fail
    generalize hgg : (w.alloc _).alloc _ = Wg
    have hgW : W2 = Wg := by rw [← hgg, hW2'.out]
    clear hgg hW2'
    subst hgW
    go_wp2_with (refine wpList_blk_load rfl 24 _ rfl 0 rfl X1.out [_, _] rfl _ hunc.out rfl hszc.out ?_)
    refine (CC.out _ M.out).mono ?_
    rintro e w3 ⟨rfl, hb⟩
    replace E : Hid (Below w.heap.size w w3) := E.out.trans (hb.mono E.out.size)
    replace X1 := Lib.hid (X1.out.below hb X1.out.lt)
    replace X2 := Lib.hid (X2.out.below hb X2.out.lt)
    replace M := Lib.hid (M.out.below hb)
    clear hb CC p1
    go_wp2_with (refine wpList_blk_load rfl 24 _ rfl 0 rfl X1.out [_, _] rfl _ hunc.out rfl hszc.out ?_)
    refine (CF.out _ M.out X2.out).mono ?_
    rintro e w4 ⟨i, rfl, hs, hb⟩
    have hs' := Lib.hid hs
    replace E : Hid (Below w.heap.size w w4) := E.out.trans (hb.mono E.out.size)
    clear hb hs CF
    by_cases hi0 : i = 0
    · subst hi0
      go_wp2_with fail
      go_ret2
      exact ⟨0, 8, rfl, .inr ⟨hzH.out, 0, hs'.out, .inl ⟨rfl, rfl, rfl⟩⟩, E.out⟩
    · have ti : ((i : Int) == 0) = false := by simp only [beq_eq_false_iff_ne, ne_eq]; omega
      have hi1 := hs'.out.1
      have hw1 : IntKind.i64.wrap ((i : Int) - 1) = (i : Int) - 1 := by rw [IntKind.wrap_i64]; omega
      have ti' : (i == 0) = false := by simp only [beq_eq_false_iff_ne, ne_eq]; exact hi0
      go_wp2_with fail
      go_ret2
      exact ⟨(i : Int) - 1, 0, rfl, .inr ⟨hzH.out, i, hs'.out, .inr ⟨hi0, rfl, rfl⟩⟩, E.out⟩
  · have tz : (z == 0) = false := by simpa using h
    clear hz
    have p1 := X2.out.cell (j := 0) rfl
    go_enter Try.func28, Try.ntmps28
    go_upto_region 1 with fail
    generalize hgg : (w.alloc _).alloc _ = Wg
    have hgW : W2 = Wg := by rw [← hgg, hW2'.out]
    clear hgg hW2'
    subst hgW
    go_wp2_with (refine wpList_blk_load rfl 24 _ rfl 0 rfl X1.out [_, _] rfl _ hunc.out rfl hszc.out ?_)
    refine (CC.out _ M.out).mono ?_
    rintro e w3 ⟨rfl, hb⟩
    replace E : Hid (Below w.heap.size w w3) := E.out.trans (hb.mono E.out.size)
    replace X1 := Lib.hid (X1.out.below hb X1.out.lt)
    replace X2 := Lib.hid (X2.out.below hb X2.out.lt)
    replace M := Lib.hid (M.out.below hb)
    clear hb CC p1
    go_wp2_with fail
    go_ret2
    exact ⟨0, z, rfl, .inl ⟨by rw [hzH.out]; exact h, rfl, hzH.out.symm⟩, E.out⟩

set_option maxRecDepth 100000 in
set_option maxHeartbeats 4000000 in
theorem earliest_any {B : Nat} (k : Clk) (due : Int) (w : World) (m : ClkM w B k) :
    Calls Try.prog 29 #[.agg #[.int .i64 k.rate, .slice k.A k.n k.c], .int .i64 due] w fun e w' => ∃ n e', e = .returned (.tuple #[.int .i64 n, .int .i64 e']) ∧ EarR k.rate k.l due n e' ∧ Below w.heap.size w w' := by
  rcases k with ⟨rate, A, n, c, l⟩
  dsimp only at *
  obtain ⟨W2, hW2⟩ : ∃ W2, W2 = (w.alloc (.cells #[.int .i64 rate, .slice A n c] 24)).alloc (.cells #[.int .i64 due] 3) := ⟨_, rfl⟩
  have E : Hid (Below w.heap.size w W2) := by show Below _ _ _; rw [hW2]; exact ((Below.refl _ _).alloc (Nat.le_refl _) _).alloc (by simp) _
  have X1 : Hid (Blk W2 w.heap.size [.int .i64 rate, .slice A n c] 24) := by show Blk _ _ _ _; rw [hW2]; exact (Blk.new w [_, _] _).alloc _
  have X2 : Hid (Blk W2 (w.heap.size + 1) [.int .i64 due] 3) := by show Blk _ _ _ _; rw [hW2]; exact (Blk.new _ [_] _).at (by simp)
  have M := Lib.hid (m.below E.out)
  have hW2' := Lib.hid hW2
  clear hW2 m
  have hszc := Lib.hid size_clk
  have hunc : Hid (Try.prog.underlying 24 = _) := Try.underlying24
  have hmf : ∀ (fn : Fn) (first cap : Array Value) (w : World), (Instr.makeFunc fn first cap).run Try.prog w = .ok (.func fn first cap) w := fun _ _ _ _ => rfl
  have CC := Lib.hid (fun W (h : ClkM W B ⟨rate, A, n, c, l⟩) => checkAt_any _ due W h)
  dsimp only at CC
  obtain ⟨z, hz⟩ : ∃ z, chkA rate l due = z := ⟨_, rfl⟩
  rw [hz] at CC
  have hzH := Lib.hid hz
  by_cases h : z = 0
  · subst h
    obtain ⟨hk, hi⟩ := chkA_ok.1 hz
    obtain ⟨k0, k1, k2, k3, k4⟩ := chk_facts hk
    have CF := Lib.hid (fun W (h : ClkM W B ⟨rate, A, n, c, l⟩) (hX : Blk W (w.heap.size + 1) [.int .i64 due] 3) => first_any 50 [.pointer (some ⟨w.heap.size + 1, 0, none⟩)] (fun a b => decide (due ≤ a)) _ W (enter_of Try.func50 (by kernel_rfl) (by kernel_rfl))
      (fun a b W' hW' => earliest1_any a b due (w.heap.size + 1) W' (hX.below hW' hX.lt)) (fun a b a2 b2 h h2 hp => decide_eq_true (by have := of_decide_eq_true hp; omega)) rfl h k0 k1 k3)
    dsimp only at CF
    clear hk hi hz k4 k3
    have p1 := X2.out.cell (j := 0) rfl
    go_enter Try.func29, Try.ntmps29
    go_upto_region 1 with fail
    generalize hgg : (w.alloc _).alloc _ = Wg
    have hgW : W2 = Wg := by rw [← hgg, hW2'.out]
    clear hgg hW2'
    subst hgW
    go_wp2_with (refine wpList_blk_load rfl 24 _ rfl 0 rfl X1.out [_, _] rfl _ hunc.out rfl hszc.out ?_)
    refine (CC.out _ M.out).mono ?_
    rintro e w3 ⟨rfl, hb⟩
    replace E : Hid (Below w.heap.size w w3) := E.out.trans (hb.mono E.out.size)
    replace X1 := Lib.hid (X1.out.below hb X1.out.lt)
    replace X2 := Lib.hid (X2.out.below hb X2.out.lt)
    replace M := Lib.hid (M.out.below hb)
    clear hb CC p1
    go_wp2_with (refine wpList_blk_load rfl 24 _ rfl 0 rfl X1.out [_, _] rfl _ hunc.out rfl hszc.out ?_)
    refine (CF.out _ M.out X2.out).mono ?_
    rintro e w4 ⟨i, rfl, hs, hb⟩
    have hs' := Lib.hid hs
    replace E : Hid (Below w.heap.size w w4) := E.out.trans (hb.mono E.out.size)
    clear hb hs CF
    by_cases hi0 : 3600000000 < i
    · have ti : (3600000000 : Int) < (i : Int) := by omega
      go_wp2_with fail
      go_ret2
      exact ⟨0, 8, rfl, .inr ⟨hzH.out, i, hs'.out, .inl ⟨hi0, rfl, rfl⟩⟩, E.out⟩
    · have ti : ¬ (3600000000 : Int) < (i : Int) := by omega
      go_wp2_with fail
      go_ret2
      exact ⟨(i : Int), 0, rfl, .inr ⟨hzH.out, i, hs'.out, .inr ⟨hi0, rfl, rfl⟩⟩, E.out⟩
  · have tz : (z == 0) = false := by simpa using h
    clear hz
    have p1 := X2.out.cell (j := 0) rfl
    go_enter Try.func29, Try.ntmps29
    go_upto_region 1 with fail
    generalize hgg : (w.alloc _).alloc _ = Wg
    have hgW : W2 = Wg := by rw [← hgg, hW2'.out]
    clear hgg hW2'
    subst hgW
    go_wp2_with (refine wpList_blk_load rfl 24 _ rfl 0 rfl X1.out [_, _] rfl _ hunc.out rfl hszc.out ?_)
    refine (CC.out _ M.out).mono ?_
    rintro e w3 ⟨rfl, hb⟩
    replace E : Hid (Below w.heap.size w w3) := E.out.trans (hb.mono E.out.size)
    replace X1 := Lib.hid (X1.out.below hb X1.out.lt)
    replace X2 := Lib.hid (X2.out.below hb X2.out.lt)
    replace M := Lib.hid (M.out.below hb)
    clear hb CC p1
    go_wp2_with fail
    go_ret2
    exact ⟨0, z, rfl, .inl ⟨by rw [hzH.out]; exact h, rfl, hzH.out.symm⟩, E.out⟩

set_option maxRecDepth 100000 in
set_option maxHeartbeats 4000000 in
theorem rLatest_any {B : Nat} (k : Clk) (due : Int) (w : World) (m : ClkM w B k) :
    Calls Try.prog 30 #[.agg #[.int .i64 k.rate, .slice k.A k.n k.c], .int .i64 due] w fun e w' => ∃ n e', e = .returned (.agg #[.int .i64 n, .int .i64 e']) ∧ LatR k.rate k.l due n e' ∧ Below w.heap.size w w' := by
  rcases k with ⟨rate, A, n, c, l⟩
  dsimp only at *
  obtain ⟨W2, hW2⟩ : ∃ W2, W2 = (w.alloc (.cells #[.int .i64 rate, .slice A n c] 24)).alloc (.cells #[.int .i64 0, .int .i64 0] 65) := ⟨_, rfl⟩
  have E : Hid (Below w.heap.size w W2) := by show Below _ _ _; rw [hW2]; exact ((Below.refl _ _).alloc (Nat.le_refl _) _).alloc (by simp) _
  have X1 : Hid (Blk W2 w.heap.size [.int .i64 rate, .slice A n c] 24) := by show Blk _ _ _ _; rw [hW2]; exact (Blk.new w [_, _] _).alloc _
  have X2 : Hid (Blk W2 (w.heap.size + 1) [.int .i64 0, .int .i64 0] 65) := by show Blk _ _ _ _; rw [hW2]; exact (Blk.new _ [_, _] _).at (by simp)
  have M := Lib.hid (m.below E.out)
  have hW2' := Lib.hid hW2
  clear hW2 m
  have hszc := Lib.hid size_clk
  have hunc : Hid (Try.prog.underlying 24 = _) := Try.underlying24
  have hunf : Hid (Try.prog.underlying 65 = _) := Try.underlying65
  have CC := Lib.hid (fun W (h : ClkM W B ⟨rate, A, n, c, l⟩) => wrong_any _ due W h)
  dsimp only at CC
  obtain ⟨z, hz⟩ : ∃ z, chkA rate l due = z := ⟨_, rfl⟩
  rw [hz] at CC
  have hzH := Lib.hid hz
  by_cases h : z = 0
  · subst h
    obtain ⟨hk, hi⟩ := chkA_ok.1 hz
    obtain ⟨k0, k1, k2, k3, k4⟩ := chk_facts hk
    have CB := Lib.hid (fun W (h : ClkM W B ⟨rate, A, n, c, l⟩) (x : Int) (i0 : 0 ≤ x) (i1 : x ≤ 3600000000) => rBounds_any _ x W h k0 k1 k3 i0 i1)
    dsimp only at CB
    have hlm : Hid (∀ x y : Int, x ≤ y → bndLo rate l x ≤ bndLo rate l y) := fun x y h => bndLo_mono k0 k1 h
    have hhm : Hid (∀ x y : Int, x ≤ y → bndHi rate l x ≤ bndHi rate l y) := fun x y h => bndHi_mono k0 k1 h
    have C0 := Lib.hid (fun W (h : ClkM W B ⟨rate, A, n, c, l⟩) => CB.out W h 0 (by omega) (by omega))
    obtain ⟨u0, hu0⟩ : ∃ u, bndLo rate l 0 = u := ⟨_, rfl⟩
    obtain ⟨v0, hv0⟩ : ∃ v, bndHi rate l 0 = v := ⟨_, rfl⟩
    rw [hu0, hv0] at C0
    have hu0H := Lib.hid hu0
    have hv0H := Lib.hid hv0
    clear hk hi hz k4 k3 hu0 hv0
    by_cases hc : due < v0
    · skip
      go_enter Try.func30, Try.ntmps30
      go_upto_region 1 with fail
      generalize hgg : (w.alloc _).alloc _ = Wg
      have hgW : W2 = Wg := by rw [← hgg, hW2'.out]
      clear hgg hW2'
      subst hgW
      go_wp2_with (refine wpList_blk_load rfl 24 _ rfl 0 rfl X1.out [_, _] rfl _ hunc.out rfl hszc.out ?_)
      refine (CC.out _ M.out).mono ?_
      rintro e w3 ⟨rfl, hb⟩
      replace E : Hid (Below w.heap.size w w3) := E.out.trans (hb.mono E.out.size)
      replace X1 := Lib.hid (X1.out.below hb X1.out.lt)
      replace X2 := Lib.hid (X2.out.below hb X2.out.lt)
      replace M := Lib.hid (M.out.below hb)
      clear hb CC
      go_wp2_with (refine wpList_blk_load rfl 24 _ rfl 0 rfl X1.out [_, _] rfl _ hunc.out rfl hszc.out ?_)
      refine (C0.out _ M.out).mono ?_
      rintro e w4 ⟨rfl, hb⟩
      replace E : Hid (Below w.heap.size w w4) := E.out.trans (hb.mono E.out.size)
      replace X1 := Lib.hid (X1.out.below hb X1.out.lt)
      replace X2 := Lib.hid (X2.out.below hb X2.out.lt)
      replace M := Lib.hid (M.out.below hb)
      clear hb C0
      have hb : Below w4.heap.size w4 (w4.alloc (.cells #[.int .i64 u0, .int .i64 v0] 27)) := (Below.refl _ _).alloc (Nat.le_refl _) _
      have X4 : Hid (Blk (w4.alloc (.cells #[.int .i64 u0, .int .i64 v0] 27)) w4.heap.size [.int .i64 u0, .int .i64 v0] 27) := Blk.new w4 [.int .i64 u0, .int .i64 v0] _
      replace E : Hid (Below w.heap.size w (w4.alloc (.cells #[.int .i64 u0, .int .i64 v0] 27))) := E.out.trans (hb.mono E.out.size)
      replace X1 := Lib.hid (X1.out.below hb X1.out.lt)
      replace X2 := Lib.hid (X2.out.below hb X2.out.lt)
      replace M := Lib.hid (M.out.below hb)
      clear hb
      have r0 := X4.out.cell (j := 0) rfl
      have r1 := X4.out.cell (j := 1) rfl
      go_wp2_with (refine wpList_row_store rfl 65 _ _ rfl [.int .i64 0, .int .i64 8] rfl rfl X2.out size_fnd rfl (one2 _ _) ?_; intro w9 hw9 ho9)
      exact bodyPost_ret (ret_blk rfl _ w9 (g := w.heap.size + 1) rfl hw9.out _ hunf.out rfl size_fnd) rfl ⟨0, 8, rfl, .inr ⟨hzH.out, 0, ⟨by omega, fun j hj => absurd hj (by omega), fun j _ _ => decide_eq_true (by have h1 := hhm.out 0 j (by omega); rw [hv0H.out] at h1; show due < _; omega)⟩, .inl ⟨rfl, rfl, rfl⟩⟩, E.out.trans (ho9.below (by omega))⟩
    · skip
      go_enter Try.func30, Try.ntmps30
      go_upto_region 1 with fail
      generalize hgg : (w.alloc _).alloc _ = Wg
      have hgW : W2 = Wg := by rw [← hgg, hW2'.out]
      clear hgg hW2'
      subst hgW
      go_wp2_with (refine wpList_blk_load rfl 24 _ rfl 0 rfl X1.out [_, _] rfl _ hunc.out rfl hszc.out ?_)
      refine (CC.out _ M.out).mono ?_
      rintro e w3 ⟨rfl, hb⟩
      replace E : Hid (Below w.heap.size w w3) := E.out.trans (hb.mono E.out.size)
      replace X1 := Lib.hid (X1.out.below hb X1.out.lt)
      replace X2 := Lib.hid (X2.out.below hb X2.out.lt)
      replace M := Lib.hid (M.out.below hb)
      clear hb CC
      go_wp2_with (refine wpList_blk_load rfl 24 _ rfl 0 rfl X1.out [_, _] rfl _ hunc.out rfl hszc.out ?_)
      refine (C0.out _ M.out).mono ?_
      rintro e w4 ⟨rfl, hb⟩
      replace E : Hid (Below w.heap.size w w4) := E.out.trans (hb.mono E.out.size)
      replace X1 := Lib.hid (X1.out.below hb X1.out.lt)
      replace X2 := Lib.hid (X2.out.below hb X2.out.lt)
      replace M := Lib.hid (M.out.below hb)
      clear hb C0
      have hb : Below w4.heap.size w4 (w4.alloc (.cells #[.int .i64 u0, .int .i64 v0] 27)) := (Below.refl _ _).alloc (Nat.le_refl _) _
      have X4 : Hid (Blk (w4.alloc (.cells #[.int .i64 u0, .int .i64 v0] 27)) w4.heap.size [.int .i64 u0, .int .i64 v0] 27) := Blk.new w4 [.int .i64 u0, .int .i64 v0] _
      replace E : Hid (Below w.heap.size w (w4.alloc (.cells #[.int .i64 u0, .int .i64 v0] 27))) := E.out.trans (hb.mono E.out.size)
      replace X1 := Lib.hid (X1.out.below hb X1.out.lt)
      replace X2 := Lib.hid (X2.out.below hb X2.out.lt)
      replace M := Lib.hid (M.out.below hb)
      clear hb
      have r0 := X4.out.cell (j := 0) rfl
      have r1 := X4.out.cell (j := 1) rfl
      go_wp2_with fail
      clear r0 r1 X4
      go_loopw [7, 8] (fun s7 s8 wr => ∃ lo hi : Nat, lo ≤ hi ∧ hi ≤ 3600000000 ∧ s7 = .int .i64 (lo : Int) ∧ s8 = .int .i64 (hi : Int) ∧ Hid (bndHi rate l (lo : Int) ≤ due) ∧ Hid (∀ j : Nat, hi < j → j < 3600000001 → due < bndHi rate l (j : Int)) ∧ Hid (Below w.heap.size w wr) ∧ Hid (Blk wr w.heap.size [.int .i64 rate, .slice A n c] 24) ∧ Hid (Blk wr (w.heap.size + 1) [.int .i64 0, .int .i64 0] 65) ∧ Hid (ClkM wr B ⟨rate, A, n, c, l⟩)) (fun s7 s8 _ => (intOf s8).toNat - (intOf s7).toNat)
      case atStart => exact ⟨0, 3600000000, by omega, by omega, rfl, rfl, by show _ ≤ _; have := hv0H.out; rw [show ((0 : Nat) : Int) = 0 from rfl, this]; omega, fun j h1 h2 => absurd h1 (by omega), E, X1, X2, M⟩
      case round =>
        clear E X1 X2 M hc hu0H hv0H
        obtain ⟨lo, hi, hlh, hhN, rfl, rfl, hI1, hI2, E, X1, X2, M⟩ := hrel
        by_cases hlt : lo < hi
        · have t : (lo : Int) < (hi : Int) := by omega
          have hw1 : IntKind.i64.wrap ((lo : Int) + hi) = (lo : Int) + hi := by rw [IntKind.wrap_i64]; omega
          have hw2 : IntKind.i64.wrap ((lo : Int) + hi + 1) = (lo : Int) + hi + 1 := by rw [IntKind.wrap_i64]; omega
          obtain ⟨q, hq⟩ : ∃ q : Nat, q = (lo + hi + 1) / 2 := ⟨_, rfl⟩
          have e1 : ((lo : Int) + hi + 1) / 2 = (q : Int) := by omega
          have e2 : ((lo : Int) + hi + 1).tdiv 2 = (q : Int) := by rw [Int.tdiv_eq_ediv_of_nonneg (by omega)]; omega
          have r0 : lo < q ∧ q ≤ hi := by omega
          have hw3 : IntKind.i64.wrap (q : Int) = (q : Int) := by rw [IntKind.wrap_i64]; omega
          have hw4 : IntKind.i64.wrap ((q : Int) - 1) = ((q - 1 : Nat) : Int) := by rw [IntKind.wrap_i64]; omega
          have CQ := Lib.hid (CB.out wr M.out (q : Int) (by omega) (by omega))
          clear hq
          obtain ⟨u, hu⟩ : ∃ u, bndLo rate l (q : Int) = u := ⟨_, rfl⟩
          obtain ⟨v, hv⟩ : ∃ v, bndHi rate l (q : Int) = v := ⟨_, rfl⟩
          rw [hu, hv] at CQ
          have huH := Lib.hid hu
          have hvH := Lib.hid hv
          clear hu hv
          by_cases hd : v ≤ due
          · skip
            go_wp2_with (refine wpList_blk_load rfl 24 _ rfl 0 rfl X1.out [_, _] rfl _ hunc.out rfl hszc.out ?_)
            refine (CQ.out).mono ?_
            rintro e w5 ⟨rfl, hb⟩
            replace E : Hid (Below w.heap.size w w5) := E.out.trans (hb.mono E.out.size)
            replace X1 := Lib.hid (X1.out.below hb X1.out.lt)
            replace X2 := Lib.hid (X2.out.below hb X2.out.lt)
            replace M := Lib.hid (M.out.below hb)
            clear hb CQ
            have hb : Below w5.heap.size w5 (w5.alloc (.cells #[.int .i64 u, .int .i64 v] 27)) := (Below.refl _ _).alloc (Nat.le_refl _) _
            have X4 : Hid (Blk (w5.alloc (.cells #[.int .i64 u, .int .i64 v] 27)) w5.heap.size [.int .i64 u, .int .i64 v] 27) := Blk.new w5 [.int .i64 u, .int .i64 v] _
            replace E : Hid (Below w.heap.size w (w5.alloc (.cells #[.int .i64 u, .int .i64 v] 27))) := E.out.trans (hb.mono E.out.size)
            replace X1 := Lib.hid (X1.out.below hb X1.out.lt)
            replace X2 := Lib.hid (X2.out.below hb X2.out.lt)
            replace M := Lib.hid (M.out.below hb)
            clear hb
            have r0 := X4.out.cell (j := 0) rfl
            have r1 := X4.out.cell (j := 1) rfl
            go_wp2_with fail
            go_roundw
            case rel => exact ⟨q, hi, by omega, hhN, rfl, rfl, by show _ ≤ _; rw [hvH.out]; exact hd, hI2, E, X1, X2, M⟩
            case measure => simp [intOf]; omega
          · skip
            go_wp2_with (refine wpList_blk_load rfl 24 _ rfl 0 rfl X1.out [_, _] rfl _ hunc.out rfl hszc.out ?_)
            refine (CQ.out).mono ?_
            rintro e w5 ⟨rfl, hb⟩
            replace E : Hid (Below w.heap.size w w5) := E.out.trans (hb.mono E.out.size)
            replace X1 := Lib.hid (X1.out.below hb X1.out.lt)
            replace X2 := Lib.hid (X2.out.below hb X2.out.lt)
            replace M := Lib.hid (M.out.below hb)
            clear hb CQ
            have hb : Below w5.heap.size w5 (w5.alloc (.cells #[.int .i64 u, .int .i64 v] 27)) := (Below.refl _ _).alloc (Nat.le_refl _) _
            have X4 : Hid (Blk (w5.alloc (.cells #[.int .i64 u, .int .i64 v] 27)) w5.heap.size [.int .i64 u, .int .i64 v] 27) := Blk.new w5 [.int .i64 u, .int .i64 v] _
            replace E : Hid (Below w.heap.size w (w5.alloc (.cells #[.int .i64 u, .int .i64 v] 27))) := E.out.trans (hb.mono E.out.size)
            replace X1 := Lib.hid (X1.out.below hb X1.out.lt)
            replace X2 := Lib.hid (X2.out.below hb X2.out.lt)
            replace M := Lib.hid (M.out.below hb)
            clear hb
            have r0 := X4.out.cell (j := 0) rfl
            have r1 := X4.out.cell (j := 1) rfl
            go_wp2_with fail
            go_roundw
            case rel => exact ⟨lo, q - 1, by omega, by omega, rfl, by go_num, hI1, (fun j h1 h2 => by have h3 := hhm.out (q : Int) (j : Int) (by omega); rw [hvH.out] at h3; omega), E, X1, X2, M⟩
            case measure => simp [intOf]; omega
        · have t : ¬ (lo : Int) < (hi : Int) := by omega
          obtain rfl : lo = hi := by omega
          go_wp2_with (refine wpList_row_store rfl 65 _ _ rfl [.int .i64 (lo : Int), .int .i64 0] rfl rfl X2.out size_fnd rfl (one2 _ _) ?_; intro w9 hw9 ho9)
          exact bodyPost_ret (ret_blk rfl _ w9 (g := w.heap.size + 1) rfl hw9.out _ hunf.out rfl size_fnd) rfl ⟨(lo : Int), 0, rfl, .inr ⟨hzH.out, lo + 1, ⟨by omega, fun j hj => decide_eq_false (by have h1 := hhm.out (j : Int) (lo : Int) (by omega); have := hI1.out; show ¬ due < _; omega), fun j h1 h2 => decide_eq_true (hI2.out j (by omega) h2)⟩, .inr ⟨by omega, by omega, rfl⟩⟩, E.out.trans (ho9.below (by omega))⟩
  · have tz : (z == 0) = false := by simpa using h
    clear hz
    go_enter Try.func30, Try.ntmps30
    go_upto_region 1 with fail
    generalize hgg : (w.alloc _).alloc _ = Wg
    have hgW : W2 = Wg := by rw [← hgg, hW2'.out]
    clear hgg hW2'
    subst hgW
    go_wp2_with (refine wpList_blk_load rfl 24 _ rfl 0 rfl X1.out [_, _] rfl _ hunc.out rfl hszc.out ?_)
    refine (CC.out _ M.out).mono ?_
    rintro e w3 ⟨rfl, hb⟩
    replace E : Hid (Below w.heap.size w w3) := E.out.trans (hb.mono E.out.size)
    replace X1 := Lib.hid (X1.out.below hb X1.out.lt)
    replace X2 := Lib.hid (X2.out.below hb X2.out.lt)
    replace M := Lib.hid (M.out.below hb)
    clear hb CC
    go_wp2_with (refine wpList_row_store rfl 65 _ _ rfl [.int .i64 0, .int .i64 z] rfl rfl X2.out size_fnd rfl (one2 _ _) ?_; intro w9 hw9 ho9)
    exact bodyPost_ret (ret_blk rfl _ w9 (g := w.heap.size + 1) rfl hw9.out _ hunf.out rfl size_fnd) rfl ⟨0, z, rfl, .inl ⟨by rw [hzH.out]; exact h, rfl, hzH.out.symm⟩, E.out.trans (ho9.below (by omega))⟩

set_option maxRecDepth 100000 in
set_option maxHeartbeats 4000000 in
theorem rEarliest_any {B : Nat} (k : Clk) (due : Int) (w : World) (m : ClkM w B k) :
    Calls Try.prog 31 #[.agg #[.int .i64 k.rate, .slice k.A k.n k.c], .int .i64 due] w fun e w' => ∃ n e', e = .returned (.agg #[.int .i64 n, .int .i64 e']) ∧ EarR k.rate k.l due n e' ∧ Below w.heap.size w w' := by
  rcases k with ⟨rate, A, n, c, l⟩
  dsimp only at *
  obtain ⟨W2, hW2⟩ : ∃ W2, W2 = (w.alloc (.cells #[.int .i64 rate, .slice A n c] 24)).alloc (.cells #[.int .i64 0, .int .i64 0] 65) := ⟨_, rfl⟩
  have E : Hid (Below w.heap.size w W2) := by show Below _ _ _; rw [hW2]; exact ((Below.refl _ _).alloc (Nat.le_refl _) _).alloc (by simp) _
  have X1 : Hid (Blk W2 w.heap.size [.int .i64 rate, .slice A n c] 24) := by show Blk _ _ _ _; rw [hW2]; exact (Blk.new w [_, _] _).alloc _
  have X2 : Hid (Blk W2 (w.heap.size + 1) [.int .i64 0, .int .i64 0] 65) := by show Blk _ _ _ _; rw [hW2]; exact (Blk.new _ [_, _] _).at (by simp)
  have M := Lib.hid (m.below E.out)
  have hW2' := Lib.hid hW2
  clear hW2 m
  have hszc := Lib.hid size_clk
  have hunc : Hid (Try.prog.underlying 24 = _) := Try.underlying24
  have hunf : Hid (Try.prog.underlying 65 = _) := Try.underlying65
  have CC := Lib.hid (fun W (h : ClkM W B ⟨rate, A, n, c, l⟩) => wrong_any _ due W h)
  dsimp only at CC
  obtain ⟨z, hz⟩ : ∃ z, chkA rate l due = z := ⟨_, rfl⟩
  rw [hz] at CC
  have hzH := Lib.hid hz
  by_cases h : z = 0
  · subst h
    obtain ⟨hk, hi⟩ := chkA_ok.1 hz
    obtain ⟨k0, k1, k2, k3, k4⟩ := chk_facts hk
    have CB := Lib.hid (fun W (h : ClkM W B ⟨rate, A, n, c, l⟩) (x : Int) (i0 : 0 ≤ x) (i1 : x ≤ 3600000000) => rBounds_any _ x W h k0 k1 k3 i0 i1)
    dsimp only at CB
    have hlm : Hid (∀ x y : Int, x ≤ y → bndLo rate l x ≤ bndLo rate l y) := fun x y h => bndLo_mono k0 k1 h
    have hhm : Hid (∀ x y : Int, x ≤ y → bndHi rate l x ≤ bndHi rate l y) := fun x y h => bndHi_mono k0 k1 h
    have C0 := Lib.hid (fun W (h : ClkM W B ⟨rate, A, n, c, l⟩) => CB.out W h 3600000000 (by omega) (by omega))
    obtain ⟨u0, hu0⟩ : ∃ u, bndLo rate l 3600000000 = u := ⟨_, rfl⟩
    obtain ⟨v0, hv0⟩ : ∃ v, bndHi rate l 3600000000 = v := ⟨_, rfl⟩
    rw [hu0, hv0] at C0
    have hu0H := Lib.hid hu0
    have hv0H := Lib.hid hv0
    clear hk hi hz k4 k3 hu0 hv0
    by_cases hc : u0 < due
    · skip
      go_enter Try.func31, Try.ntmps31
      go_upto_region 1 with fail
      generalize hgg : (w.alloc _).alloc _ = Wg
      have hgW : W2 = Wg := by rw [← hgg, hW2'.out]
      clear hgg hW2'
      subst hgW
      go_wp2_with (refine wpList_blk_load rfl 24 _ rfl 0 rfl X1.out [_, _] rfl _ hunc.out rfl hszc.out ?_)
      refine (CC.out _ M.out).mono ?_
      rintro e w3 ⟨rfl, hb⟩
      replace E : Hid (Below w.heap.size w w3) := E.out.trans (hb.mono E.out.size)
      replace X1 := Lib.hid (X1.out.below hb X1.out.lt)
      replace X2 := Lib.hid (X2.out.below hb X2.out.lt)
      replace M := Lib.hid (M.out.below hb)
      clear hb CC
      go_wp2_with (refine wpList_blk_load rfl 24 _ rfl 0 rfl X1.out [_, _] rfl _ hunc.out rfl hszc.out ?_)
      refine (C0.out _ M.out).mono ?_
      rintro e w4 ⟨rfl, hb⟩
      replace E : Hid (Below w.heap.size w w4) := E.out.trans (hb.mono E.out.size)
      replace X1 := Lib.hid (X1.out.below hb X1.out.lt)
      replace X2 := Lib.hid (X2.out.below hb X2.out.lt)
      replace M := Lib.hid (M.out.below hb)
      clear hb C0
      have hb : Below w4.heap.size w4 (w4.alloc (.cells #[.int .i64 u0, .int .i64 v0] 27)) := (Below.refl _ _).alloc (Nat.le_refl _) _
      have X4 : Hid (Blk (w4.alloc (.cells #[.int .i64 u0, .int .i64 v0] 27)) w4.heap.size [.int .i64 u0, .int .i64 v0] 27) := Blk.new w4 [.int .i64 u0, .int .i64 v0] _
      replace E : Hid (Below w.heap.size w (w4.alloc (.cells #[.int .i64 u0, .int .i64 v0] 27))) := E.out.trans (hb.mono E.out.size)
      replace X1 := Lib.hid (X1.out.below hb X1.out.lt)
      replace X2 := Lib.hid (X2.out.below hb X2.out.lt)
      replace M := Lib.hid (M.out.below hb)
      clear hb
      have r0 := X4.out.cell (j := 0) rfl
      have r1 := X4.out.cell (j := 1) rfl
      go_wp2_with (refine wpList_row_store rfl 65 _ _ rfl [.int .i64 0, .int .i64 8] rfl rfl X2.out size_fnd rfl (one2 _ _) ?_; intro w9 hw9 ho9)
      exact bodyPost_ret (ret_blk rfl _ w9 (g := w.heap.size + 1) rfl hw9.out _ hunf.out rfl size_fnd) rfl ⟨0, 8, rfl, .inr ⟨hzH.out, 3600000001, ⟨Nat.le_refl _, fun j hj => decide_eq_false (by have h1 := hlm.out j 3600000000 (by omega); rw [hu0H.out] at h1; show ¬ due ≤ _; omega), fun j h1 h2 => absurd h1 (by omega)⟩, .inl ⟨by omega, rfl, rfl⟩⟩, E.out.trans (ho9.below (by omega))⟩
    · skip
      go_enter Try.func31, Try.ntmps31
      go_upto_region 1 with fail
      generalize hgg : (w.alloc _).alloc _ = Wg
      have hgW : W2 = Wg := by rw [← hgg, hW2'.out]
      clear hgg hW2'
      subst hgW
      go_wp2_with (refine wpList_blk_load rfl 24 _ rfl 0 rfl X1.out [_, _] rfl _ hunc.out rfl hszc.out ?_)
      refine (CC.out _ M.out).mono ?_
      rintro e w3 ⟨rfl, hb⟩
      replace E : Hid (Below w.heap.size w w3) := E.out.trans (hb.mono E.out.size)
      replace X1 := Lib.hid (X1.out.below hb X1.out.lt)
      replace X2 := Lib.hid (X2.out.below hb X2.out.lt)
      replace M := Lib.hid (M.out.below hb)
      clear hb CC
      go_wp2_with (refine wpList_blk_load rfl 24 _ rfl 0 rfl X1.out [_, _] rfl _ hunc.out rfl hszc.out ?_)
      refine (C0.out _ M.out).mono ?_
      rintro e w4 ⟨rfl, hb⟩
      replace E : Hid (Below w.heap.size w w4) := E.out.trans (hb.mono E.out.size)
      replace X1 := Lib.hid (X1.out.below hb X1.out.lt)
      replace X2 := Lib.hid (X2.out.below hb X2.out.lt)
      replace M := Lib.hid (M.out.below hb)
      clear hb C0
      have hb : Below w4.heap.size w4 (w4.alloc (.cells #[.int .i64 u0, .int .i64 v0] 27)) := (Below.refl _ _).alloc (Nat.le_refl _) _
      have X4 : Hid (Blk (w4.alloc (.cells #[.int .i64 u0, .int .i64 v0] 27)) w4.heap.size [.int .i64 u0, .int .i64 v0] 27) := Blk.new w4 [.int .i64 u0, .int .i64 v0] _
      replace E : Hid (Below w.heap.size w (w4.alloc (.cells #[.int .i64 u0, .int .i64 v0] 27))) := E.out.trans (hb.mono E.out.size)
      replace X1 := Lib.hid (X1.out.below hb X1.out.lt)
      replace X2 := Lib.hid (X2.out.below hb X2.out.lt)
      replace M := Lib.hid (M.out.below hb)
      clear hb
      have r0 := X4.out.cell (j := 0) rfl
      have r1 := X4.out.cell (j := 1) rfl
      go_wp2_with fail
      clear r0 r1 X4
      go_loopw [7, 8] (fun s7 s8 wr => ∃ lo hi : Nat, lo ≤ hi ∧ hi ≤ 3600000000 ∧ s7 = .int .i64 (lo : Int) ∧ s8 = .int .i64 (hi : Int) ∧ Hid (∀ j : Nat, j < lo → bndLo rate l (j : Int) < due) ∧ Hid (due ≤ bndLo rate l (hi : Int)) ∧ Hid (Below w.heap.size w wr) ∧ Hid (Blk wr w.heap.size [.int .i64 rate, .slice A n c] 24) ∧ Hid (Blk wr (w.heap.size + 1) [.int .i64 0, .int .i64 0] 65) ∧ Hid (ClkM wr B ⟨rate, A, n, c, l⟩)) (fun s7 s8 _ => (intOf s8).toNat - (intOf s7).toNat)
      case atStart => exact ⟨0, 3600000000, by omega, by omega, rfl, rfl, fun j h1 => absurd h1 (by omega), by show _ ≤ _; have := hu0H.out; rw [show ((3600000000 : Nat) : Int) = 3600000000 from rfl, this]; omega, E, X1, X2, M⟩
      case round =>
        clear E X1 X2 M hc hu0H hv0H
        obtain ⟨lo, hi, hlh, hhN, rfl, rfl, hI1, hI2, E, X1, X2, M⟩ := hrel
        by_cases hlt : lo < hi
        · have t : (lo : Int) < (hi : Int) := by omega
          have hw1 : IntKind.i64.wrap ((lo : Int) + hi) = (lo : Int) + hi := by rw [IntKind.wrap_i64]; omega
          obtain ⟨q, hq⟩ : ∃ q : Nat, q = (lo + hi) / 2 := ⟨_, rfl⟩
          have e1 : ((lo : Int) + hi) / 2 = (q : Int) := by omega
          have e2 : ((lo : Int) + hi).tdiv 2 = (q : Int) := by rw [Int.tdiv_eq_ediv_of_nonneg (by omega)]; omega
          have r0 : lo ≤ q ∧ q < hi := by omega
          have hw3 : IntKind.i64.wrap (q : Int) = (q : Int) := by rw [IntKind.wrap_i64]; omega
          have hw4 : IntKind.i64.wrap ((q : Int) + 1) = ((q + 1 : Nat) : Int) := by rw [IntKind.wrap_i64]; omega
          have CQ := Lib.hid (CB.out wr M.out (q : Int) (by omega) (by omega))
          clear hq
          obtain ⟨u, hu⟩ : ∃ u, bndLo rate l (q : Int) = u := ⟨_, rfl⟩
          obtain ⟨v, hv⟩ : ∃ v, bndHi rate l (q : Int) = v := ⟨_, rfl⟩
          rw [hu, hv] at CQ
          have huH := Lib.hid hu
          have hvH := Lib.hid hv
          clear hu hv
          by_cases hd : due ≤ u
          · skip
            go_wp2_with (refine wpList_blk_load rfl 24 _ rfl 0 rfl X1.out [_, _] rfl _ hunc.out rfl hszc.out ?_)
            refine (CQ.out).mono ?_
            rintro e w5 ⟨rfl, hb⟩
            replace E : Hid (Below w.heap.size w w5) := E.out.trans (hb.mono E.out.size)
            replace X1 := Lib.hid (X1.out.below hb X1.out.lt)
            replace X2 := Lib.hid (X2.out.below hb X2.out.lt)
            replace M := Lib.hid (M.out.below hb)
            clear hb CQ
            have hb : Below w5.heap.size w5 (w5.alloc (.cells #[.int .i64 u, .int .i64 v] 27)) := (Below.refl _ _).alloc (Nat.le_refl _) _
            have X4 : Hid (Blk (w5.alloc (.cells #[.int .i64 u, .int .i64 v] 27)) w5.heap.size [.int .i64 u, .int .i64 v] 27) := Blk.new w5 [.int .i64 u, .int .i64 v] _
            replace E : Hid (Below w.heap.size w (w5.alloc (.cells #[.int .i64 u, .int .i64 v] 27))) := E.out.trans (hb.mono E.out.size)
            replace X1 := Lib.hid (X1.out.below hb X1.out.lt)
            replace X2 := Lib.hid (X2.out.below hb X2.out.lt)
            replace M := Lib.hid (M.out.below hb)
            clear hb
            have r0 := X4.out.cell (j := 0) rfl
            have r1 := X4.out.cell (j := 1) rfl
            go_wp2_with fail
            go_roundw
            case rel => exact ⟨lo, q, by omega, by omega, rfl, rfl, hI1, by show _ ≤ _; rw [huH.out]; exact hd, E, X1, X2, M⟩
            case measure => simp [intOf]; omega
          · skip
            go_wp2_with (refine wpList_blk_load rfl 24 _ rfl 0 rfl X1.out [_, _] rfl _ hunc.out rfl hszc.out ?_)
            refine (CQ.out).mono ?_
            rintro e w5 ⟨rfl, hb⟩
            replace E : Hid (Below w.heap.size w w5) := E.out.trans (hb.mono E.out.size)
            replace X1 := Lib.hid (X1.out.below hb X1.out.lt)
            replace X2 := Lib.hid (X2.out.below hb X2.out.lt)
            replace M := Lib.hid (M.out.below hb)
            clear hb CQ
            have hb : Below w5.heap.size w5 (w5.alloc (.cells #[.int .i64 u, .int .i64 v] 27)) := (Below.refl _ _).alloc (Nat.le_refl _) _
            have X4 : Hid (Blk (w5.alloc (.cells #[.int .i64 u, .int .i64 v] 27)) w5.heap.size [.int .i64 u, .int .i64 v] 27) := Blk.new w5 [.int .i64 u, .int .i64 v] _
            replace E : Hid (Below w.heap.size w (w5.alloc (.cells #[.int .i64 u, .int .i64 v] 27))) := E.out.trans (hb.mono E.out.size)
            replace X1 := Lib.hid (X1.out.below hb X1.out.lt)
            replace X2 := Lib.hid (X2.out.below hb X2.out.lt)
            replace M := Lib.hid (M.out.below hb)
            clear hb
            have r0 := X4.out.cell (j := 0) rfl
            have r1 := X4.out.cell (j := 1) rfl
            go_wp2_with fail
            go_roundw
            case rel => exact ⟨q + 1, hi, by omega, hhN, by go_num, rfl, (fun j h1 => by have h3 := hlm.out (j : Int) (q : Int) (by omega); rw [huH.out] at h3; omega), hI2, E, X1, X2, M⟩
            case measure => simp [intOf]; omega
        · have t : ¬ (lo : Int) < (hi : Int) := by omega
          obtain rfl : lo = hi := by omega
          go_wp2_with (refine wpList_row_store rfl 65 _ _ rfl [.int .i64 (lo : Int), .int .i64 0] rfl rfl X2.out size_fnd rfl (one2 _ _) ?_; intro w9 hw9 ho9)
          exact bodyPost_ret (ret_blk rfl _ w9 (g := w.heap.size + 1) rfl hw9.out _ hunf.out rfl size_fnd) rfl ⟨(lo : Int), 0, rfl, .inr ⟨hzH.out, lo, ⟨by omega, fun j hj => decide_eq_false (by have := hI1.out j hj; show ¬ due ≤ _; omega), fun j h1 h2 => decide_eq_true (by have h3 := hlm.out (lo : Int) (j : Int) (by omega); have := hI2.out; show due ≤ _; omega)⟩, .inr ⟨by omega, rfl, rfl⟩⟩, E.out.trans (ho9.below (by omega))⟩
  · have tz : (z == 0) = false := by simpa using h
    clear hz
    go_enter Try.func31, Try.ntmps31
    go_upto_region 1 with fail
    generalize hgg : (w.alloc _).alloc _ = Wg
    have hgW : W2 = Wg := by rw [← hgg, hW2'.out]
    clear hgg hW2'
    subst hgW
    go_wp2_with (refine wpList_blk_load rfl 24 _ rfl 0 rfl X1.out [_, _] rfl _ hunc.out rfl hszc.out ?_)
    refine (CC.out _ M.out).mono ?_
    rintro e w3 ⟨rfl, hb⟩
    replace E : Hid (Below w.heap.size w w3) := E.out.trans (hb.mono E.out.size)
    replace X1 := Lib.hid (X1.out.below hb X1.out.lt)
    replace X2 := Lib.hid (X2.out.below hb X2.out.lt)
    replace M := Lib.hid (M.out.below hb)
    clear hb CC
    go_wp2_with (refine wpList_row_store rfl 65 _ _ rfl [.int .i64 0, .int .i64 z] rfl rfl X2.out size_fnd rfl (one2 _ _) ?_; intro w9 hw9 ho9)
    exact bodyPost_ret (ret_blk rfl _ w9 (g := w.heap.size + 1) rfl hw9.out _ hunf.out rfl size_fnd) rfl ⟨0, z, rfl, .inl ⟨by rw [hzH.out]; exact h, rfl, hzH.out.symm⟩, E.out.trans (ho9.below (by omega))⟩

end Go.Proofs.Ytpdalebnodgcdaa
