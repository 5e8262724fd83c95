/-
  Stage 14 (clock): the beginning of a run. (Written by tools/genuza.py.)
-/
import Derived.Test.YtbkgbjimooobbaaUz
namespace Go.Proofs.Ytbkgbjimooobbaa
set_option linter.unusedVariables false
set_option linter.unusedSimpArgs false
open Go.RowKit
attribute [local irreducible] wpPlanM
theorem size_mom : (Try.prog.info? 32).map (·.size) = some 4 := by kernel_rfl
theorem oneM (a b c : Int) (A : Option Addr) (n m : Nat) : ∀ u ∈ [Value.int .i64 a, .int .i64 b, .int .i64 c, .slice A n m], u.oneCell' = true := by
  intro u hu
  simp only [List.mem_cons, List.not_mem_nil, or_false] at hu
  rcases hu with rfl | rfl | rfl | rfl <;> rfl
/-- A run begins with what is known: nothing. -/
theorem RunK.begin {rate V : Int} (k0 : 0 ≤ rate) (k1 : rate ≤ 100000) (v0 : 0 ≤ V) (v1 : V ≤ 14285714286) : RunK rate 0 V [] :=
  ⟨chkK_ok.2 ⟨okRate_iff.2 ⟨k0, k1⟩, Nat.zero_le _, trivial⟩, Int.le_refl _, by omega, v0, by omega, fun r hr => by cases hr⟩

set_option maxRecDepth 100000 in
set_option maxHeartbeats 4000000 in
theorem begun_any (a b : Int) (A : Option Addr) (n c : Nat) (w : World) (a0 : 0 ≤ a) (a1 : a ≤ 4294967295) (b0 : 0 ≤ b) (b1 : b ≤ 4294967295) :
    Calls Try.prog 5 #[.agg #[.int .u32 a, .int .u32 b, .slice A n c]] w fun e w' => e = .returned (.agg #[.int .i64 0, .int .i64 (b % 100000 * 1000000 / 7), .int .i64 (a % 100001), .slice none 0 0]) ∧ Below w.heap.size w w' := by
  obtain ⟨p, hp⟩ : ∃ p, p = a % 100001 := ⟨_, rfl⟩
  obtain ⟨q, hq⟩ : ∃ q, q = b % 100000 := ⟨_, rfl⟩
  obtain ⟨V, hV⟩ : ∃ V, V = q * 1000000 / 7 := ⟨_, rfl⟩
  rw [← hp, ← hq, ← hV]
  have ep := hp.symm
  have eq := hq.symm
  have eV := hV.symm
  have ep2 : a.tmod 100001 = p := by rw [Int.tmod_eq_emod_of_nonneg a0]; exact ep
  have eq2 : b.tmod 100000 = q := by rw [Int.tmod_eq_emod_of_nonneg b0]; exact eq
  have eV2 : (q * 1000000).tdiv 7 = V := by rw [Int.tdiv_eq_ediv_of_nonneg (by omega)]; exact eV
  have wa : IntKind.i64.wrap a = a := by rw [IntKind.wrap_i64]; omega
  have wb : IntKind.i64.wrap b = b := by rw [IntKind.wrap_i64]; omega
  have wq : IntKind.i64.wrap (q * 1000000) = q * 1000000 := by rw [IntKind.wrap_i64]; omega
  obtain ⟨W2, hW2⟩ : ∃ W2, W2 = (w.alloc (.cells #[.int .u32 a, .int .u32 b, .slice A n c] 25)).alloc (.cells #[.int .i64 0, .int .i64 0, .int .i64 0, .slice none 0 0] 32) := ⟨_, rfl⟩
  have E : Hid (Below w.heap.size w W2) := by show Below _ _ _; rw [hW2]; exact ((Below.refl _ _).alloc (Nat.le_refl _) _).alloc (by simp) _
  have X1 : Hid (Blk W2 w.heap.size [.int .u32 a, .int .u32 b, .slice A n c] 25) := by show Blk _ _ _ _; rw [hW2]; exact (Blk.new w [_, _, _] _).alloc _
  have X2 : Hid (Blk W2 (w.heap.size + 1) [.int .i64 0, .int .i64 0, .int .i64 0, .slice none 0 0] 32) := by show Blk _ _ _ _; rw [hW2]; exact (Blk.new _ [_, _, _, _] _).at (by simp)
  have hW2' := Lib.hid hW2
  clear hW2 hp hq hV
  have hunm : Hid (Try.prog.underlying 32 = _) := Try.underlying32
  have q0 := X1.out.cell (j := 0) rfl
  have q1 := X1.out.cell (j := 1) rfl
  go_enter Try.func5, Try.ntmps5
  go_upto_region 1 with fail
  generalize hgg : (w.alloc _).alloc _ = Wg
  have hgW : W2 = Wg := by rw [← hgg, hW2'.out]
  clear hgg hW2'
  subst hgW
  go_wp2_with (refine wpList_row_store rfl 32 _ _ rfl [.int .i64 0, .int .i64 V, .int .i64 p, .slice none 0 0] rfl rfl X2.out size_mom rfl (oneM _ _ _ _ _ _) ?_; intro w9 hw9 ho9)
  exact bodyPost_ret (ret_blk rfl _ w9 (g := w.heap.size + 1) rfl hw9.out _ hunm.out rfl size_mom) rfl ⟨rfl, E.out.trans (ho9.below (by omega))⟩

end Go.Proofs.Ytbkgbjimooobbaa
