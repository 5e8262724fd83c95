/-
  Stage 14 (clock): Valid, isReading, read, passed, Passed, size, allowed, orConflict, when, few. (Written by tools/genuc.py.)
-/
import Derived.Test.YtbkgbjimooobbaaUb
namespace Go.Proofs.Ytbkgbjimooobbaa
set_option linter.unusedVariables false
set_option linter.unusedSimpArgs false
open Go.RowKit
set_option maxRecDepth 100000 in
set_option maxHeartbeats 1000000 in
theorem isReading_any (r : Rdg) (w : World) :
    Calls Try.prog 26 #[.agg #[.int .i64 r.L, .int .i64 r.lo, .int .i64 r.hi]] w fun e w' => e = .returned (.bool (okR r)) ∧ Below w.heap.size w w' := by
  rcases r with ⟨L, a, b⟩
  dsimp only
  unfold okR
  dsimp only
  have hR1 : Hid (Blk (w.alloc (.cells #[.int .i64 L, .int .i64 a, .int .i64 b] 48)) w.heap.size [.int .i64 L, .int .i64 a, .int .i64 b] 48) := Blk.new w [.int .i64 L, .int .i64 a, .int .i64 b] 48
  have hB1 : Hid (Below w.heap.size w (w.alloc (.cells #[.int .i64 L, .int .i64 a, .int .i64 b] 48))) := (Below.refl _ _).alloc (Nat.le_refl _) _
  have p0 := hR1.out.cell (j := 0) rfl
  have hsz := Lib.hid size_whn
  have hun : Hid (Try.prog.underlying 45 = _) := Try.underlying45
  have C0 := Lib.hid (fun W => isInstant_any L W)
  have C1 := Lib.hid (fun W => isRange_any a b W)
  generalize inst L = x at *
  generalize okW a b = y at *
  cases x with
  | false =>
    go_enter Try.func26, Try.ntmps26
    go_wp2_with fail
    refine (C0.out _).mono ?_
    rintro e w' ⟨rfl, rfl⟩
    go_wp2_with fail
    go_ret
    exact ⟨rfl, hB1.out⟩
  | true =>
    go_enter Try.func26, Try.ntmps26
    go_wp2_with fail
    refine (C0.out _).mono ?_
    rintro e w' ⟨rfl, rfl⟩
    go_wp2_with (refine wpList_blk_load rfl 45 _ rfl 1 rfl hR1.out [.int .i64 a, .int .i64 b] rfl _ hun.out rfl hsz.out ?_)
    refine (C1.out _).mono ?_
    rintro e w' ⟨rfl, hb⟩
    go_wp2_with fail
    go_ret
    exact ⟨rfl, hB1.out.trans (hb.mono hB1.out.size)⟩

theorem quo_lo {rate s : Int} (h0 : 0 ≤ rate) (h1 : rate ≤ 100000) (hs : 0 < s) (hm : s ≤ 3600000000) : ((s - 1) * 1000000).tdiv (1000000 + rate) = (s - 1) * 1000000 / (1000000 + rate) := Int.tdiv_eq_ediv_of_nonneg (by omega)
theorem quo_hi {rate s : Int} (h1 : rate ≤ 100000) (hs : 0 ≤ s) : ((s + 1) * 1000000 - 1).tdiv (1000000 - rate) = ((s + 1) * 1000000 - 1) / (1000000 - rate) := Int.tdiv_eq_ediv_of_nonneg (by omega)
theorem quo_hr {rate s : Int} (h1 : rate ≤ 100000) (hs : 0 ≤ s) : ((s + 1) * 1000000).tdiv (1000000 - rate) = (s + 1) * 1000000 / (1000000 - rate) := Int.tdiv_eq_ediv_of_nonneg (by omega)

set_option maxRecDepth 100000 in
set_option maxHeartbeats 1000000 in
theorem passed_any (rate s : Int) (w : World) (h0 : 0 ≤ rate) (h1 : rate ≤ 100000) (hs : 0 ≤ s) (hm : s ≤ 3600000000) :
    Calls Try.prog 23 #[.int .i64 rate, .int .i64 s] w fun e w' => e = .returned (.tuple #[.int .i64 (pLo rate s), .int .i64 (pHi rate s)]) ∧ w' = w := by
  obtain ⟨U, hU⟩ : ∃ U, U = pLo rate s := ⟨_, rfl⟩
  obtain ⟨V, hV⟩ : ∃ V, V = pHi rate s := ⟨_, rfl⟩
  have a1 := pLo_rng h0 h1 hs hm
  have a2 := pHi_rng h0 h1 hs hm
  rw [← hU] at a1 ⊢
  rw [← hV] at a2 ⊢
  have w1 : IntKind.i64.wrap (s + 1) = s + 1 := by rw [IntKind.wrap_i64]; omega
  have w2 : IntKind.i64.wrap ((s + 1) * 1000000) = (s + 1) * 1000000 := by rw [IntKind.wrap_i64]; omega
  have w3 : IntKind.i64.wrap ((s + 1) * 1000000 - 1) = (s + 1) * 1000000 - 1 := by rw [IntKind.wrap_i64]; omega
  have w4 : IntKind.i64.wrap (1000000 - rate) = 1000000 - rate := by rw [IntKind.wrap_i64]; omega
  have w5 : IntKind.i64.wrap V = V := by rw [IntKind.wrap_i64]; omega
  have n4 : ¬ (1000000 - rate = 0) := by omega
  unfold pHi at hV
  have qv := quo_hi (rate := rate) h1 hs
  rw [← hV] at qv
  unfold pLo at hU
  by_cases hp : 0 < s
  · rw [if_pos hp] at hU
    have v1 : IntKind.i64.wrap (s - 1) = s - 1 := by rw [IntKind.wrap_i64]; omega
    have v2 : IntKind.i64.wrap ((s - 1) * 1000000) = (s - 1) * 1000000 := by rw [IntKind.wrap_i64]; omega
    have v4 : IntKind.i64.wrap (1000000 + rate) = 1000000 + rate := by rw [IntKind.wrap_i64]; omega
    have n5 : ¬ (1000000 + rate = 0) := by omega
    have qu := quo_lo h0 h1 hp hm
    obtain ⟨Q, hQ⟩ : ∃ Q, Q = (s - 1) * 1000000 / (1000000 + rate) := ⟨_, rfl⟩
    rw [← hQ] at qu hU
    have v5 : IntKind.i64.wrap Q = Q := by rw [IntKind.wrap_i64]; omega
    have v6 : IntKind.i64.wrap (1 + Q) = U := by rw [IntKind.wrap_i64]; omega
    have qe := hQ.symm
    have qve := hV.symm
    have hU' := Lib.hid hU
    clear hQ hU hV
    go_enter Try.func23, Try.ntmps23
    go_wp2_with fail
    go_ret2
    exact ⟨by rw [hU'.out]; rfl, rfl⟩
  · rw [if_neg hp] at hU
    subst hU
    have qve := hV.symm
    clear hV
    go_enter Try.func23, Try.ntmps23
    go_wp2_with fail
    go_ret2
    exact ⟨rfl, rfl⟩

theorem zmul_wrap {Z rate : Int} (h0 : 0 ≤ Z) (h1 : Z ≤ 7200000003) (r0 : 0 ≤ rate) (r1 : rate ≤ 100000) : IntKind.i64.wrap (Z * (1000000 - rate)) = Z * (1000000 - rate) := by
  have a := Int.mul_nonneg h0 (show 0 ≤ 1000000 - rate by omega)
  have b : Z * (1000000 - rate) ≤ 7200000003 * 1000000 := Int.mul_le_mul h1 (by omega) (by omega) (by omega)
  rw [IntKind.wrap_i64]
  generalize Z * (1000000 - rate) = y at *
  omega

/-- What Passed returns. -/
def paOk (rate s : Int) : Bool := okRate rate && inst s
def paLo (rate s : Int) : Int := if paOk rate s = true then pLo rate s else 0
def paHi (rate s : Int) : Int := if paOk rate s = true then pHi rate s else 0
def paE (rate s : Int) : Int := if paOk rate s = true then 0 else 3
theorem paOk_iff {rate s : Int} : paOk rate s = true ↔ (0 ≤ rate ∧ rate ≤ 100000) ∧ 0 ≤ s ∧ s ≤ 3600000000 := by unfold paOk; rw [Bool.and_eq_true, okRate_iff, inst_iff]
theorem pa_ok {rate s : Int} (h : paOk rate s = true) : paLo rate s = pLo rate s ∧ paHi rate s = pHi rate s ∧ paE rate s = 0 := by
  unfold paLo paHi paE
  rw [if_pos h, if_pos h, if_pos h]
  exact ⟨rfl, rfl, rfl⟩
theorem pa_no {rate s : Int} (h : paOk rate s = false) : paLo rate s = 0 ∧ paHi rate s = 0 ∧ paE rate s = 3 := by
  unfold paLo paHi paE
  rw [if_neg (by rw [h]; simp), if_neg (by rw [h]; simp), if_neg (by rw [h]; simp)]
  exact ⟨rfl, rfl, rfl⟩

set_option maxRecDepth 100000 in
set_option maxHeartbeats 1000000 in
theorem Passed_any (rate s : Int) (w : World) :
    Calls Try.prog 10 #[.int .i64 rate, .int .i64 s] w fun e w' => e = .returned (.tuple #[.int .i64 (paLo rate s), .int .i64 (paHi rate s), .int .i64 (paE rate s)]) ∧ w' = w := by
  have C0 := Lib.hid (isRate_any rate w)
  have C1 := Lib.hid (isInstant_any s w)
  obtain ⟨k, hk⟩ : ∃ k, paOk rate s = k := ⟨_, rfl⟩
  have hk' := hk
  unfold paOk at hk'
  obtain ⟨x, hx⟩ : ∃ x, okRate rate = x := ⟨_, rfl⟩
  obtain ⟨y, hy⟩ : ∃ y, inst s = y := ⟨_, rfl⟩
  rw [hx] at C0 hk'
  rw [hy] at C1 hk'
  clear hx hy
  cases x with
  | false =>
    subst hk'
    obtain ⟨e1, e2, e3⟩ := pa_no hk
    rw [e1, e2, e3]
    clear hk e1 e2 e3
    go_enter Try.func10, Try.ntmps10
    go_wp2_with fail
    refine (C0.out).mono ?_
    rintro e w' ⟨rfl, rfl⟩
    go_wp2_with fail
    go_ret3
    exact ⟨rfl, rfl⟩
  | true =>
    cases y with
    | false =>
      subst hk'
      obtain ⟨e1, e2, e3⟩ := pa_no hk
      rw [e1, e2, e3]
      clear hk e1 e2 e3
      go_enter Try.func10, Try.ntmps10
      go_wp2_with fail
      refine (C0.out).mono ?_
      rintro e w' ⟨rfl, rfl⟩
      go_wp2_with fail
      refine (C1.out).mono ?_
      rintro e w' ⟨rfl, rfl⟩
      go_wp2_with fail
      go_ret3
      exact ⟨rfl, rfl⟩
    | true =>
      subst hk'
      obtain ⟨e1, e2, e3⟩ := pa_ok hk
      rw [e1, e2, e3]
      obtain ⟨⟨r0, r1⟩, s0, s1⟩ := paOk_iff.1 hk
      have CP := Lib.hid (passed_any rate s w r0 r1 s0 s1)
      generalize pLo rate s = U at *
      generalize pHi rate s = V at *
      clear hk e1 e2 e3
      go_enter Try.func10, Try.ntmps10
      go_wp2_with fail
      refine (C0.out).mono ?_
      rintro e w' ⟨rfl, rfl⟩
      go_wp2_with fail
      refine (C1.out).mono ?_
      rintro e w' ⟨rfl, rfl⟩
      go_wp2_with fail
      refine (CP.out).mono ?_
      rintro e w' ⟨rfl, rfl⟩
      go_wp2_with fail
      go_ret3
      exact ⟨rfl, rfl⟩

theorem one3 (a b c : Int) : ∀ u ∈ [Value.int .i64 a, .int .i64 b, .int .i64 c], u.oneCell' = true := by
  intro u hu
  simp only [List.mem_cons, List.not_mem_nil, or_false] at hu
  rcases hu with rfl | rfl | rfl <;> rfl
theorem one2 (a b : Int) : ∀ u ∈ [Value.int .i64 a, .int .i64 b], u.oneCell' = true := by
  intro u hu
  simp only [List.mem_cons, List.not_mem_nil, or_false] at hu
  rcases hu with rfl | rfl <;> rfl
theorem ret_cellK {P : Program} {fn : Func} {p q : Tmp} {ty : TypeId} (hr : fn.results = #[.cell p ty, .tmp q]) (tmps : Array Value) (w : World) {g : Nat} {L : List Value} {t : TypeId} (v : Value) (hp : tmps.getD p undef = .pointer (some ⟨g, 0, none⟩)) (hq : tmps.getD q undef = v) (hb : Blk w g L t)
    (d : TypeDesc) (hu : P.underlying ty = some d) (hd : d.isRow = true) (hi : (P.info? ty).map (·.size) = some L.length) : (results fn tmps).run P w = .ok (.tuple #[.agg L.toArray, v]) w := by
  have hv := run_loadVar_mid (P := P) w g 0 ty L d (hb.range 0 L (by simp)) hu hd hi
  have hp' : tmps[p]?.getD undef = .pointer (some ⟨g, 0, none⟩) := by simpa using hp
  have hq' : tmps[q]?.getD undef = v := by simpa using hq
  simp [results, hr, hp', hq', asAddr, hv]

end Go.Proofs.Ytbkgbjimooobbaa
