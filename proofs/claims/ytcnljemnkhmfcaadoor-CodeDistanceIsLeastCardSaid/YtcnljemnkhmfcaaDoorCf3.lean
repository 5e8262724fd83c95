/-
  Stage 7: the contract of the reference's Distance; what CodeDistanceIsLeast says, by maths. Stage 7: the walk of CodeDistanceIsLeast. (Written by tools/gencfh.py.).
-/
import Derived.Test.YtcnljemnkhmfcaaDoorCf2
import Derived.Test.YtcnljemnkhmfcaaDoorCe7
namespace Go.Proofs.YtcnljemnkhmfcaaDoor
set_option linter.unusedVariables false
set_option linter.unusedSimpArgs false
open Go.RowKit

theorem cnt7_left : ∀ (N y : Nat), y < 2 ^ N → cnt7 (2 ^ N - (y + 1)) + cnt7 y = N
  | 0, y, h => by
    obtain rfl : y = 0 := by simpa using h
    show cnt7 0 + cnt7 0 = 0
    rw [cnt7_zero]
  | N + 1, y, h => by
    have hp : 2 ^ (N + 1) = 2 * 2 ^ N := by rw [Nat.pow_succ, Nat.mul_comm]
    rw [hp] at h ⊢
    generalize hP : 2 ^ N = PP at h ⊢
    obtain ⟨q, hq | hq⟩ := half7 y
    · subst hq
      have ih := cnt7_left N q (by rw [hP]; omega)
      rw [hP] at ih
      rw [show 2 * PP - (2 * q + 1) = 2 * (PP - (q + 1)) + 1 by omega, cnt7_odd, cnt7_even]
      omega
    · subst hq
      have ih := cnt7_left N q (by rw [hP]; omega)
      rw [hP] at ih
      rw [show 2 * PP - (2 * q + 1 + 1) = 2 * (PP - (q + 1)) by omega, cnt7_odd, cnt7_even]
      omega
theorem lef7_lt {N y : Nat} (h : y < 2 ^ N) : lef7 N y < 2 ^ N ∧ lef7 N (lef7 N y) = y ∧ cnt7 (lef7 N y) + cnt7 y = N := by
  unfold lef7
  refine ⟨by omega, by omega, cnt7_left N y h⟩
/-- With all pieces everything is there. -/
theorem full_all {D N : Nat} {Gs : List (List Int)} (h : D ≤ N) : Full7 (pcL D Gs (lef7 N 0) N) D := fun x hx k hk => by
  have h2 : (lef7 N 0).testBit k = true := by
    unfold lef7
    rw [Nat.testBit_two_pow_sub_succ (Nat.two_pow_pos N), decide_eq_true (by omega : k < N), Nat.zero_testBit]; rfl
  have := hx _ (pcL_mem.2 ⟨k, by omega, h2, rfl⟩)
  rw [unit_dot hk] at this
  exact this
/-- The least loss so far. -/
def DisP (D N : Nat) (Gs : List (List Int)) (m l : Nat) : Prop := l ≤ N ∧ (∀ y, y < m → ¬ Full7 (pcL D Gs y N) D → l ≤ N - cnt7 y) ∧ (l = N ∨ ∃ y, y < m ∧ ¬ Full7 (pcL D Gs y N) D ∧ l = N - cnt7 y)
theorem disP_zero (D N : Nat) (Gs : List (List Int)) : DisP D N Gs 0 N := ⟨Nat.le_refl _, fun y hy => by omega, .inl rfl⟩
theorem disP_keep {D N m l : Nat} {Gs : List (List Int)} (h : DisP D N Gs m l) (hm : ¬ Full7 (pcL D Gs m N) D → l ≤ N - cnt7 m) : DisP D N Gs (m + 1) l := by
  refine ⟨h.1, fun y hy hf => ?_, ?_⟩
  · by_cases e : y = m
    · subst e; exact hm hf
    · exact h.2.1 y (by omega) hf
  · rcases h.2.2 with h | ⟨y, h1, h2⟩
    · exact .inl h
    · exact .inr ⟨y, by omega, h2⟩
theorem disP_new {D N m l : Nat} {Gs : List (List Int)} (h : DisP D N Gs m l) (hm : ¬ Full7 (pcL D Gs m N) D) (hl : N - cnt7 m < l) : DisP D N Gs (m + 1) (N - cnt7 m) := by
  refine ⟨by omega, fun y hy hf => ?_, .inr ⟨m, by omega, hm, rfl⟩⟩
  by_cases e : y = m
  · subst e; omega
  · have := h.2.1 y (by omega) hf; omega
theorem dis_same {D N d l : Nat} {Gs : List (List Int)} (hD : D ≤ N) (h : DisR D N Gs d) (h2 : DisP D N Gs (2 ^ N) l) : d = l := by
  refine Nat.le_antisymm ?_ ?_
  · rcases h2.2.2 with e | ⟨y, hy, hf, e⟩
    · have := h.2.1; omega
    · obtain ⟨a1, a2, a3⟩ := lef7_lt hy
      refine Nat.le_of_not_lt fun hl => hf ?_
      rw [← a2]
      rcases Nat.eq_zero_or_pos (lef7 N y) with h0 | h0
      · rw [h0]; exact full_all hD
      · exact h.1 _ h0 a1 (by omega)
  · rcases h.2.2 with e | ⟨y, hy0, hy, hc, hf⟩
    · have := h2.1; omega
    · obtain ⟨a1, a2, a3⟩ := lef7_lt hy
      have := h2.2.1 _ a1 hf
      omega
theorem rk7_rows : ∀ m a (l : List (List UInt8)), rk7 m a l ≤ l.length
  | 0, a, l => Nat.zero_le _
  | m + 1, a, l => by
    rw [rk7]
    cases hf : l.findIdx? (fun r => r.getD a 0 != 0) with
    | none => exact rk7_rows m (a + 1) l
    | some p =>
      have hp : p < l.length := by
        obtain ⟨h, _⟩ := List.findIdx?_eq_some_iff_getElem.1 hf
        exact h
      have := rk7_rows m (a + 1) (lessL l p a)
      have hl : (lessL l p a).length = l.length - 1 := by
        unfold lessL
        rw [List.length_map, List.length_eraseIdx_of_lt hp]
      show rk7 m (a + 1) (lessL l p a) + 1 ≤ _
      omega
theorem pcL_cnt (D : Nat) (Gs : List (List Int)) (s : Nat) : ∀ N, (pcL D Gs s N).length = cnt7 (s % 2 ^ N)
  | 0 => by rw [Nat.pow_zero, Nat.mod_one, cnt7_zero]; rfl
  | N + 1 => by
    have e : s % 2 ^ (N + 1) = 2 ^ N * (if s.testBit N then 1 else 0) + s % 2 ^ N := by
      have h1 := Nat.div_add_mod s (2 ^ N)
      have h2 := Nat.div_add_mod s (2 ^ (N + 1))
      have hp : 2 ^ (N + 1) = 2 ^ N * 2 := Nat.pow_succ ..
      rw [hp, Nat.mod_mul]
      rw [Nat.testBit_eq_decide_div_mod_eq]
      obtain h | h : s / 2 ^ N % 2 = 0 ∨ s / 2 ^ N % 2 = 1 := by omega
      · rw [h]; simp
      · rw [h]; simp; omega
    rw [e, cnt7_split N _ _ (Nat.mod_lt _ (Nat.two_pow_pos N)), ← pcL_cnt D Gs s N]
    cases hb : s.testBit N with
    | false => rw [pcL_no hb]; simp [cnt7_zero]
    | true => rw [pcL_yes hb, List.length_append]; rw [if_pos rfl, cnt7_odd 0, cnt7_zero]; simp [Nat.add_comm]
/-- A recoverable set has at least as many pieces as there is data. -/
theorem full_size {D N s : Nat} {Gs : List (List Int)} (hs : s < 2 ^ N) (h : Full7 (pcL D Gs s N) D) : D ≤ cnt7 s := by
  have h1 := full_rk.1 h
  have h2 := rk7_rows D 0 (pcL D Gs s N)
  rw [pcL_cnt, Nat.mod_eq_of_lt hs] at h2
  omega
/-- What is lost of a set that is less than the distance is recoverable. -/
theorem full_few {D N s d : Nat} {Gs : List (List Int)} (hD : D ≤ N) (hs : s < 2 ^ N) (h : DisR D N Gs d) (hc : N - cnt7 s < d) : Full7 (pcL D Gs s N) D := by
  obtain ⟨a1, a2, a3⟩ := lef7_lt hs
  rw [← a2]
  rcases Nat.eq_zero_or_pos (lef7 N s) with h0 | h0
  · rw [h0]; exact full_all hD
  · exact h.1 _ h0 a1 (by omega)
theorem full_more {D N s k : Nat} {Gs : List (List Int)} (h : Full7 (pcL D Gs s N) D) : Full7 (pcL D Gs (s ||| 1 <<< k) N) D :=
  full_mono h fun j _ hj => by rw [or_bitb, hj]; rfl

set_option maxRecDepth 100000 in
set_option maxHeartbeats 8000000 in
theorem refDistance7_any {B : Nat} (d g : Nat) (Gs : List (List Int)) (n c N : Nat) (A : Option Addr) (w : World) (hM : CodM w B (d : Int) A n c (g : Int) Gs) (hsh : ∀ g ∈ Gs, g.length ≤ 1000000) (h0 : chkE (d : Int) Gs (g : Int) = 0) (hN : d + (Gs.length + g) = N) (hN24 : N ≤ 24) :
    Calls Tryd.prog 28 #[cdv (d : Int) A n c (g : Int)] w fun e w' => (∃ l : Nat, e = .returned (.int .i64 (l : Int)) ∧ DisP d N Gs (2 ^ N) l) ∧ Below w.heap.size w w' := by
  obtain ⟨W1, hW1⟩ : ∃ W1, W1 = w.alloc (.cells #[.int .i64 d, .slice A n c, .int .i64 g] 24) := ⟨_, rfl⟩
  have hB1 : Hid (Below w.heap.size w W1) := by show Below _ _ _; rw [hW1]; exact (Below.refl _ _).alloc (Nat.le_refl _) _
  have hR1 : Hid (Blk W1 w.heap.size [.int .i64 d, .slice A n c, .int .i64 g] 24) := by show Blk _ _ _ _; rw [hW1]; exact Blk.new _ [_, _, _] _
  have hM' := Lib.hid (hM.keep hB1.out)
  have hdd := Lib.hid size_cod
  have hun : Hid (Tryd.prog.underlying 24 = _) := Tryd.underlying24
  have CP : Hid (∀ W, CodM W B (d : Int) A n c (g : Int) Gs → Calls Tryd.prog 16 #[cdv (d : Int) A n c (g : Int)] W fun e w' => e = .returned (.int .i64 (N : Int)) ∧ Below W.heap.size W w') := fun W m => by
    have := refPieces7_any (d : Int) (g : Int) Gs n c A W m hsh
    rw [pcs_nat h0 hN] at this
    exact this
  have CR : Hid (∀ W (t : Nat), t < 2 ^ N → CodM W B (d : Int) A n c (g : Int) Gs → Calls Tryd.prog 25 #[cdv (d : Int) A n c (g : Int), .int .i64 (t : Int)] W (SayEnd W (Full7 (pcL d Gs t N) d))) := fun W t ht m => by
    have e2 : ((2 ^ N : Nat) : Int) = (2 : Int) ^ N := by rw [Int.natCast_pow]; rfl
    refine (refRecoverable7_any (d : Int) (g : Int) (t : Int) Gs n c A W m hsh).mono ?_
    rintro e w' ⟨⟨b, rfl, hb⟩, h⟩
    refine ⟨⟨b, rfl, ?_⟩, h⟩
    rw [hb]
    unfold RecP
    rw [Int.toNat_natCast, Int.toNat_natCast, Int.toNat_natCast, Nat.add_assoc, hN, ← e2]
    exact ⟨fun h => h.2.2.2, fun h => ⟨h0, Int.natCast_nonneg _, Int.ofNat_lt.2 ht, h⟩⟩
  have hw1 := Lib.hid hW1
  have p0 := hR1.out.cell (j := 0) rfl
  have p1 := hR1.out.cell (j := 1) rfl
  have p2 := hR1.out.cell (j := 2) rfl
  rw [hW1] at p0 p1 p2
  obtain ⟨PP, hPP⟩ : ∃ PP, PP = 2 ^ N := ⟨_, rfl⟩
  have CB := Lib.hid fun W => bit07_any N W (by omega)
  rw [← hPP] at CB
  have hPl : PP ≤ 16777216 := by rw [hPP]; exact two24n hN24
  have hPH := Lib.hid hPP
  have hd0 : Hid (DisP d N Gs 0 N) := disP_zero d N Gs
  clear hM hsh hW1 h0 hN hPP
  rw [← hPH.out] at CR ⊢
  unfold cdv at CP CR ⊢
  go_enter Tryd.func28, Tryd.ntmps28
  go_wp2_with fail
  generalize hg : w.alloc _ = Wg at p0 p1 p2 ⊢
  have hgW : W1 = Wg := by rw [← hg, hw1.out]
  clear hg hw1
  subst hgW
  refine (CP.out _ hM'.out).mono ?_
  rintro e v1 ⟨rfl, hb⟩
  have hB2 := Lib.hid (hB1.out.trans (hb.mono hB1.out.size))
  have hR2 := Lib.hid (hR1.out.below hb hR1.out.lt)
  have hM2 := Lib.hid (hM'.out.keep hb)
  have hb0 : Hid (Below v1.heap.size v1 v1) := Below.refl _ _
  clear hb p0 p1 p2 hB1 hR1 hM'
  go_wp2_with fail
  go_loopw [3, 4] (fun v x wr => ∃ m l : Nat, m ≤ PP ∧ x = .int .i64 m ∧ v = .int .i64 l ∧ l ≤ N ∧ Hid (DisP d N Gs m l) ∧ Hid (Below v1.heap.size v1 wr)) (fun _ x _ => PP - (intOf x).toNat)
  case atStart => exact ⟨0, N, by omega, rfl, rfl, Nat.le_refl _, hd0, hb0⟩
  case round =>
    obtain ⟨m, l, hm, rfl, rfl, hlN, hD, hbw⟩ := hrel
    clear hd0 hb0
    have hB3 := Lib.hid (hB2.out.trans (hbw.out.mono hB2.out.size))
    have hR3 := Lib.hid (hR2.out.below hbw.out hR2.out.lt)
    have hM3 := Lib.hid (hM2.out.keep hbw.out)
    have p0 := hR3.out.cell (j := 0) rfl
    have p1 := hR3.out.cell (j := 1) rfl
    have p2 := hR3.out.cell (j := 2) rfl
    go_wp2_with fail
    refine (CP.out _ hM3.out).mono ?_
    rintro e v2 ⟨rfl, hb⟩
    have hB4 := Lib.hid (hB3.out.trans (hb.mono hB3.out.size))
    have hR4 := Lib.hid (hR3.out.below hb hR3.out.lt)
    have hM4 := Lib.hid (hM3.out.keep hb)
    have hb4 := Lib.hid (hbw.out.trans (hb.mono hbw.out.size))
    clear hb p0 p1 p2 hB3 hR3 hM3 hbw
    have p0 := hR4.out.cell (j := 0) rfl
    have p1 := hR4.out.cell (j := 1) rfl
    have p2 := hR4.out.cell (j := 2) rfl
    go_wp2_with fail
    refine (CB.out _).mono ?_
    rintro e v3 ⟨rfl, rfl⟩
    by_cases hmP : m < PP
    rotate_left
    · have tm : ¬ (m : Int) < (PP : Int) := by omega
      obtain rfl : m = PP := by omega
      clear hmP
      go_wp2_with fail
      go_ret
      exact ⟨⟨l, rfl, hD.out⟩, hB4.out⟩
    have tm : (m : Int) < (PP : Int) := by omega
    go_wp2_with fail
    refine (CP.out _ hM4.out).mono ?_
    rintro e v4 ⟨rfl, hb⟩
    have hB5 := Lib.hid (hB4.out.trans (hb.mono hB4.out.size))
    have hR5 := Lib.hid (hR4.out.below hb hR4.out.lt)
    have hM5 := Lib.hid (hM4.out.keep hb)
    have hb5 := Lib.hid (hb4.out.trans (hb.mono hb4.out.size))
    clear hb p0 p1 p2 hB4 hR4 hM4 hb4
    have p0 := hR5.out.cell (j := 0) rfl
    have p1 := hR5.out.cell (j := 1) rfl
    have p2 := hR5.out.cell (j := 2) rfl
    have hcN : Hid (cnt7 m ≤ N) := (cnt7_high N m (by rw [← hPH.out]; exact hmP)).1
    obtain ⟨lo, hlo⟩ : ∃ q, q = N - cnt7 m := ⟨_, rfl⟩
    have hloH := Lib.hid hlo
    obtain ⟨ct, hct⟩ : ∃ q, q = cnt7 m := ⟨_, rfl⟩
    have CC := count07_any m v4 (by omega)
    rw [← hct] at CC
    have hsub : wrap64 ((N : Int) - (ct : Int)) = (lo : Int) := by
      have h1 := hcN.out
      rw [← hct] at h1
      rw [show (N : Int) - (ct : Int) = (lo : Int) by omega]
      unfold wrap64; omega
    have hsub2 : (N : Int) - (ct : Int) = (lo : Int) := by have h1 := hcN.out; omega
    have hloN : lo ≤ N := by omega
    clear hlo hct
    go_wp2_with fail
    refine CC.mono ?_
    rintro e v5 ⟨rfl, rfl⟩
    by_cases hll : lo < l
    rotate_left
    · have tl : ¬ (lo : Int) < (l : Int) := by omega
      have hD2 : Hid (DisP d N Gs (m + 1) l) := disP_keep hD.out fun _ => by rw [← hloH.out]; omega
      clear hll CC
      go_wp2_with fail
      go_roundw
      case rel => exact ⟨m + 1, l, by omega, by go_num, rfl, hlN, hD2, hb5⟩
      case measure => simp [intOf]; omega
    have tl : (lo : Int) < (l : Int) := by omega
    clear CC
    go_wp2_with fail
    refine (CR.out _ m hmP hM5.out).mono ?_
    rintro e v6 ⟨⟨b, rfl, hbq⟩, hb⟩
    have hb6 := Lib.hid (hb5.out.trans (hb.mono hb5.out.size))
    clear hb p0 p1 p2
    cases b with
    | true =>
      have hD2 : Hid (DisP d N Gs (m + 1) l) := disP_keep hD.out fun h => absurd (hbq.1 rfl) h
      clear hbq hll
      go_wp2_with fail
      go_roundw
      case rel => exact ⟨m + 1, l, by omega, by go_num, rfl, hlN, hD2, hb6⟩
      case measure => simp [intOf]; omega
    | false =>
      have hD2 : Hid (DisP d N Gs (m + 1) lo) := by
        show DisP _ _ _ _ _
        rw [hloH.out]
        exact disP_new hD.out (fun h => by have := hbq.2 h; cases this) (by rw [← hloH.out]; exact hll)
      clear hbq hll
      go_wp2_with fail
      go_roundw
      case rel => exact ⟨m + 1, lo, by omega, by go_num, rfl, hloN, hD2, hb6⟩
      case measure => simp [intOf]; omega
end Go.Proofs.YtcnljemnkhmfcaaDoor

namespace Go.Proofs.YtcnljemnkhmfcaaDoor
set_option linter.unusedVariables false
set_option linter.unusedSimpArgs false
open Go.RowKit

theorem or_facts {s k N : Nat} (hs : s < 2 ^ N) (hk : k < N) (hN : N ≤ 24) : ∃ PP : Nat, wrap64 ((2 : Int) ^ k) = (PP : Int) ∧ IntKind.i64.wrap ((2 : Int) ^ k) = (PP : Int) ∧ bits BinOp.or IntKind.i64 (s : Int) (PP : Int) = ((s ||| 1 <<< k : Nat) : Int) ∧ s ||| 1 <<< k < 2 ^ N := by
  obtain ⟨PP, hPP, _, hP2, hP1, hPw⟩ := pp_facts (N := k) (by omega)
  have h24 := two24n hN
  refine ⟨PP, hP1, hPw, ?_, ?_⟩
  · rw [i64_or s PP (by omega) (by omega), Nat.one_shiftLeft, hPP]
  · rw [Nat.one_shiftLeft]
    exact Nat.or_lt_two_pow hs (Nat.pow_lt_pow_right (by decide) hk)
theorem wrap_u8b {a : Nat} (h : a < 256) : IntKind.i64.wrap (a : Int) = (a : Int) := by rw [IntKind.wrap_i64]; omega
theorem sub_cnt {N ct : Nat} (h : ct ≤ N) (hN : N ≤ 24) : ∃ lo : Nat, lo = N - ct ∧ wrap64 ((N : Int) - (ct : Int)) = (lo : Int) ∧ (N : Int) - (ct : Int) = (lo : Int) ∧ lo ≤ 24 := by
  obtain ⟨lo, hlo⟩ : ∃ lo, lo = N - ct := ⟨_, rfl⟩
  have e : (N : Int) - (ct : Int) = (lo : Int) := by omega
  refine ⟨lo, hlo, ?_, e, by omega⟩
  rw [e]; unfold wrap64; omega

set_option maxRecDepth 100000 in
set_option maxHeartbeats 16000000 in
theorem least_walk (D : Int) (A : Option Addr) (n c : Nat) (G : Int) (Gs : List (List Int)) (mk : Int) (pc : Nat) (w : World) (hM : CodM w w.heap.size D A n c G Gs) (hmk : -9223372036854775808 ≤ mk ∧ mk ≤ 9223372036854775807) (hpc : pc < 256) (ht : PTab 0 w):
    Calls Tryd.prog 5 #[cdv D A n c G, .int .i64 mk, .int .u8 pc] w fun e w' => e = .returned (.bool true) ∧ Below w.heap.size w w' := by
  have hdd := Lib.hid size_cod
  have hun : Hid (Tryd.prog.underlying 24 = _) := Tryd.underlying24
  obtain ⟨W1, hW1⟩ : ∃ W1, W1 = w.alloc (.cells #[.int .i64 D, .slice A n c, .int .i64 G] 24) := ⟨_, rfl⟩
  have E : Hid (Below w.heap.size w W1) := by show Below _ _ _; rw [hW1]; exact (Below.refl _ _).alloc (Nat.le_refl _) _
  have X : Hid (Blk W1 w.heap.size [.int .i64 D, .slice A n c, .int .i64 G] 24) := by show Blk _ _ _ _; rw [hW1]; exact Blk.new _ [_, _, _] _
  have M := Lib.hid (hM.keep E.out)
  have T := Lib.hid (ht.on E.out)
  have hlen : Hid (n = Gs.length) := hM.len
  have hW' := Lib.hid hW1
  obtain ⟨Ck, hCk⟩ : ∃ x, x = chkE D Gs G := ⟨_, rfl⟩
  have hCkH := Lib.hid hCk
  have hsmall : n ≤ 140737488355328 := hM.small
  have CF := few07_any D G 10 n c Gs A W1 M.out
  rw [hW1] at CF
  clear hM ht hCk hW1 hmk
  unfold cdv at CF ⊢
  have p0 := X.out.cell (j := 0) rfl
  have p1 := X.out.cell (j := 1) rfl
  have p2 := X.out.cell (j := 2) rfl
  rw [hW'.out] at p0 p1 p2
  go_enter Tryd.func5, Tryd.ntmps5
  go_wp2_with fail
  refine CF.mono ?_
  rintro e w2 ⟨⟨b, rfl, hbf⟩, hb⟩
  have hb : Below W1.heap.size W1 w2 := by rw [hW'.out]; exact hb
  have hbfH := Lib.hid hbf
  clear CF hbf hW'
  clear p0 p1 p2
  replace E : Hid (Below w.heap.size w w2) := E.out.trans (hb.mono E.out.size)
  replace M := Lib.hid (M.out.keep hb)
  replace T := Lib.hid (T.out.on hb)
  replace X := Lib.hid (X.out.below hb X.out.lt)
  clear hb
  have p0 := X.out.cell (j := 0) rfl
  have p1 := X.out.cell (j := 1) rfl
  have p2 := X.out.cell (j := 2) rfl
  cases b with
  | false =>
    go_wp2_with fail
    refine (sanity_any7 _ T.out).mono ?_
    rintro e w3 ⟨rfl, hb⟩
    clear p0 p1 p2
    replace E : Hid (Below w.heap.size w w3) := E.out.trans (hb.mono E.out.size)
    replace M := Lib.hid (M.out.keep hb)
    replace T := Lib.hid (T.out.on hb)
    replace X := Lib.hid (X.out.below hb X.out.lt)
    clear hb
    have p0 := X.out.cell (j := 0) rfl
    have p1 := X.out.cell (j := 1) rfl
    have p2 := X.out.cell (j := 2) rfl
    go_wp2_with fail
    go_ret
    exact ⟨by first | rfl | (go_simp; done), E.out⟩
  | true =>
    have hF := hbfH.out.1 rfl
    have hshH : Hid (∀ g ∈ Gs, g.length ≤ 1000000) := fun g hg => by have := hF.2 g hg; omega
    have hn10 : n ≤ 10 := by have := hF.1; have := hlen.out; omega
    clear hF hbfH
    have CP : Hid (∀ W, CodM W w.heap.size D A n c G Gs → Calls Tryd.prog 16 #[cdv D A n c G] W fun e w' => e = .returned (.int .i64 (pcs D Gs G)) ∧ Below W.heap.size W w') := fun W m => refPieces7_any D G Gs n c A W m hshH.out
    have CK : Hid (∀ W, CodM W w.heap.size D A n c G Gs → Calls Tryd.prog 10 #[cdv D A n c G] W fun e w' => e = .returned (.int .i64 Ck) ∧ Below W.heap.size W w') := fun W m => by rw [hCkH.out]; exact refCheck7_any D G Gs n c A W m hshH.out
    have CD : Hid (∀ W, CodM W w.heap.size D A n c G Gs → PTab 0 W → Calls Tryd.prog 26 #[cdv D A n c G] W fun e w' => (∃ d : Nat, e = .returned (.tuple #[.int .i64 (d : Int), .int .i64 Ck]) ∧ ((Ck ≠ 0 ∧ d = 0) ∨ (Ck = 0 ∧ DisR D.toNat (D.toNat + (Gs.length + G.toNat)) Gs d))) ∧ Below W.heap.size W w') := fun W m t => by
      refine (distance_any D G Gs n c A W m t).mono ?_
      rintro e w' ⟨⟨d, er, rfl, h⟩, hb⟩
      rw [← hCkH.out] at h
      rcases h with ⟨h1, rfl, rfl⟩ | ⟨h1, rfl, h2⟩
      · exact ⟨⟨0, rfl, .inl ⟨h1, rfl⟩⟩, hb⟩
      · exact ⟨⟨d, by rw [h1], .inr ⟨h1, h2⟩⟩, hb⟩
    obtain ⟨pz, hpz⟩ : ∃ x, x = pcs D Gs G := ⟨_, rfl⟩
    have hpzH := Lib.hid hpz
    rw [← hpz] at CP
    clear hpz
    unfold cdv at CP CK CD
    go_wp2_with fail
    by_cases hp10 : pz > 10
    · skip
      have C := CP.out w2 M.out
      try unfold cdv at C
      refine C.mono ?_
      rintro e w4 ⟨rfl, hb⟩
      clear C
      clear p0 p1 p2
      replace E : Hid (Below w.heap.size w w4) := E.out.trans (hb.mono E.out.size)
      replace M := Lib.hid (M.out.keep hb)
      replace T := Lib.hid (T.out.on hb)
      replace X := Lib.hid (X.out.below hb X.out.lt)
      clear hb
      have p0 := X.out.cell (j := 0) rfl
      have p1 := X.out.cell (j := 1) rfl
      have p2 := X.out.cell (j := 2) rfl
      go_wp2_with fail
      refine (sanity_any7 _ T.out).mono ?_
      rintro e w5 ⟨rfl, hb⟩
      clear p0 p1 p2
      replace E : Hid (Below w.heap.size w w5) := E.out.trans (hb.mono E.out.size)
      replace M := Lib.hid (M.out.keep hb)
      replace T := Lib.hid (T.out.on hb)
      replace X := Lib.hid (X.out.below hb X.out.lt)
      clear hb
      have p0 := X.out.cell (j := 0) rfl
      have p1 := X.out.cell (j := 1) rfl
      have p2 := X.out.cell (j := 2) rfl
      go_wp2_with fail
      go_ret
      exact ⟨by first | rfl | (go_simp; done), E.out⟩
    have hp10' : ¬ pz > 10 := hp10
    clear hp10
    have C := CP.out w2 M.out
    try unfold cdv at C
    refine C.mono ?_
    rintro e w4 ⟨rfl, hb⟩
    clear C
    clear p0 p1 p2
    replace E : Hid (Below w.heap.size w w4) := E.out.trans (hb.mono E.out.size)
    replace M := Lib.hid (M.out.keep hb)
    replace T := Lib.hid (T.out.on hb)
    replace X := Lib.hid (X.out.below hb X.out.lt)
    clear hb
    have p0 := X.out.cell (j := 0) rfl
    have p1 := X.out.cell (j := 1) rfl
    have p2 := X.out.cell (j := 2) rfl
    go_wp2_with fail
    have C := CD.out w4 M.out T.out
    try unfold cdv at C
    refine C.mono ?_
    rintro e w5 ⟨⟨d, rfl, hd⟩, hb⟩
    clear C
    clear p0 p1 p2
    replace E : Hid (Below w.heap.size w w5) := E.out.trans (hb.mono E.out.size)
    replace M := Lib.hid (M.out.keep hb)
    replace T := Lib.hid (T.out.on hb)
    replace X := Lib.hid (X.out.below hb X.out.lt)
    clear hb
    have hdH := Lib.hid hd
    clear hd
    have p0 := X.out.cell (j := 0) rfl
    have p1 := X.out.cell (j := 1) rfl
    have p2 := X.out.cell (j := 2) rfl
    go_wp2_with fail
    have hck : (Ck != Ck) = false := by simp
    have C := CK.out w5 M.out
    try unfold cdv at C
    refine C.mono ?_
    rintro e w6 ⟨rfl, hb⟩
    clear C
    clear p0 p1 p2
    replace E : Hid (Below w.heap.size w w6) := E.out.trans (hb.mono E.out.size)
    replace M := Lib.hid (M.out.keep hb)
    replace T := Lib.hid (T.out.on hb)
    replace X := Lib.hid (X.out.below hb X.out.lt)
    clear hb
    have p0 := X.out.cell (j := 0) rfl
    have p1 := X.out.cell (j := 1) rfl
    have p2 := X.out.cell (j := 2) rfl
    by_cases hC0 : Ck = 0
    rotate_left
    · have z : (Ck != 0) = true := by simpa using hC0
      have hd0 : d = 0 := by rcases hdH.out with h | h; exact h.2; exact absurd h.1 hC0
      subst hd0
      clear hC0
      go_wp2_with fail
      refine (sanity_any7 _ T.out).mono ?_
      rintro e w7 ⟨rfl, hb⟩
      clear p0 p1 p2
      replace E : Hid (Below w.heap.size w w7) := E.out.trans (hb.mono E.out.size)
      replace M := Lib.hid (M.out.keep hb)
      replace T := Lib.hid (T.out.on hb)
      replace X := Lib.hid (X.out.below hb X.out.lt)
      clear hb
      have p0 := X.out.cell (j := 0) rfl
      have p1 := X.out.cell (j := 1) rfl
      have p2 := X.out.cell (j := 2) rfl
      go_wp2_with fail
      go_ret
      exact ⟨by first | rfl | (go_simp; done), E.out⟩
    have h0 : Hid (chkE D Gs G = 0) := hCkH.out.symm.trans hC0
    have hdR := hdH.out.resolve_left fun h => h.1 hC0
    subst hC0
    obtain ⟨b1, b2, b3, b4, b5, b6⟩ := cchk_ok h0.out
    obtain ⟨d7, rfl⟩ : ∃ d7 : Nat, D = d7 := ⟨D.toNat, by omega⟩
    obtain ⟨g7, rfl⟩ : ∃ g7 : Nat, G = g7 := ⟨G.toNat, by omega⟩
    obtain ⟨N, hN⟩ : ∃ N, N = d7 + (Gs.length + g7) := ⟨_, rfl⟩
    have hNH : Hid (d7 + (Gs.length + g7) = N) := hN.symm
    have hpN := hpzH.out.trans (pcs_nat h0.out hNH.out)
    have hN10 : N ≤ 10 := by omega
    have hDH : Hid (DisR d7 N Gs d) := by have := hdR.2; rw [Int.toNat_natCast, Int.toNat_natCast, ← hN] at this; exact this
    have hdN : d ≤ 24 := by have := hDH.out.2.1; omega
    have hdle : Hid (d7 ≤ N) := by show _ ≤ _; omega
    have hN1 : 1 ≤ N := by omega
    have hd16 : d7 ≤ 16 := by omega
    clear hdR hpN hp10' b1 b2 b3 b4 b5 b6 hN hdH hpzH CP CK CD hck
    have CPc : Hid (∀ W, CodM W w.heap.size (d7 : Int) A n c (g7 : Int) Gs → Calls Tryd.prog 15 #[cdv (d7 : Int) A n c (g7 : Int)] W fun e w' => e = .returned (.int .i64 (N : Int)) ∧ Below W.heap.size W w') := fun W hM => by
      have := pieces_any (d7 : Int) (g7 : Int) Gs n c A W hM
      rw [if_pos h0.out, show (d7 : Int) + Gs.length + g7 = (N : Int) by have := hNH.out; omega] at this
      exact this
    have e2 : ((2 ^ N : Nat) : Int) = (2 : Int) ^ N := by rw [Int.natCast_pow]; rfl
    have hRS : Hid (∀ s : Int, RecP (d7 : Int) Gs (g7 : Int) s ↔ SetP s N ∧ Full7 (pcL d7 Gs s.toNat N) d7) := fun s => by
      unfold RecP SetP
      rw [Int.toNat_natCast, Int.toNat_natCast, Nat.add_assoc, hNH.out, e2]
      exact ⟨fun h => ⟨⟨h.2.1, h.2.2.1⟩, h.2.2.2⟩, fun h => ⟨h0.out, h.1.1, h.1.2, h.2⟩⟩
    clear e2
    have CR : Hid (∀ W s, CodM W w.heap.size (d7 : Int) A n c (g7 : Int) Gs → PTab 0 W → Calls Tryd.prog 24 #[cdv (d7 : Int) A n c (g7 : Int), .int .i64 s] W (SayEnd W (SetP s N ∧ Full7 (pcL d7 Gs s.toNat N) d7))) := fun W s m t => by rw [← hRS.out s]; exact recoverable_any (d7 : Int) (g7 : Int) s Gs n c A W m t
    have CS : Hid (∀ W, CodM W w.heap.size (d7 : Int) A n c (g7 : Int) Gs → Calls Tryd.prog 27 #[cdv (d7 : Int) A n c (g7 : Int), .int .i64 mk] W (SayEnd W (SetP mk N))) := fun W m => refIsSet7_any d7 g7 mk Gs n c N A W m hshH.out h0.out hNH.out (by omega)
    have CL : Hid (∀ W, CodM W w.heap.size (d7 : Int) A n c (g7 : Int) Gs → Calls Tryd.prog 28 #[cdv (d7 : Int) A n c (g7 : Int)] W fun e w' => e = .returned (.int .i64 (d : Int)) ∧ Below W.heap.size W w') := fun W m => by
      refine (refDistance7_any d7 g7 Gs n c N A W m hshH.out h0.out hNH.out (by omega)).mono ?_
      rintro e w' ⟨⟨l, rfl, hl⟩, hb⟩
      rw [dis_same hdle.out hDH.out hl]
      exact ⟨rfl, hb⟩
    unfold cdv at CPc CR CS CL
    go_wp2_with fail
    have C := CPc.out w6 M.out
    try unfold cdv at C
    refine C.mono ?_
    rintro e w7 ⟨rfl, hb⟩
    clear C
    clear p0 p1 p2
    replace E : Hid (Below w.heap.size w w7) := E.out.trans (hb.mono E.out.size)
    replace M := Lib.hid (M.out.keep hb)
    replace T := Lib.hid (T.out.on hb)
    replace X := Lib.hid (X.out.below hb X.out.lt)
    clear hb
    have p0 := X.out.cell (j := 0) rfl
    have p1 := X.out.cell (j := 1) rfl
    have p2 := X.out.cell (j := 2) rfl
    go_wp2_with fail
    have C := CR.out w7 mk M.out T.out
    try unfold cdv at C
    refine C.mono ?_
    rintro e w8 ⟨⟨b1, rfl, hb1⟩, hb⟩
    clear C
    clear p0 p1 p2
    replace E : Hid (Below w.heap.size w w8) := E.out.trans (hb.mono E.out.size)
    replace M := Lib.hid (M.out.keep hb)
    replace T := Lib.hid (T.out.on hb)
    replace X := Lib.hid (X.out.below hb X.out.lt)
    clear hb
    have hb1H := Lib.hid hb1
    clear hb1
    have p0 := X.out.cell (j := 0) rfl
    have p1 := X.out.cell (j := 1) rfl
    have p2 := X.out.cell (j := 2) rfl
    go_wp2_with fail
    have C := CS.out w8 M.out
    refine C.mono ?_
    rintro e w9 ⟨⟨b2, rfl, hb2⟩, hb⟩
    clear C
    clear p0 p1 p2
    replace E : Hid (Below w.heap.size w w9) := E.out.trans (hb.mono E.out.size)
    replace M := Lib.hid (M.out.keep hb)
    replace T := Lib.hid (T.out.on hb)
    replace X := Lib.hid (X.out.below hb X.out.lt)
    clear hb
    have hb2H := Lib.hid hb2
    clear hb2
    have p0 := X.out.cell (j := 0) rfl
    have p1 := X.out.cell (j := 1) rfl
    have p2 := X.out.cell (j := 2) rfl
    have hdd1 : ((d : Int) == (d : Int)) = true := by simp
    cases b2 with
    | false =>
      have hb1f : b1 = false := by
        cases hb : b1 with
        | false => rfl
        | true => have := hb2H.out.2 (hb1H.out.1 hb).1; cases this
      subst hb1f
      clear hb1H hb2H
      go_wp2_with fail
      refine (sanity_any7 _ T.out).mono ?_
      rintro e w10 ⟨rfl, hb⟩
      clear p0 p1 p2
      replace E : Hid (Below w.heap.size w w10) := E.out.trans (hb.mono E.out.size)
      replace M := Lib.hid (M.out.keep hb)
      replace T := Lib.hid (T.out.on hb)
      replace X := Lib.hid (X.out.below hb X.out.lt)
      clear hb
      have p0 := X.out.cell (j := 0) rfl
      have p1 := X.out.cell (j := 1) rfl
      have p2 := X.out.cell (j := 2) rfl
      go_wp2_with fail
      have C := CL.out w10 M.out
      try unfold cdv at C
      refine C.mono ?_
      rintro e w11 ⟨rfl, hb⟩
      clear C
      clear p0 p1 p2
      replace E : Hid (Below w.heap.size w w11) := E.out.trans (hb.mono E.out.size)
      replace M := Lib.hid (M.out.keep hb)
      replace T := Lib.hid (T.out.on hb)
      replace X := Lib.hid (X.out.below hb X.out.lt)
      clear hb
      have p0 := X.out.cell (j := 0) rfl
      have p1 := X.out.cell (j := 1) rfl
      have p2 := X.out.cell (j := 2) rfl
      go_wp2_with fail
      go_ret
      exact ⟨by first | rfl | (go_simp; done), E.out⟩
    | true =>
      have hset := hb2H.out.1 rfl
      obtain ⟨s, rfl⟩ : ∃ s : Nat, mk = s := ⟨mk.toNat, by have := hset.1; omega⟩
      have hsN : Hid (s < 2 ^ N) := Int.ofNat_lt.1 hset.2
      have hFb : Hid (b1 = true ↔ Full7 (pcL d7 Gs s N) d7) := by show _ ↔ _; rw [hb1H.out]; exact ⟨fun h => h.2, fun h => ⟨hset, h⟩⟩
      clear hset hb1H hb2H
      obtain ⟨ct, hct⟩ : ∃ q, q = cnt7 s := ⟨_, rfl⟩
      have hctH := Lib.hid hct
      have hctN : Hid (ct ≤ N) := by show _ ≤ _; rw [hct]; exact (cnt7_high N s hsN.out).1
      have hs24 : s ≤ 1125899906842624 := by have := hsN.out; have := two24n (show N ≤ 24 by omega); omega
      have CC := fun W => count07_any s W hs24
      rw [← hct] at CC
      have CCH := Lib.hid CC
      clear hct CC
      obtain ⟨k, hkN, hrem, hNne⟩ := rem_facts pc N hN1
      obtain ⟨PP, hP1, hPw, hor, hmo⟩ := or_facts hsN.out hkN (show N ≤ 24 by omega)
      have hmoH := Lib.hid hmo
      obtain ⟨mo, hmoe⟩ : ∃ q, q = s ||| 1 <<< k := ⟨_, rfl⟩
      have hmoeH := Lib.hid hmoe
      rw [← hmoe] at hor hmoH
      clear hmo hmoe
      have hw8 := wrap_u8b hpc
      obtain ⟨lo, hlo, hsub, hsub2, hlo24⟩ := sub_cnt hctN.out (show N ≤ 24 by omega)
      have hloH := Lib.hid hlo
      clear hlo
      have hkneg : ¬ (k : Int) < 0 := by omega
      have hk24 : min k 64 = k := by omega
      go_wp2_with fail
      refine (CCH.out _).mono ?_
      rintro e wc ⟨rfl, rfl⟩
      cases hb1 : b1 with
      | false =>
        have hge : Hid (¬ lo < d) := fun h => by
          have := hFb.out.2 (full_few hdle.out hsN.out hDH.out (by rw [← hctH.out, ← hloH.out]; exact h))
          rw [hb1] at this; cases this
        have tg : ¬ (lo : Int) < (d : Int) := by have := hge.out; omega
        clear hFb hge
        subst hb1
        go_wp2_with fail
        refine (sanity_any7 _ T.out).mono ?_
        rintro e w10 ⟨rfl, hb⟩
        clear p0 p1 p2
        replace E : Hid (Below w.heap.size w w10) := E.out.trans (hb.mono E.out.size)
        replace M := Lib.hid (M.out.keep hb)
        replace T := Lib.hid (T.out.on hb)
        replace X := Lib.hid (X.out.below hb X.out.lt)
        clear hb
        have p0 := X.out.cell (j := 0) rfl
        have p1 := X.out.cell (j := 1) rfl
        have p2 := X.out.cell (j := 2) rfl
        go_wp2_with fail
        have C := CL.out w10 M.out
        try unfold cdv at C
        refine C.mono ?_
        rintro e w11 ⟨rfl, hb⟩
        clear C
        clear p0 p1 p2
        replace E : Hid (Below w.heap.size w w11) := E.out.trans (hb.mono E.out.size)
        replace M := Lib.hid (M.out.keep hb)
        replace T := Lib.hid (T.out.on hb)
        replace X := Lib.hid (X.out.below hb X.out.lt)
        clear hb
        have p0 := X.out.cell (j := 0) rfl
        have p1 := X.out.cell (j := 1) rfl
        have p2 := X.out.cell (j := 2) rfl
        go_wp2_with fail
        go_ret
        exact ⟨by first | rfl | (go_simp; done), E.out⟩
      | true =>
        have hf := hFb.out.1 hb1
        have tsz : ¬ (ct : Int) < (d7 : Int) := by have := full_size hsN.out hf; have := hctH.out; omega
        have hfm : Hid (Full7 (pcL d7 Gs mo N) d7) := by show Full7 _ _; rw [hmoeH.out]; exact full_more hf
        have CRm : Hid (∀ W, CodM W w.heap.size (d7 : Int) A n c (g7 : Int) Gs → PTab 0 W → Calls Tryd.prog 24 #[.agg #[.int .i64 (d7 : Int), .slice A n c, .int .i64 (g7 : Int)], .int .i64 (mo : Int)] W fun e w' => e = .returned (.bool true) ∧ Below W.heap.size W w') := fun W m t => by
          refine (CR.out W (mo : Int) m t).mono ?_
          rintro e w' ⟨⟨b, rfl, hb⟩, h⟩
          rw [hb.2 ⟨⟨Int.natCast_nonneg _, Int.ofNat_lt.2 hmoH.out⟩, by rw [Int.toNat_natCast]; exact hfm.out⟩]
          exact ⟨rfl, h⟩
        clear hFb hf
        subst hb1
        by_cases hlod : lo < d
        · have tg : (lo : Int) < (d : Int) := by omega
          clear hlod
          go_wp2_with fail
          have C := CRm.out w9 M.out T.out
          try unfold cdv at C
          refine C.mono ?_
          rintro e w10 ⟨rfl, hb⟩
          clear C
          clear p0 p1 p2
          replace E : Hid (Below w.heap.size w w10) := E.out.trans (hb.mono E.out.size)
          replace M := Lib.hid (M.out.keep hb)
          replace T := Lib.hid (T.out.on hb)
          replace X := Lib.hid (X.out.below hb X.out.lt)
          clear hb
          have p0 := X.out.cell (j := 0) rfl
          have p1 := X.out.cell (j := 1) rfl
          have p2 := X.out.cell (j := 2) rfl
          go_wp2_with fail
          refine (sanity_any7 _ T.out).mono ?_
          rintro e w11 ⟨rfl, hb⟩
          clear p0 p1 p2
          replace E : Hid (Below w.heap.size w w11) := E.out.trans (hb.mono E.out.size)
          replace M := Lib.hid (M.out.keep hb)
          replace T := Lib.hid (T.out.on hb)
          replace X := Lib.hid (X.out.below hb X.out.lt)
          clear hb
          have p0 := X.out.cell (j := 0) rfl
          have p1 := X.out.cell (j := 1) rfl
          have p2 := X.out.cell (j := 2) rfl
          go_wp2_with fail
          have C := CL.out w11 M.out
          try unfold cdv at C
          refine C.mono ?_
          rintro e w12 ⟨rfl, hb⟩
          clear C
          clear p0 p1 p2
          replace E : Hid (Below w.heap.size w w12) := E.out.trans (hb.mono E.out.size)
          replace M := Lib.hid (M.out.keep hb)
          replace T := Lib.hid (T.out.on hb)
          replace X := Lib.hid (X.out.below hb X.out.lt)
          clear hb
          have p0 := X.out.cell (j := 0) rfl
          have p1 := X.out.cell (j := 1) rfl
          have p2 := X.out.cell (j := 2) rfl
          go_wp2_with fail
          go_ret
          exact ⟨by first | rfl | (go_simp; done), E.out⟩
        · have tg : ¬ (lo : Int) < (d : Int) := by omega
          clear hlod
          go_wp2_with fail
          have C := CRm.out w9 M.out T.out
          try unfold cdv at C
          refine C.mono ?_
          rintro e w10 ⟨rfl, hb⟩
          clear C
          clear p0 p1 p2
          replace E : Hid (Below w.heap.size w w10) := E.out.trans (hb.mono E.out.size)
          replace M := Lib.hid (M.out.keep hb)
          replace T := Lib.hid (T.out.on hb)
          replace X := Lib.hid (X.out.below hb X.out.lt)
          clear hb
          have p0 := X.out.cell (j := 0) rfl
          have p1 := X.out.cell (j := 1) rfl
          have p2 := X.out.cell (j := 2) rfl
          go_wp2_with fail
          refine (sanity_any7 _ T.out).mono ?_
          rintro e w11 ⟨rfl, hb⟩
          clear p0 p1 p2
          replace E : Hid (Below w.heap.size w w11) := E.out.trans (hb.mono E.out.size)
          replace M := Lib.hid (M.out.keep hb)
          replace T := Lib.hid (T.out.on hb)
          replace X := Lib.hid (X.out.below hb X.out.lt)
          clear hb
          have p0 := X.out.cell (j := 0) rfl
          have p1 := X.out.cell (j := 1) rfl
          have p2 := X.out.cell (j := 2) rfl
          go_wp2_with fail
          have C := CL.out w11 M.out
          try unfold cdv at C
          refine C.mono ?_
          rintro e w12 ⟨rfl, hb⟩
          clear C
          clear p0 p1 p2
          replace E : Hid (Below w.heap.size w w12) := E.out.trans (hb.mono E.out.size)
          replace M := Lib.hid (M.out.keep hb)
          replace T := Lib.hid (T.out.on hb)
          replace X := Lib.hid (X.out.below hb X.out.lt)
          clear hb
          have p0 := X.out.cell (j := 0) rfl
          have p1 := X.out.cell (j := 1) rfl
          have p2 := X.out.cell (j := 2) rfl
          go_wp2_with fail
          go_ret
          exact ⟨by first | rfl | (go_simp; done), E.out⟩
end Go.Proofs.YtcnljemnkhmfcaaDoor
