/-
  Stage 6: values; more contracts with every length a variable.
-/
import Derived.Test.YtbilfhipmebmlaaDoorQn
namespace Go.Proofs.YtbilfhipmebmlaaDoor
set_option linter.unusedVariables false
set_option linter.unusedSimpArgs false
open Go.RowKit

/-- The values of a polynomial at the first k points. -/
def valsL (p xs : List UInt8) (k : Nat) : List UInt8 := (List.range k).map fun i => ev p (co xs i)
theorem valsL_succ (p xs : List UInt8) (k : Nat) : valsL p xs (k + 1) = valsL p xs k ++ [ev p (co xs k)] := by simp [valsL, List.range_succ]
theorem valsL_len (p xs : List UInt8) (k : Nat) : (valsL p xs k).length = k := by simp [valsL]
theorem co_valsL {p xs : List UInt8} {k i : Nat} (h : i < k) : co (valsL p xs k) i = ev p (co xs i) := by
  unfold valsL
  rw [co_map _ _ (by simpa using h)]
  simp

set_option maxRecDepth 100000 in
set_option maxHeartbeats 4000000 in
theorem values_v {W : World} {A A' : Option Addr} {n c n' c' : Nat} {l m : List UInt8} (h : RowV W A n c l) (h' : RowV W A' n' c' m) (hl : n ≤ 100000) (hl' : n' ≤ 100000) (ht : PTab 0 W) :
    Calls Tryd.prog 38 #[.slice A n c, .slice A' n' c'] W fun e w' => ∃ A n c, e = .returned (.slice A n c) ∧ RowV w' A n c (valsL l m n') ∧ Below W.heap.size W w' := by
  have H := Lib.hid h
  have H' := Lib.hid h'
  have T := Lib.hid ht
  clear h h' ht
  go_enter Tryd.func38, Tryd.ntmps38
  go_wp2_with fail
  go_loopw [5, 6] (fun v i wr => ∃ k : Nat, k ≤ n' ∧ i = .int .i64 k ∧ OwnB wr W.heap.size v (valsL l m k) ∧ Below W.heap.size W wr) (fun _ i _ => n' - (intOf i).toNat)
  case atStart => exact ⟨0, by omega, rfl, ownB_nil _ _, Below.refl _ _⟩
  case round =>
    obtain ⟨k, hk, rfl, ho, hbw⟩ := hrel
    by_cases hlt : k < n'
    · have t : (k : Int) < (n' : Int) := by omega
      have t0 : 0 ≤ (k : Int) := by omega
      have hx := at_co (p := m) (k := k) (by rw [← H'.out.len]; exact hlt)
      obtain ⟨ad, rfl, _, hca⟩ := (H'.out.rds.below hbw).look (k := k) (u := bv (co m k)) (by rw [List.getElem?_map, hx]; rfl)
      have hs := Lib.hid (valsL_succ l m k)
      have EV := Lib.hid (eval_v (H.out.keep hbw) (co m k) hl (T.out.below hbw T.out.1))
      have ho' := Lib.hid ho
      have hbw' := Lib.hid hbw
      have hlen : (valsL l m k).length ≤ 140737488355300 := by rw [valsL_len]; omega
      generalize ev l (co m k) = r at *
      generalize co m k = x at *
      generalize valsL l m k = V at *
      unfold bv at hca
      clear hx ho hbw
      go_wp2_with fail
      refine EV.out.mono ?_
      rintro e w3 ⟨rfl, hb3⟩
      have ho3 := ownB_kp ho'.out hb3
      have hb3' := hbw'.out.trans (hb3.mono hbw'.out.size)
      have hsz := hb3'.size
      clear hb3 EV
      go_wp2_with (at_builtin; go_must (refine push_byte rfl _ _ rfl W.heap.size u5 V r _ rfl rfl rfl ho3 hlen hsz ?_); intro v' w2 ho1 hon1)
      go_roundw
      case rel => exact ⟨k + 1, by omega, by go_num, by rw [hs.out]; exact ho1, hb3'.trans (hon1.below ho3 hsz)⟩
      case measure => simp [intOf]; omega
    · have t : ¬ (k : Int) < (n' : Int) := by omega
      obtain rfl : k = n' := by omega
      obtain ⟨A2, n2, c2, rfl, h2⟩ := rowV_own ho
      have h2' := Lib.hid h2
      have hbw' := Lib.hid hbw
      clear ho h2 hbw
      go_wp2_with fail
      go_ret
      exact ⟨A2, n2, c2, by first | rfl | (go_simp; done) | (go_simp; rfl), h2'.out, hbw'.out⟩

/-- A list of numbers that is read. -/
structure RowN (W : World) (A : Option Addr) (n : Nat) (l : List Nat) : Prop where
  len : n = l.length
  rds : Rds W W.heap.size A (l.map pv)
section
variable {W W' : World} {A A' A2 : Option Addr} {n c n' c' n2 c2 : Nat} {l m p : List UInt8}
theorem RowN.keep {k : List Nat} (h : RowN W A n k) (hb : Below W.heap.size W W') : RowN W' A n k := ⟨h.len, (h.rds.below hb).more hb.size⟩
theorem rowN_own {base : Nat} {v : Value} {k : List Nat} (h : OwnP W base v k) : ∃ A n c, v = .slice A n c ∧ RowN W A n k := by
  obtain ⟨A, c, rfl, h1, h2, h3, h4⟩ := own_form h
  exact ⟨A, _, c, rfl, rfl, h4⟩
theorem right_v (h : RowV W A n c l) (hl : n ≤ 140737488351232) (hl' : n' ≤ 140737488351232) (b : Bool) (hb : b = true ↔ (Dist l n ∧ n = n')) : Calls Tryd.prog 37 #[.slice A n c, .slice A' n' c'] W fun e w' => e = .returned (.bool b) ∧ Below W.heap.size W w' := by
  have := refRight_any l A A' c n' c' W h.rds (by rw [← h.len]; omega) (by omega)
  rw [← h.len] at this
  refine this.mono ?_
  rintro e w' ⟨b', rfl, hb', k, rfl⟩
  have e1 : b' = b := by
    have h1 : b' = true ↔ b = true := hb'.trans hb.symm
    cases b <;> cases b'
    · rfl
    · exact absurd (h1.1 rfl) (by decide)
    · exact absurd (h1.2 rfl) (by decide)
    · rfl
  exact ⟨by rw [e1], below_dN (Below.refl _ _) k⟩
theorem interp_v (h : RowV W A n c l) (h' : RowV W A' n' c' m) (he : n = n') (hl : n ≤ 1000) (hd : Dist l n) (ht : PTab 0 W) : Calls Tryd.prog 29 #[.slice A n c, .slice A' n' c'] W fun e w' => ∃ A n2 c, e = .returned (.tuple #[.slice A n2 c, .int .i64 0]) ∧ RowV w' A n2 c (lineP l m n) ∧ Below W.heap.size W w' := by
  refine (interpolate_ok l m A A' c c' n n' W h.rds h'.rds (Nat.le_refl _) h.len h'.len he hl hd ht).mono ?_
  rintro e w' ⟨v, rfl, ho, hb⟩
  obtain ⟨A2, n2, c2, rfl, h2⟩ := rowV_own ho
  exact ⟨A2, n2, c2, rfl, h2, hb⟩
theorem interpno_v (h : RowV W A n c l) (hl : n ≤ 100000) (hl' : n' ≤ 100000) (hd : ¬ (Dist l n ∧ n = n')) : Calls Tryd.prog 29 #[.slice A n c, .slice A' n' c'] W fun e w' => e = .returned (.tuple #[.slice none 0 0, .int .i64 1]) ∧ Below W.heap.size W w' :=
  interpolate_no l A A' c c' n n' W h.rds (Nat.le_refl _) h.len hl hl' hd
theorem through_v (h : RowV W A n c l) (h' : RowV W A' n' c' m) (he : n = n') (hl : n ≤ 1000) (hd : Dist l n) (k : Nat) (hk : k < n) (hg : dg (lineP l m n) ≤ k + 1) (ht : PTab 0 W) : Calls Tryd.prog 31 #[.slice A n c, .slice A' n' c', .int .i64 k] W fun e w' => ∃ A n2 c, e = .returned (.tuple #[.slice A n2 c, .int .i64 0]) ∧ RowV w' A n2 c (lineP l m n) ∧ Below W.heap.size W w' := by
  refine (through_ok l m A A' c c' n n' k W h.rds h'.rds (Nat.le_refl _) h.len h'.len he hl hd hk ht).mono ?_
  rintro e w' ⟨v, E, rfl, hE, hb⟩
  rcases hE with ⟨h1, _⟩ | ⟨_, rfl, ho⟩
  · omega
  · obtain ⟨A2, n2, c2, rfl, h2⟩ := rowV_own ho
    exact ⟨A2, n2, c2, rfl, h2, hb⟩
theorem throughx_v (h : RowV W A n c l) (h' : RowV W A' n' c' m) (he : n = n') (hl : n ≤ 1000) (hd : Dist l n) (k : Nat) (hk : k < n) (hg : k + 1 < dg (lineP l m n)) (ht : PTab 0 W) : Calls Tryd.prog 31 #[.slice A n c, .slice A' n' c', .int .i64 k] W fun e w' => e = .returned (.tuple #[.slice none 0 0, .int .i64 8]) ∧ Below W.heap.size W w' := by
  refine (through_ok l m A A' c c' n n' k W h.rds h'.rds (Nat.le_refl _) h.len h'.len he hl hd hk ht).mono ?_
  rintro e w' ⟨v, E, rfl, hE, hb⟩
  rcases hE with ⟨_, rfl, rfl⟩ | ⟨h1, _⟩
  · exact ⟨rfl, hb⟩
  · omega
theorem missed_v (h : RowV W A n c p) (h1 : RowV W A' n' c' l) (h2 : RowV W A2 n2 c2 m) (hxy : n' ≤ n2) (hlp : n ≤ 100000) (hl : n' ≤ 100000) : Calls Tryd.prog 39 #[.slice A n c, .slice A' n' c', .slice A2 n2 c2] W fun e w' => ∃ A k c, e = .returned (.slice A k c) ∧ RowN w' A k (missL p l m n') ∧ Below W.heap.size W w' := by
  refine (refMissed_any p l m A A' A2 c c' c2 n n' n2 W h.rds h1.rds h2.rds (Nat.le_refl _) h.len h1.len h2.len hxy hlp hl).mono ?_
  rintro e w' ⟨v, rfl, ho, hb⟩
  obtain ⟨A3, n3, c3, rfl, h3⟩ := rowN_own ho
  exact ⟨A3, n3, c3, rfl, h3, hb⟩
theorem sameints_v {a b : List Nat} (h : RowN W A n a) (h' : RowN W A' n' b) (hl : n ≤ 100000) : Calls Tryd.prog 35 #[.slice A n c, .slice A' n' c'] W fun e w' => e = .returned (.bool (sameB a b)) ∧ Below W.heap.size W w' := by
  have := refSameInts6_any a b A A' c c' W h.rds h'.rds (by rw [← h.len]; omega)
  rw [← h.len, ← h'.len] at this
  refine this.mono ?_
  rintro e w' ⟨rfl, k, rfl⟩
  exact ⟨rfl, below_dN (Below.refl _ _) k⟩
/-- Decode: found, or lost. -/
theorem decode_v (h : RowV W A n c l) (h' : RowV W A' n' c' m) (he : n = n') (hl : n ≤ 1000) (hd : Dist l n) (d wrong : Nat) (hw : d + 1 + 2 * wrong ≤ n) (ht : PTab 0 W) : Calls Tryd.prog 33 #[.slice A n c, .slice A' n' c', .int .i64 d, .int .i64 wrong] W fun e w' =>
    (∃ P A1 n1 c1 A2 n2 c2, Found l m n d wrong P ∧ e = .returned (.tuple #[.slice A1 n1 c1, .slice A2 n2 c2, .int .i64 0]) ∧ RowV w' A1 n1 c1 P ∧ RowN w' A2 n2 (missL P l m n) ∧ Below W.heap.size W w') ∨ (Lost l m n d wrong ∧ e = .returned (.tuple #[.slice none 0 0, .slice none 0 0, .int .i64 17]) ∧ Below W.heap.size W w') := by
  refine (decode_ok l m A A' c c' n n' d wrong W h.rds h'.rds (Nat.le_refl _) h.len h'.len he hl hd hw ht).mono ?_
  rintro e w' ⟨vp, va, E, rfl, hb, hE⟩
  rcases hE with ⟨P, hF, rfl, ho, ha⟩ | ⟨hL, rfl, rfl, rfl⟩
  · obtain ⟨A1, n1, c1, rfl, h1⟩ := rowV_own ho
    obtain ⟨A2, n2, c2, rfl, h2⟩ := rowN_own ha
    exact .inl ⟨P, A1, n1, c1, A2, n2, c2, hF, rfl, h1, h2, hb⟩
  · exact .inr ⟨hL, rfl, hb⟩
end
end Go.Proofs.YtbilfhipmebmlaaDoor
