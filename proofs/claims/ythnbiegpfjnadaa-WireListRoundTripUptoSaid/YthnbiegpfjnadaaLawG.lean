/-
  Sums of texts that are bounded; WireEncodeMatchesSpec: the walk.
-/
import Derived.Test.YthnbiegpfjnadaaLawE
import Derived.Test.YthnbiegpfjnadaaRefD
import Derived.Test.YthnbiegpfjnadaaRefX
import Derived.Test.YthnbiegpfjnadaaRows
namespace Go.Proofs.Ythnbiegpfjnadaa
open Go.RowKit

theorem tot_take_le (xs : List (List UInt8)) (k : Nat) : tot (xs.take k) ≤ tot xs := by
  induction xs generalizing k with
  | nil => simp [tot]
  | cons x xs ih =>
    cases k with
    | zero => simp [tot]
    | succ k =>
      have := ih k
      unfold tot at this ⊢
      rw [List.take_succ_cons, List.map_cons, List.sum_cons, List.map_cons, List.sum_cons]
      omega
theorem tot_mem {xs : List (List UInt8)} {x : List UInt8} (h : x ∈ xs) : x.length ≤ tot xs := by
  induction xs with
  | nil => cases h
  | cons y xs ih =>
    unfold tot at ih ⊢
    rw [List.map_cons, List.sum_cons]
    rcases List.mem_cons.1 h with rfl | h
    · omega
    · have := ih h; omega

set_option maxRecDepth 100000 in
set_option maxHeartbeats 1000000 in
theorem few_sum {B : Nat} (xs : List (List UInt8)) (A : Option Addr) (c : Nat) (w : World) (hr : Rds w B A (xs.map sv)) (hl : xs.length + tot xs ≤ 1048576) (b : Bool) (hb : decide (xs.length + tot xs ≤ 2000) = b) :
    Calls Try.prog 11 #[.slice A xs.length c] w fun e w' => e = .returned (.bool b) ∧ w = w' := by
  have HB := Lib.hid hb
  clear hb
  have t0 : (xs.length : Int) ≤ 1048576 := by omega
  go_enter Try.func11, Try.ntmps11
  go_wp2
  go_loopw [3, 10] (fun n i wr => ∃ k : Nat, k ≤ xs.length ∧ i = .int .i64 k ∧ n = .int .i64 ((xs.length + tot (xs.take k) : Nat) : Int) ∧ w = wr) (fun _ i _ => xs.length - (intOf i).toNat)
  case atStart => exact ⟨0, by omega, rfl, by simp [tot], rfl⟩
  case round =>
    obtain ⟨k, hk, rfl, rfl, rfl⟩ := hrel
    have hm := tot_take_le xs k
    by_cases hlt : k < xs.length
    · obtain ⟨ad, rfl, hab, hcell⟩ := hr.look (k := k) (u := sv xs[k]) (by simp [hlt])
      have htf := Lib.hid (tot_take (xs := xs) (List.getElem?_eq_getElem hlt))
      have HS := Lib.hid (bs_size xs[k])
      have hx := tot_mem (List.getElem_mem hlt)
      unfold sv at hcell
      generalize bs xs[k] = S at hcell HS
      generalize xs[k] = x at htf HS hx
      have hS : S.size ≤ 1048576 := by rw [HS.out]; omega
      have hn := Lib.hid (show xs.length + tot (xs.take (k + 1)) = xs.length + tot (xs.take k) + S.size by rw [htf.out, HS.out]; omega)
      have hT : xs.length + tot (xs.take k) ≤ 1048576 := by omega
      clear hm hx
      generalize xs.length + tot (xs.take k) = T at hn hT ⊢
      have b1 : (T : Int) + S.size ≤ 1000000000000000000 := by omega
      go_wp2
      go_roundw
      case rel => exact ⟨k + 1, by omega, by go_num, by rw [hn.out]; go_num, trivial⟩
      case measure => simp [intOf]; omega
    · have hb2 := HB.out
      rw [List.take_of_length_le (by omega)] at hm ⊢
      have hT : xs.length + tot xs ≤ 1048576 := by omega
      generalize xs.length + tot xs = T at hb2 hT ⊢
      have hq := Lib.hid (show decide ((T : Int) ≤ 2000) = b by rw [← hb2]; simp; omega)
      clear hb2 hm
      go_wp2
      go_ret
      exact ⟨by rw [← hq.out]; rfl, rfl⟩

/-- A list of strings whose bulk is bounded. -/
def SlU (w : World) (A : Option Addr) (n c : Nat) (l : List (List UInt8)) : Prop := SlS w A n c l ∧ l.length + tot l ≤ 1048576
theorem bulk_strs {H : Type} (ss : List ByteArray) : (ss.map fun s => s.data.toList).length + tot (ss.map fun s => s.data.toList) ≤ Rows.uptoBulkAll (H := H) (Go.ChangeShapes.strs ss) := by
  induction ss with
  | nil => simp [tot]
  | cons s ss ih =>
    unfold Go.ChangeShapes.strs tot at ih ⊢
    rw [List.map_cons, List.map_cons, List.sum_cons, List.length_cons, List.map_cons]
    simp only [Rows.uptoBulkAll, Rows.uptoBulk]
    omega
section
variable {H : Type} {enc : TypeId × Value → H} {P : Program} {w : World} {base : Nat} {spare : Nat → Bool} {held : Bool}
theorem open_slU {t e : TypeId} {fuel : Nat} {A : Option Addr} {n c : Nat} {d : DataW H} {pl : List MemPlace} (ht : P.underlying t = some (.slice e)) (he : P.underlying e = some .string) (hce : P.cellsOf e = 1)
    (h : DataW.trod enc P w base spare held fuel t (Value.slice A n c).cells.toList = some (d, pl)) (hz : n ≤ 140737488351232) (hb : Rows.uptoBulk d ≤ 1048576) : ∃ l, SlU w A n c l := by
  rcases Go.ChangeShapes.open_strings ht he hce h with ⟨hcs, _⟩ | ⟨ad, len, cap, ss, hcs, _, hl, hm, hzl, hx, hcell, hws⟩
  · simp [Value.cells] at hcs
    obtain ⟨rfl, rfl, rfl⟩ := hcs
    exact ⟨[], ⟨rfl, Nat.le_refl _, Nat.zero_le _, fun _ => rfl, hz, Rds.empty, by simp⟩, by simp [tot]⟩
  · simp [Value.cells] at hcs
    obtain ⟨rfl, rfl, rfl⟩ := hcs
    injection hx with hx _
    subst hx
    have hlen : n ≤ ss.length := by rw [hzl]; split <;> omega
    have hll : ((ss.take n).map fun s => s.data.toList).length = n := by simp; omega
    refine ⟨(ss.take n).map fun s => s.data.toList, ⟨hll.symm, hl, hm, (fun h => by cases h), hz, rds_cells (len := n) _ (by simp; omega) ?_, fun y hy => ?_⟩, ?_⟩
    · intro i u hu
      have hi : i < n := by
        rcases Nat.lt_or_ge i n with hi | hi
        · exact hi
        · rw [List.getElem?_eq_none (by simp; omega)] at hu; cases hu
      rw [hcell i (by omega), ← hu]
      simp [hi, List.getD_eq_getElem?_getD, show i < ss.length from by omega]
      exact sv_of _
    · obtain ⟨s, hs, rfl⟩ := List.mem_map.1 hy
      rw [size_of]
      exact hws s (List.mem_of_mem_take hs)
    · have := bulk_strs (H := H) (ss.take n)
      simp only [Rows.uptoBulk] at hb
      omega
end

set_option maxRecDepth 100000 in
set_option maxHeartbeats 2000000 in
theorem walk_encode (n : Int) (s : List UInt8) (A2 : Option Addr) (c2 : Nat) (l : List Int) (A3 : Option Addr) (c3 : Nat) (x : List (List UInt8)) (A4 : Option Addr) (c4 : Nat) (d : List (List UInt8)) (w : World)
    (hn : Wm.Fits n) (hs : s.length ≤ 140737488351232) (hL : SlI w A2 l.length c2 l) (hX : SlU w A3 x.length c3 x) (hD : SlD w A4 d.length c4 d) :
    Calls Try.prog 3 #[.int .i64 n, sv s, .slice A2 l.length c2, .slice A3 x.length c3, .slice A4 d.length c4] w (OkEnd true w) := by
  have HS := Lib.hid (bs_size s)
  have z1 := hL.reach
  have z2 := hX.2
  have z3 := hD.reach
  have t2 : ((bs s).size : Int) ≤ 140737488351232 := by rw [HS.out]; omega
  have t3 : (l.length : Int) ≤ 140737488351232 := by omega
  have t4 : (x.length : Int) ≤ 1048576 := by omega
  have t5 : (d.length : Int) ≤ 140737488351232 := by omega
  by_cases h1 : 2000 < s.length + l.length + d.length
  · unfold sv
    generalize bs s = S at HS t2
    have t : 2000 < (S.size : Int) + l.length + d.length := by rw [HS.out]; omega
    clear hL hX hD
    go_enter Try.func3, Try.ntmps3
    go_wp2_with fail
    refine (sanity_any _).mono ?_
    rintro e w1 ⟨rfl, hb1⟩
    go_wp2
    go_ret
    exact ⟨rfl, hb1⟩
  by_cases h3 : ¬ x.length + tot x ≤ 2000
  · have HF := Lib.hid (few_sum x A3 c3 w hX.1.rds hX.2 false (by simp; omega))
    unfold sv
    generalize bs s = S at HS t2
    have t : ¬ 2000 < (S.size : Int) + l.length + d.length := by rw [HS.out]; omega
    clear hL hX hD
    go_enter Try.func3, Try.ntmps3
    go_wp2_with fail
    refine HF.out.mono ?_
    rintro e w1 ⟨rfl, rfl⟩
    go_wp2_with fail
    refine (sanity_any _).mono ?_
    rintro e w1 ⟨rfl, hb1⟩
    go_wp2
    go_ret
    exact ⟨rfl, hb1⟩
  rw [Classical.not_not] at h3
  have HF := Lib.hid (few_sum x A3 c3 w hX.1.rds hX.2 true (by simp; omega))
  have fl3 := tot_flat x
  have M0 := Lib.hid (fun W => int_any n W hn)
  have M1 := Lib.hid (fun W => bytes_any s W (by omega))
  have M2 := Lib.hid (fun W hW => ints_any l A2 c2 W hW (by omega) hL.fits)
  have M3 := Lib.hid (fun W hW => strings_any x A3 c3 W hW (by omega) (by omega))
  have M4 := Lib.hid (fun W hW => digests_any d A4 c4 W hW (by omega) hD.size)
  have K0 := Lib.hid (fun W => refInt_any n W hn)
  have K1 := Lib.hid (fun W => refBytes_any s W (by omega))
  have K2 := Lib.hid (fun W hW => refInts_any l A2 c2 W hW (by omega) hL.fits)
  have K3 := Lib.hid (fun W hW => refStrings_any x A3 c3 W hW (by omega) (by omega))
  have K4 := Lib.hid (fun W hW => refDigests_any d A4 c4 W hW (by omega) hD.size)
  have r2 := hL.rds
  have r3 := hX.1.rds
  have r4 := hD.rds
  unfold sv at M1 K1 ⊢
  generalize bs s = S at HS t2 M1 K1
  have t : ¬ 2000 < (S.size : Int) + l.length + d.length := by rw [HS.out]; omega
  clear hL hX hD fl3 h1 h3
  generalize Wm.enc n = L0 at M0 K0
  generalize Wm.encBytes s = L1 at M1 K1
  generalize Wm.encList Wm.enc l = L2 at M2 K2
  generalize Wm.encList Wm.encBytes x = L3 at M3 K3
  generalize Wm.encList id d = L4 at M4 K4
  go_enter Try.func3, Try.ntmps3
  go_wp2_with fail
  refine HF.out.mono ?_
  rintro e w1 ⟨rfl, rfl⟩
  go_wp2_with fail
  refine (sanity_any _).mono ?_
  rintro e w1 ⟨rfl, hq⟩
  go_wp2_with fail
  refine (M0.out _).mono ?_
  intro e w2 h
  obtain ⟨B, k, rfl, _, _, _, q1, b1⟩ := NewEnd.slice h
  clear h
  replace hq := hq.trans (b1.mono hq.size)
  go_wp2_with fail
  refine (K0.out _).mono ?_
  intro e w3 h
  obtain ⟨B', k', rfl, _, _, _, q2, b2⟩ := NewEnd.slice h
  clear h
  replace hq := hq.trans (b2.mono hq.size)
  go_wp2_with fail
  refine (same_any L0 L0 B B' k k' _ (q1.below b2) q2).mono ?_
  rintro e w4 ⟨rfl, rfl⟩
  rw [show (L0 == L0) = true from by simp]
  clear q1 q2 b1 b2
  go_wp2_with fail
  refine (M1.out _).mono ?_
  intro e w2 h
  obtain ⟨B, k, rfl, _, _, _, q1, b1⟩ := NewEnd.slice h
  clear h
  replace hq := hq.trans (b1.mono hq.size)
  go_wp2_with fail
  refine (K1.out _).mono ?_
  intro e w3 h
  obtain ⟨B', k', rfl, _, _, _, q2, b2⟩ := NewEnd.slice h
  clear h
  replace hq := hq.trans (b2.mono hq.size)
  go_wp2_with fail
  refine (same_any L1 L1 B B' k k' _ (q1.below b2) q2).mono ?_
  rintro e w4 ⟨rfl, rfl⟩
  rw [show (L1 == L1) = true from by simp]
  clear q1 q2 b1 b2
  go_wp2_with fail
  refine (M2.out _ ((r2.below hq).more hq.size)).mono ?_
  intro e w2 h
  obtain ⟨B, k, rfl, _, _, _, q1, b1⟩ := NewEnd.slice h
  clear h
  replace hq := hq.trans (b1.mono hq.size)
  go_wp2_with fail
  refine (K2.out _ ((r2.below hq).more hq.size)).mono ?_
  intro e w3 h
  obtain ⟨B', k', rfl, _, _, _, q2, b2⟩ := NewEnd.slice h
  clear h
  replace hq := hq.trans (b2.mono hq.size)
  go_wp2_with fail
  refine (same_any L2 L2 B B' k k' _ (q1.below b2) q2).mono ?_
  rintro e w4 ⟨rfl, rfl⟩
  rw [show (L2 == L2) = true from by simp]
  clear q1 q2 b1 b2
  go_wp2_with fail
  refine (M3.out _ ((r3.below hq).more hq.size)).mono ?_
  intro e w2 h
  obtain ⟨B, k, rfl, _, _, _, q1, b1⟩ := NewEnd.slice h
  clear h
  replace hq := hq.trans (b1.mono hq.size)
  go_wp2_with fail
  refine (K3.out _ ((r3.below hq).more hq.size)).mono ?_
  intro e w3 h
  obtain ⟨B', k', rfl, _, _, _, q2, b2⟩ := NewEnd.slice h
  clear h
  replace hq := hq.trans (b2.mono hq.size)
  go_wp2_with fail
  refine (same_any L3 L3 B B' k k' _ (q1.below b2) q2).mono ?_
  rintro e w4 ⟨rfl, rfl⟩
  rw [show (L3 == L3) = true from by simp]
  clear q1 q2 b1 b2
  go_wp2_with fail
  refine (M4.out _ ((r4.below hq).more hq.size)).mono ?_
  intro e w2 h
  obtain ⟨B, k, rfl, _, _, _, q1, b1⟩ := NewEnd.slice h
  clear h
  replace hq := hq.trans (b1.mono hq.size)
  go_wp2_with fail
  refine (K4.out _ ((r4.below hq).more hq.size)).mono ?_
  intro e w3 h
  obtain ⟨B', k', rfl, _, _, _, q2, b2⟩ := NewEnd.slice h
  clear h
  replace hq := hq.trans (b2.mono hq.size)
  go_wp2_with fail
  refine (same_any L4 L4 B B' k k' _ (q1.below b2) q2).mono ?_
  rintro e w4 ⟨rfl, rfl⟩
  rw [show (L4 == L4) = true from by simp]
  clear q1 q2 b1 b2
  go_wp2
  go_ret
  exact ⟨rfl, hq⟩
end Go.Proofs.Ythnbiegpfjnadaa
