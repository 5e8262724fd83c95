/-
  WireListRoundTrip: the walk.
-/
import Derived.Test.YthnbiegpfjnadaaLawG
import Derived.Test.YthnbiegpfjnadaaApp
namespace Go.Proofs.Ythnbiegpfjnadaa
open Go.RowKit

set_option maxRecDepth 100000 in
set_option maxHeartbeats 2000000 in
theorem walk_listround (s : List UInt8) (A2 : Option Addr) (c2 : Nat) (l : List Int) (A3 : Option Addr) (c3 : Nat) (x : List (List UInt8)) (A4 : Option Addr) (c4 : Nat) (d : List (List UInt8)) (A5 : Option Addr) (c5 : Nat) (T : List UInt8) (w : World)
    (hs : s.length ≤ 140737488351232) (hL : SlI w A2 l.length c2 l) (hX : SlU w A3 x.length c3 x) (hD : SlD w A4 d.length c4 d) (hT : SlB w A5 T.length c5 T) :
    Calls Try.prog 8 #[sv s, .slice A2 l.length c2, .slice A3 x.length c3, .slice A4 d.length c4, .slice A5 T.length c5] w (OkEnd true w) := by
  have HS := Lib.hid (bs_size s)
  have z1 := hL.reach
  have z2 := hX.2
  have z3 := hD.reach
  have z4 := hT.reach
  have t2 : ((bs s).size : Int) ≤ 140737488351232 := by rw [HS.out]; omega
  have t3 : (l.length : Int) ≤ 140737488351232 := by omega
  have t4 : (x.length : Int) ≤ 1048576 := by omega
  have t5 : (d.length : Int) ≤ 140737488351232 := by omega
  have t6 : (T.length : Int) ≤ 140737488351232 := by omega
  by_cases h1 : 2000 < s.length + l.length + d.length + T.length
  · unfold sv
    generalize bs s = S at HS t2
    have t : 2000 < (S.size : Int) + l.length + d.length + T.length := by rw [HS.out]; omega
    clear hL hX hD hT
    go_enter Try.func8, Try.ntmps8
    go_wp2_with fail
    refine (sanity_any _).mono ?_
    rintro e w1 ⟨rfl, hb1⟩
    go_wp2
    go_ret
    exact ⟨rfl, hb1⟩
  by_cases h3 : ¬ x.length + tot x ≤ 2000
  · have HF := Lib.hid (few_sum x A3 c3 w hX.1.rds hX.2 false (by simp; omega))
    unfold sv
    generalize bs s = S at HS t2
    have t : ¬ 2000 < (S.size : Int) + l.length + d.length + T.length := by rw [HS.out]; omega
    clear hL hX hD hT
    go_enter Try.func8, Try.ntmps8
    go_wp2_with fail
    refine HF.out.mono ?_
    rintro e w1 ⟨rfl, rfl⟩
    go_wp2_with fail
    refine (sanity_any _).mono ?_
    rintro e w1 ⟨rfl, hb1⟩
    go_wp2
    go_ret
    exact ⟨rfl, hb1⟩
  rw [Classical.not_not] at h3
  have HF := Lib.hid (few_sum x A3 c3 w hX.1.rds hX.2 true (by simp; omega))
  have hxm : ∀ y ∈ x, y.length ≤ 2000 := fun y hy => by have := tot_mem hy; omega
  have fl2 := Wm.flat_len Wm.enc 10 l (fun x _ => Wm.enc_len x)
  have fl3 := tot_flat x
  have fl4 := Wm.flat_len id 16 d (fun y hy => Nat.le_of_eq (hD.size y hy))
  have e1 := Wm.enc_len s.length
  have e2 := Wm.enc_len l.length
  have e3 := Wm.enc_len x.length
  have e4 := Wm.enc_len d.length
  have m1 : (Wm.encBytes s).length ≤ 50000 := by unfold Wm.encBytes; rw [List.length_append]; omega
  have m2 : (Wm.encList Wm.enc l).length ≤ 50000 := by unfold Wm.encList; rw [List.length_append]; omega
  have m4 : (Wm.encList Wm.encBytes x).length ≤ 50000 := by unfold Wm.encList; rw [List.length_append]; omega
  have m3 : (Wm.encList id d).length ≤ 50000 := by unfold Wm.encList; rw [List.length_append]; omega
  have p1 := encBytes_pos s
  have p2 : 0 < (Wm.encList Wm.enc l).length := by unfold Wm.encList; rw [List.length_append]; have := Wm.enc_pos l.length; omega
  have p4 : 0 < (Wm.encList Wm.encBytes x).length := by unfold Wm.encList; rw [List.length_append]; have := Wm.enc_pos x.length; omega
  have p3 : 0 < (Wm.encList id d).length := by unfold Wm.encList; rw [List.length_append]; have := Wm.enc_pos d.length; omega
  have M1 := Lib.hid (fun W => bytes_any s W (by omega))
  have M2 := Lib.hid (fun W hW => ints_any l A2 c2 W hW (by omega) hL.fits)
  have M4 := Lib.hid (fun W hW => strings_any x A3 c3 W hW (by omega) (by omega))
  have M3 := Lib.hid (fun W hW => digests_any d A4 c4 W hW (by omega) hD.size)
  have R1 := Lib.hid (Wm.getBytes_enc s T (by omega))
  have R2 := Lib.hid (Wm.getList_enc (get := Wm.getInt) (f := Wm.enc) 1 (by omega) l (by omega) (fun x _ => Wm.enc_pos x) (fun x hx t => Wm.getInt_enc x (hL.fits x hx) t) T)
  have R3 := Lib.hid (Wm.getList_enc (get := Wm.getDigest) (f := id) 16 (by omega) d (by omega) (fun y hy => Nat.le_of_eq (hD.size y hy).symm) (fun y hy t => Wm.getDigest_enc y t (hD.size y hy)) T)
  have R4 := Lib.hid (Wm.getList_enc (get := Wm.getBytes) (f := Wm.encBytes) 1 (by omega) x (by omega) (fun y _ => encBytes_pos y) (fun y hy t => Wm.getBytes_enc y t (by have := hxm y hy; omega)) T)
  have r2 := hL.rds
  have r3 := hX.1.rds
  have r4 := hD.rds
  have r5 := hT.rds
  have hdz := Lib.hid hD.size
  have S1 := Lib.hid (bs_toList s)
  unfold sv at M1 ⊢
  generalize hSb : bs s = S at HS t2 M1 S1
  have HSb := Lib.hid hSb
  clear hSb
  have t : ¬ 2000 < (S.size : Int) + l.length + d.length + T.length := by rw [HS.out]; omega
  have tl : T.length ≤ 2000 := by omega
  have ll : l.length ≤ 2000 := by omega
  have lx : x.length ≤ 2000 := by omega
  have ld : d.length ≤ 2000 := by omega
  clear hL hX hD hT fl2 fl3 fl4 e1 e2 e3 e4 h1 h3 hxm
  generalize Wm.encBytes s = L1 at M1 R1 m1 p1
  generalize Wm.encList Wm.enc l = L2 at M2 R2 m2 p2
  generalize Wm.encList id d = L3 at M3 R3 m3 p3
  generalize Wm.encList Wm.encBytes x = L4 at M4 R4 m4 p4
  have HG1 : Hid (∀ (W : World) (A' : Option Addr) (c' : Nat), Rds W W.heap.size A' ((L1 ++ T).map bv) → L1.length + T.length ≤ c' → Calls Try.prog 26 #[.slice A' (L1.length + T.length) c'] W (GbEnd (L1 ++ T) W)) := by
    intro W A' c' hr hc
    have := getBytes_any (L1 ++ T) A' c' W hr (by rw [List.length_append]; omega) (by rw [List.length_append]; omega)
    rwa [List.length_append] at this
  have HG2 : Hid (∀ (W : World) (A' : Option Addr) (c' : Nat), Rds W W.heap.size A' ((L2 ++ T).map bv) → L2.length + T.length ≤ c' → Calls Try.prog 28 #[.slice A' (L2.length + T.length) c'] W (GiEnd (Wm.getList Wm.getInt 1 (L2 ++ T)) W)) := by
    intro W A' c' hr hc
    have := getInts_any (L2 ++ T) A' c' W hr (by rw [List.length_append]; omega) (by rw [List.length_append]; omega)
    rwa [List.length_append] at this
  have HG3 : Hid (∀ (W : World) (A' : Option Addr) (c' : Nat), Rds W W.heap.size A' ((L3 ++ T).map bv) → L3.length + T.length ≤ c' → Calls Try.prog 34 #[.slice A' (L3.length + T.length) c'] W (GxEnd (Wm.getList Wm.getDigest 16 (L3 ++ T)) W)) := by
    intro W A' c' hr hc
    have := getDigests_any (L3 ++ T) A' c' W hr (by rw [List.length_append]; omega) (by rw [List.length_append]; omega)
    rwa [List.length_append] at this
  have HG4 : Hid (∀ (W : World) (A' : Option Addr) (c' : Nat), Rds W W.heap.size A' ((L4 ++ T).map bv) → L4.length + T.length ≤ c' → Calls Try.prog 31 #[.slice A' (L4.length + T.length) c'] W (GsEnd (Wm.getList Wm.getBytes 1 (L4 ++ T)) W)) := by
    intro W A' c' hr hc
    have := getStrings_any (L4 ++ T) A' c' W hr (by rw [List.length_append]; omega) (by rw [List.length_append]; omega)
    rwa [List.length_append] at this
  go_enter Try.func8, Try.ntmps8
  go_wp2_with fail
  refine HF.out.mono ?_
  rintro e w1 ⟨rfl, rfl⟩
  clear HF
  go_wp2_with fail
  refine (M1.out _).mono ?_
  intro e w1 h
  obtain ⟨B1, k1, rfl, j1, _, _, q1, b1⟩ := NewEnd.slice h
  clear h
  have hq := b1
  go_wp2_with fail
  refine (M2.out _ ((r2.below hq).more hq.size)).mono ?_
  intro e w2 h
  obtain ⟨B2, k2, rfl, j2, _, _, q2, b2⟩ := NewEnd.slice h
  clear h
  replace hq := hq.trans (b2.mono hq.size)
  replace q1 := (q1.below b2).more b2.size
  go_wp2_with fail
  refine (M3.out _ ((r4.below hq).more hq.size)).mono ?_
  intro e w3 h
  obtain ⟨B3, k3, rfl, j3, _, _, q3, b3⟩ := NewEnd.slice h
  clear h
  replace hq := hq.trans (b3.mono hq.size)
  replace q1 := (q1.below b3).more b3.size
  replace q2 := (q2.below b3).more b3.size
  go_wp2_with fail
  refine (M4.out _ ((r3.below hq).more hq.size)).mono ?_
  intro e w4 h
  obtain ⟨B4, k4, rfl, j4, _, _, q4, b4⟩ := NewEnd.slice h
  clear h
  replace hq := hq.trans (b4.mono hq.size)
  replace q1 := (q1.below b4).more b4.size
  replace q2 := (q2.below b4).more b4.size
  replace q3 := (q3.below b4).more b4.size
  clear b1 b2 b3 b4 M1 M2 M3 M4
  generalize hN1 : L1.length = N1 at HG1 m1 p1 j1 R1 ⊢
  have HN1 := Lib.hid hN1
  clear hN1
  go_wp2_with (at_builtin; go_must (refine push_full rfl _ _ rfl L1 T N1 T.length HN1.out.symm rfl p1 _ _ B1 A5 c5 rfl rfl q1 (r5.below hq) (by omega) ?_); intro A6 k6 w6 q6 j6 b6)
  replace hq := hq.trans (b6.mono hq.size)
  replace q2 := (q2.below b6).more b6.size
  replace q3 := (q3.below b6).more b6.size
  replace q4 := (q4.below b6).more b6.size
  go_wp2_with fail
  refine (HG1.out _ _ _ q6 j6).mono ?_
  rintro e w7 ⟨rfl, rfl⟩
  rw [R1.out]
  unfold sv
  rw [HSb.out]
  clear q6 j6 b6 HG1 R1
  generalize hN2 : L2.length = N2 at HG2 m2 p2 j2 R2 ⊢
  have HN2 := Lib.hid hN2
  clear hN2
  go_wp2_with (at_builtin; go_must (refine push_full rfl _ _ rfl L2 T N2 T.length HN2.out.symm rfl p2 _ _ B2 A5 c5 rfl rfl q2 (r5.below hq) (by omega) ?_); intro A6 k6 w6 q6 j6 b6)
  replace hq := hq.trans (b6.mono hq.size)
  replace q3 := (q3.below b6).more b6.size
  replace q4 := (q4.below b6).more b6.size
  go_wp2_with fail
  refine (HG2.out _ _ _ q6 j6).mono ?_
  intro e w7 h
  obtain ⟨D2, g2, rfl, _, _, _, u2, b7⟩ := GlEnd.slice h
  clear h
  rw [R2.out] at u2 ⊢
  replace hq := hq.trans (b7.mono hq.size)
  replace q3 := (q3.below b7).more b7.size
  replace q4 := (q4.below b7).more b7.size
  clear q6 j6 b6 b7 HG2 R2
  generalize hN3 : L3.length = N3 at HG3 m3 p3 j3 R3 ⊢
  have HN3 := Lib.hid hN3
  clear hN3
  go_wp2_with (at_builtin; go_must (refine push_full rfl _ _ rfl L3 T N3 T.length HN3.out.symm rfl p3 _ _ B3 A5 c5 rfl rfl q3 (r5.below hq) (by omega) ?_); intro A6 k6 w6 q6 j6 b6)
  replace hq := hq.trans (b6.mono hq.size)
  replace q4 := (q4.below b6).more b6.size
  replace u2 := (u2.below b6).more b6.size
  go_wp2_with fail
  refine (HG3.out _ _ _ q6 j6).mono ?_
  intro e w7 h
  obtain ⟨D3, g3, rfl, _, _, _, u3, b7⟩ := GlEnd.slice h
  clear h
  rw [R3.out] at u3 ⊢
  replace hq := hq.trans (b7.mono hq.size)
  replace q4 := (q4.below b7).more b7.size
  replace u2 := (u2.below b7).more b7.size
  clear q6 j6 b6 b7 HG3 R3
  generalize hN4 : L4.length = N4 at HG4 m4 p4 j4 R4 ⊢
  have HN4 := Lib.hid hN4
  clear hN4
  go_wp2_with (at_builtin; go_must (refine push_full rfl _ _ rfl L4 T N4 T.length HN4.out.symm rfl p4 _ _ B4 A5 c5 rfl rfl q4 (r5.below hq) (by omega) ?_); intro A6 k6 w6 q6 j6 b6)
  replace hq := hq.trans (b6.mono hq.size)
  replace u2 := (u2.below b6).more b6.size
  replace u3 := (u3.below b6).more b6.size
  go_wp2_with fail
  refine (HG4.out _ _ _ q6 j6).mono ?_
  intro e w7 h
  obtain ⟨D4, g4, rfl, _, _, _, u4, b7⟩ := GlEnd.slice h
  clear h
  rw [R4.out] at u4 ⊢
  replace hq := hq.trans (b7.mono hq.size)
  replace u2 := (u2.below b7).more b7.size
  replace u3 := (u3.below b7).more b7.size
  clear q6 j6 b6 b7 HG4 R4
  have ts : (S.toList == S.toList) = true := by simp
  go_wp2_with fail
  refine (sanity_any _).mono ?_
  rintro e w7 ⟨rfl, b7⟩
  replace hq := hq.trans (b7.mono hq.size)
  replace u2 := (u2.below b7).more b7.size
  replace u3 := (u3.below b7).more b7.size
  replace u4 := (u4.below b7).more b7.size
  go_wp2_with fail
  refine (sameTexts_any x x D4 A3 g4 c3 _ u4 (r3.below hq) (by omega)).mono ?_
  intro e w8 h
  obtain ⟨rfl, b8⟩ := h.below
  clear h
  rw [show (x == x) = true from by simp]
  replace hq := hq.trans (b8.mono hq.size)
  replace u2 := (u2.below b8).more b8.size
  replace u3 := (u3.below b8).more b8.size
  go_wp2_with fail
  refine (sameInts_any l l D2 A2 g2 c2 _ u2 (r2.below hq) (by omega)).mono ?_
  intro e w9 h
  obtain ⟨rfl, b9⟩ := h.below
  clear h
  rw [show (l == l) = true from by simp]
  replace hq := hq.trans (b9.mono hq.size)
  replace u3 := (u3.below b9).more b9.size
  go_wp2_with fail
  refine (sameDigs_any d d D3 A4 g3 c4 _ u3 (r4.below hq) hdz.out hdz.out (by omega)).mono ?_
  intro e w10 h
  obtain ⟨rfl, b10⟩ := h.below
  clear h
  rw [show (d == d) = true from by simp]
  replace hq := hq.trans (b10.mono hq.size)
  go_wp2
  go_ret
  exact ⟨rfl, hq⟩
end Go.Proofs.Ythnbiegpfjnadaa
