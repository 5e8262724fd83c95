/-
  WireConcat: the walk.
-/
import Derived.Test.YthnbiegpfjnadaaSan
import Derived.Test.YthnbiegpfjnadaaOpen
import Derived.Test.YthnbiegpfjnadaaWm2
namespace Go.Proofs.Ythnbiegpfjnadaa
open Go.RowKit

theorem OwnB.slice {w : World} {base : Nat} {v : Value} {l : List UInt8} (h : OwnB w base v l) : ∃ A c, v = .slice A l.length c ∧ l.length ≤ c ∧ Rds w w.heap.size A (l.map bv) := by
  obtain ⟨A, c, rfl, h1, _, _, h2⟩ := own_form h
  exact ⟨A, c, rfl, h1, h2⟩

set_option maxRecDepth 100000 in
set_option maxHeartbeats 1000000 in
theorem walk_concat (s : List UInt8) (A : Option Addr) (c : Nat) (l : List Int) (w : World) (hs : s.length ≤ 140737488351232) (h : SlI w A l.length c l) :
    Calls Try.prog 10 #[sv s, .slice A l.length c] w (OkEnd true w) := by
  have hreach := h.reach
  by_cases hbig : 2000 < s.length + l.length
  · have HS := Lib.hid (bs_size s)
    unfold sv
    generalize bs s = S at HS
    have t : 2000 < (S.size : Int) + l.length := by rw [HS.out]; omega
    have t2 : (S.size : Int) ≤ 140737488351232 := by rw [HS.out]; omega
    have t3 : (l.length : Int) ≤ 140737488351232 := by omega
    clear h
    go_enter Try.func10, Try.ntmps10
    go_wp2_with fail
    refine (sanity_any _).mono ?_
    rintro e w1 ⟨rfl, hb1⟩
    go_wp2
    go_ret
    exact ⟨rfl, hb1⟩
  · have HS := Lib.hid (bs_size s)
    have hcap := h.cap
    have hr := h.rds
    have hfl := Wm.flat_len Wm.enc 10 l (fun x _ => Wm.enc_len x)
    have hel := Wm.enc_len s.length
    have hel2 := Wm.enc_len l.length
    have hlb : (Wm.encBytes s).length ≤ 2010 := by unfold Wm.encBytes; rw [List.length_append]; omega
    have hli : (Wm.encList Wm.enc l).length ≤ 20010 := by unfold Wm.encList; rw [List.length_append]; omega
    have H1 := Lib.hid (bytes_any s w (by omega))
    have H2 := Lib.hid (fun W hW => ints_any l A c W hW (by omega) h.fits)
    have R1 := Lib.hid (Wm.getBytes_enc s (Wm.encList Wm.enc l) (by omega))
    have R2 := Wm.getList_enc (get := Wm.getInt) (f := Wm.enc) 1 (by omega) l (by omega) (fun x _ => Wm.enc_pos x) (fun x hx t => Wm.getInt_enc x (h.fits x hx) t) []
    rw [List.append_nil] at R2
    have R2 := Lib.hid R2
    have S1 := Lib.hid (bs_toList s)
    unfold sv at H1 ⊢
    clear h hfl hel hel2
    generalize hS : bs s = S at HS H1 S1
    have HSb := Lib.hid hS
    clear hS
    have t : ¬ 2000 < (S.size : Int) + l.length := by rw [HS.out]; omega
    have t2 : (S.size : Int) ≤ 140737488351232 := by rw [HS.out]; omega
    have t3 : (l.length : Int) ≤ 140737488351232 := by omega
    generalize hEB : Wm.encBytes s = EB at H1 R1 hlb
    have hEL1 : 0 < (Wm.encList Wm.enc l).length := by unfold Wm.encList; rw [List.length_append]; have := Wm.enc_pos l.length; omega
    generalize hEL : Wm.encList Wm.enc l = EL at H2 R1 R2 hli hEL1
    clear hEB hEL
    go_enter Try.func10, Try.ntmps10
    go_wp2_with fail
    refine H1.out.mono ?_
    rintro e w1 ⟨v1, rfl, ho1, hb1⟩
    go_wp2_with fail
    refine (H2.out _ ((hr.below hb1).more hb1.size)).mono ?_
    intro e w2 h2
    obtain ⟨A2, c2, rfl, hl2, _, hn2, hr2, hb2⟩ := NewEnd.slice h2
    clear h2
    have ho1' : OwnB w2 w.heap.size v1 EB := own_below ho1 hb2
    have hb12 := hb1.trans (hb2.mono hb1.size)
    have hz12 := hb12.size
    have HEL := Lib.hid (rfl : EL.length = EL.length)
    go_wp2_with (at_builtin; go_must (refine push_bytes rfl _ _ rfl w.heap.size v1 EB EL _ A2 EL.length c2 rfl hn2 rfl rfl hr2 ho1' (by omega) hz12 ?_); intro v3 w3 ho3 hb3)
    obtain ⟨A3, c3, rfl, hc3, hr3⟩ := OwnB.slice ho3
    have HG := Lib.hid (getBytes_any (EB ++ EL) A3 c3 w3 hr3 (by rw [List.length_append]; omega) hc3)
    have hl3 : (EB ++ EL).length = EB.length + EL.length := List.length_append
    have HI : Hid (∀ W n' c', Below w3.heap.size w3 W → n' = EL.length → n' ≤ c' → Calls Try.prog 28 #[.slice (A3.map (·.add EB.length)) n' c'] W (GiEnd (Wm.getList Wm.getInt 1 EL) W)) := by
      intro W n' c' hW hn hc
      subst hn
      refine getInts_any EL _ c' W ?_ (by omega) hc
      have := ((hr3.below hW).more hW.size).drop EB.length
      rw [← List.map_drop, List.drop_left] at this
      exact this
    generalize (EB ++ EL).length = L3 at hc3 HG hl3 ho3
    generalize hLB : EB.length = LB at HI hl3 hlb R1
    generalize hLI : EL.length = LI at HI hl3 hli R2 hEL1
    have q1 : LB ≤ L3 := by omega
    have q2 : ¬ c3 = LB := by omega
    have q3 := Lib.hid (show L3 - LB = LI by omega)
    have q4 : L3 - LB ≤ c3 - LB := by omega
    have q5 : Hid (((LB : Int) + LI == L3) = true) := by show _ = _; simp; omega
    have hb13 := hb12.trans hb3
    clear hl3 hLB hLI HEL
    go_wp2_with fail
    refine HG.out.mono ?_
    rintro e w4 ⟨rfl, rfl⟩
    rw [R1.out]
    unfold sv
    rw [HSb.out]
    go_wp2_with fail
    refine (HI.out _ _ _ (Below.refl _ _) q3.out q4).mono ?_
    intro e w5 h5
    obtain ⟨A5, c5, rfl, _, _, _, hr5, hb5⟩ := GlEnd.slice h5
    clear h5
    rw [R2.out] at hr5 ⊢
    go_wp2_with fail
    refine (sanity_any _).mono ?_
    rintro e w6 ⟨rfl, hb6⟩
    have hrl := (((hr.below hb13).below (hb5.mono hb13.size)).below (hb6.mono (hb13.trans (hb5.mono hb13.size)).size))
    have ts : (S.toList == S.toList) = true := by simp
    go_wp2_with fail
    refine (sameInts_any l l A5 A c5 c _ (hr5.below hb6) hrl (by omega)).mono ?_
    intro e w7 h7
    obtain ⟨rfl, hb7⟩ := h7.below
    clear h7
    rw [show (l == l) = true from by simp]
    have q6 := q5.out
    go_wp2
    go_ret
    exact ⟨rfl, ((hb13.trans (hb5.mono hb13.size)).trans (hb6.mono (hb13.trans (hb5.mono hb13.size)).size)).trans (hb7.mono ((hb13.trans (hb5.mono hb13.size)).trans (hb6.mono (hb13.trans (hb5.mono hb13.size)).size)).size)⟩
end Go.Proofs.Ythnbiegpfjnadaa
