/-
  WireDecodeMatchesSpec: the walk.
-/
import Derived.Test.YthnbiegpfjnadaaLawD
import Derived.Test.YthnbiegpfjnadaaRefD
import Derived.Test.YthnbiegpfjnadaaRefX
namespace Go.Proofs.Ythnbiegpfjnadaa
open Go.RowKit

set_option maxRecDepth 100000 in
set_option maxHeartbeats 2000000 in
theorem walk_decode (A : Option Addr) (c : Nat) (l : List UInt8) (w : World) (h : SlB w A l.length c l) :
    Calls Try.prog 4 #[.slice A l.length c] w (OkEnd true w) := by
  have hreach := h.reach
  have hcap := h.cap
  by_cases hbig : 2000 < l.length
  · clear h
    go_enter Try.func4, Try.ntmps4
    go_wp2_with fail
    refine (sanity_any _).mono ?_
    rintro e w1 ⟨rfl, hb1⟩
    go_wp2
    go_ret
    exact ⟨rfl, hb1⟩
  · have hr := h.rds
    clear h
    have H1 := Lib.hid (getInt_any l A c w hr (by unfold maxLen; omega))
    have G1 := Lib.hid (refGetInt_any l A c w hr (by unfold maxLen; omega))
    have H2 := Lib.hid (getBytes_any l A c w hr (by omega) hcap)
    have G2 := Lib.hid (refGetBytes_any l A c w hr (by omega) hcap)
    have H3 := Lib.hid (getInts_any l A c w hr (by omega) hcap)
    have G3 := Lib.hid (fun W hW => refGetInts_any l A c W hW (by omega) hcap)
    have H4 := Lib.hid (fun W hW => getStrings_any l A c W hW (by omega) hcap)
    have G4 := Lib.hid (fun W hW => refGetStrings_any l A c W hW (by omega) hcap)
    have H5 := Lib.hid (fun W hW => getDigests_any l A c W hW (by omega) hcap)
    have G5 := Lib.hid (fun W hW => refGetDigests_any l A c W hW (by omega) hcap)
    have L3 := Lib.hid (getList_len (get := Wm.getInt) l 1)
    have L4 := Lib.hid (getList_len (get := Wm.getBytes) l 1)
    have L5 := Lib.hid (getDigs l).2.2
    have D5 := Lib.hid (getDigs l).1
    go_enter Try.func4, Try.ntmps4
    go_wp2_with fail
    refine H1.out.mono ?_
    rintro e w1 ⟨rfl, rfl⟩
    go_wp2_with fail
    refine G1.out.mono ?_
    rintro e w1 ⟨rfl, rfl⟩
    clear H1 G1
    generalize Wm.getInt l = r1
    obtain ⟨n1, u1, e1⟩ := r1
    go_wp2_with fail
    refine H2.out.mono ?_
    rintro e w1 ⟨rfl, rfl⟩
    go_wp2_with fail
    refine G2.out.mono ?_
    rintro e w1 ⟨rfl, rfl⟩
    clear H2 G2
    generalize Wm.getBytes l = r2
    obtain ⟨n2, u2, e2⟩ := r2
    unfold sv
    simp only
    generalize bs n2 = S2
    have ts : (S2.toList != S2.toList) = false := by simp
    go_wp2_with fail
    refine H3.out.mono ?_
    intro e w3 h3
    obtain ⟨A3, c3, rfl, _, _, _, hr3, hb3⟩ := GlEnd.slice h3
    clear h3 H3
    go_wp2_with fail
    refine (G3.out _ ((hr.below hb3).more hb3.size)).mono ?_
    intro e w4 h4
    obtain ⟨A4, c4, rfl, _, _, _, hr4, hb4⟩ := GlEnd.slice h4
    clear h4 G3
    generalize Wm.getList Wm.getInt 1 l = r3 at hr3 hr4 L3 ⊢
    obtain ⟨n3, u3, e3⟩ := r3
    simp only at hr3 hr4 L3
    have hq := hb3.trans (hb4.mono hb3.size)
    go_wp2_with fail
    refine (sameInts_any n3 n3 A3 A4 c3 c4 _ (hr3.below hb4) hr4 (by have := L3.out; omega)).mono ?_
    intro e w5 h5
    obtain ⟨rfl, hb5⟩ := h5.below
    clear h5 hr3 hr4 hb3 hb4
    rw [show (n3 == n3) = true from by simp]
    replace hq := hq.trans (hb5.mono hq.size)
    clear hb5
    go_wp2_with fail
    refine (H4.out _ ((hr.below hq).more hq.size)).mono ?_
    intro e w3 h3
    obtain ⟨A3, c3, rfl, _, _, _, hr3, hb3⟩ := GlEnd.slice h3
    clear h3 H4
    replace hq := hq.trans (hb3.mono hq.size)
    go_wp2_with fail
    refine (G4.out _ ((hr.below hq).more hq.size)).mono ?_
    intro e w4 h4
    obtain ⟨A4, c4, rfl, _, _, _, hr4, hb4⟩ := GlEnd.slice h4
    clear h4 G4
    replace hq := hq.trans (hb4.mono hq.size)
    generalize Wm.getList Wm.getBytes 1 l = r4 at hr3 hr4 L4 ⊢
    obtain ⟨n4, u4, e4⟩ := r4
    simp only at hr3 hr4 L4
    go_wp2_with fail
    refine (sameTexts_any n4 n4 A3 A4 c3 c4 _ (hr3.below hb4) hr4 (by have := L4.out; omega)).mono ?_
    intro e w5 h5
    obtain ⟨rfl, hb5⟩ := h5.below
    clear h5 hr3 hr4 hb3 hb4
    rw [show (n4 == n4) = true from by simp]
    replace hq := hq.trans (hb5.mono hq.size)
    clear hb5
    go_wp2_with fail
    refine (H5.out _ ((hr.below hq).more hq.size)).mono ?_
    intro e w3 h3
    obtain ⟨A3, c3, rfl, _, _, _, hr3, hb3⟩ := GlEnd.slice h3
    clear h3 H5
    replace hq := hq.trans (hb3.mono hq.size)
    go_wp2_with fail
    refine (G5.out _ ((hr.below hq).more hq.size)).mono ?_
    intro e w4 h4
    obtain ⟨A4, c4, rfl, _, _, _, hr4, hb4⟩ := GlEnd.slice h4
    clear h4 G5
    replace hq := hq.trans (hb4.mono hq.size)
    generalize Wm.getList Wm.getDigest 16 l = r5 at hr3 hr4 L5 D5 ⊢
    obtain ⟨n5, u5, e5⟩ := r5
    simp only at hr3 hr4 L5 D5
    replace hr3 := (hr3.below hb4).more hb4.size
    clear hb3 hb4
    go_wp2_with fail
    refine (sanity_any _).mono ?_
    rintro e w6 ⟨rfl, hb6⟩
    replace hq := hq.trans (hb6.mono hq.size)
    go_wp2_with fail
    refine (sameDigs_any n5 n5 A3 A4 c3 c4 _ (hr3.below hb6) (hr4.below hb6) D5.out D5.out (by have := L5.out; omega)).mono ?_
    intro e w5 h5
    obtain ⟨rfl, hb5⟩ := h5.below
    clear h5
    rw [show (n5 == n5) = true from by simp]
    replace hq := hq.trans (hb5.mono hq.size)
    go_wp2
    go_ret
    exact ⟨rfl, hq⟩
end Go.Proofs.Ythnbiegpfjnadaa
