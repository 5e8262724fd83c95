/-
  WireIntRoundTrip, WireConcat: the walks.
-/
import Derived.Test.YthnbiegpfjnadaaSan
import Derived.Test.YthnbiegpfjnadaaOpen
import Derived.Test.YthnbiegpfjnadaaApp
import Derived.Test.YthnbiegpfjnadaaReg
namespace Go.Proofs.Ythnbiegpfjnadaa
open Go.RowKit

set_option maxRecDepth 100000 in
set_option maxHeartbeats 1000000 in
theorem walk_roundtrip (n : Int) (A : Option Addr) (c : Nat) (l : List UInt8) (w : World) (hn : Wm.Fits n) (h : SlB w A l.length c l) :
    Calls Try.prog 6 #[.int .i64 n, .slice A l.length c] w (OkEnd true w) := by
  by_cases hbig : 2000 < l.length
  · go_enter Try.func6, Try.ntmps6
    go_wp2_with fail
    refine (sanity_any _).mono ?_
    rintro e w1 ⟨rfl, hb1⟩
    go_wp2
    go_ret
    exact ⟨rfl, hb1⟩
  · have p1 := Wm.enc_pos n
    have q1 := Wm.enc_len n
    have hr := h.rds
    have hnil := Lib.hid h.nil
    have R := Lib.hid (Wm.getInt_enc n hn l)
    have H := Lib.hid (int_any n w hn)
    clear h hn
    go_enter Try.func6, Try.ntmps6
    go_wp2_with fail
    refine H.out.mono ?_
    intro e w1 h1
    obtain ⟨A1, c1, rfl, hl1, _, _, hr1, hb1⟩ := NewEnd.slice h1
    clear h1
    have HG : Hid (∀ (W : World) (A' : Option Addr) (c' : Nat), Rds W W.heap.size A' ((Wm.enc n ++ l).map bv) → Calls Try.prog 24 #[.slice A' ((Wm.enc n).length + l.length) c'] W (GetEnd (Wm.enc n ++ l) W)) := by
      intro W A' c' hr
      have := getInt_any (Wm.enc n ++ l) A' c' W hr (by rw [List.length_append]; unfold maxLen; omega)
      rwa [List.length_append] at this
    generalize hL : (Wm.enc n).length = L at HG p1 q1 hl1 R ⊢
    have HL := Lib.hid hL
    clear hL
    go_wp2_with (at_builtin; go_must (refine push_full rfl _ _ rfl (Wm.enc n) l L l.length HL.out.symm rfl p1 _ _ A1 A c rfl rfl hr1 (hr.below hb1) (by omega) ?_); intro A2 c2 w2 hr2 hc2 hb2)
    go_wp2_with fail
    refine (HG.out _ _ _ hr2).mono ?_
    rintro e w3 ⟨rfl, rfl⟩
    rw [R.out]
    go_wp2_with fail
    refine (sanity_any _).mono ?_
    rintro e w3 ⟨rfl, hb3⟩
    have t1 : (1 : Int) ≤ L := by omega
    have t2 : (L : Int) ≤ 10 := by omega
    go_wp2
    go_ret
    exact ⟨rfl, (hb1.trans (hb2.mono hb1.size)).trans (hb3.mono (hb1.trans (hb2.mono hb1.size)).size)⟩
end Go.Proofs.Ythnbiegpfjnadaa
